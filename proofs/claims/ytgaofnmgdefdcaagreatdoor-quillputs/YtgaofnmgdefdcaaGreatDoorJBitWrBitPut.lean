/- What bits' Writer does, call by call: what it has is the bits that were put; only its own block and its row turn, and new memory is made; a nil one does nothing. -/
/- What bits' Writer does at a Put: the number's lowest bits behind those that it has; only its own block and its row turn, and new memory is made. -/
import Derived.Test.YtgaofnmgdefdcaaGreatDoorJBitFnBitRef
import Derived.Deep.RegionHeld3
import Derived.Deep.AppendLies
import Derived.Deep.RegionLaw
import Derived.Deep.CutRange

namespace Go.Proofs.YtgaofnmgdefdcaaGreatDoor.Bw
open Go.RowKit Go.Proofs.YtgaofnmgdefdcaaGreatDoor.Gen Go.Proofs.YtgaofnmgdefdcaaGreatDoor.Cl Go.Proofs.YtgaofnmgdefdcaaGreatDoor.Bp Go.Proofs.YtgaofnmgdefdcaaGreatDoor.Bf

/-- The bits of bytes. -/
def bitsOf (xs : List Int) : List Nat := ofB (xs.map Int.toNat)
theorem bitsOf_len (xs : List Int) : (bitsOf xs).length = 8 * xs.length := by simp [bitsOf, ofB_len]
theorem bitsOf_snoc (xs : List Int) (x : Int) : bitsOf (xs ++ [x]) = bitsOf xs ++ tb x.toNat 8 := by simp [bitsOf, ofB]

/-- Block g is a Writer: whole bytes xs, in a row of its own, v; of last the lowest o bits are open. -/
structure At (base g : Nat) (v : Value) (xs : List Int) (last o : Nat) (w : World) : Prop where
  low : base ≤ g
  size : base ≤ w.heap.size
  form : ∃ A c, v = .slice A xs.length c
  blk : Blk w g 71 #[v, .int .u64 last, .int .i64 o]
  own : w.ownsRow base 5 1 v xs.length (bv xs)
  fit : last < 18446744073709551616
  byte : ∀ x ∈ xs, 0 ≤ x ∧ x < 256
/-- It has these bits. -/
def IsBw (base g : Nat) (v : Value) (l : List Nat) (w : World) : Prop := ∃ xs last o, At base g v xs last o w ∧ o < 8 ∧ l = bitsOf xs ++ tb last o
/-- The blocks that a Writer may turn. -/
def Its (g : Nat) (v : Value) (k : Nat) : Prop := k = g ∨ v.ownBlock = some k
/-- From v in w to v' in w': only its own blocks have turned, and it lies where it lay, or in new memory. -/
structure Moves (g : Nat) (v v' : Value) (w w' : World) : Prop where
  keeps : Keeps (Its g v) w w'
  at_ : v'.ownBlock = v.ownBlock ∨ ∃ b, v'.ownBlock = some b ∧ w.heap.size ≤ b
theorem Moves.refl (g : Nat) (v : Value) (w : World) : Moves g v v w w := ⟨Keeps.refl _ _, .inl rfl⟩
theorem Moves.trans {g : Nat} {v v1 v2 : Value} {w w1 w2 : World} (h : Moves g v v1 w w1) (h2 : Moves g v1 v2 w1 w2) : Moves g v v2 w w2 := by
  obtain ⟨k, ho⟩ := h
  obtain ⟨hk2, ho2⟩ := h2
  refine ⟨⟨hk2.os.trans k.os, hk2.tape.trans k.tape, hk2.output.trans k.output, Nat.le_trans k.size hk2.size, fun b hb hn => ?_⟩, ?_⟩
  · refine (hk2.block b (Nat.lt_of_lt_of_le hb k.size) ?_).trans (k.block b hb hn)
    rintro (rfl | h)
    · exact hn (.inl rfl)
    · rcases ho with ho | ⟨b', ho, hb'⟩
      · exact hn (.inr (ho ▸ h))
      · rw [ho] at h
        injection h with h
        omega
  · rcases ho2 with ho2 | ⟨b', ho2, hb'⟩
    · rw [ho2]
      exact ho
    · exact .inr ⟨b', ho2, Nat.le_trans k.size hb'⟩
/-- Behind a put. -/
def Puts (base g : Nat) (v : Value) (l : List Nat) (w : World) (r : Ending) (w' : World) : Prop :=
  r = .returned (.tuple #[]) ∧ ∃ v', IsBw base g v' l w' ∧ Moves g v v' w w'

theorem At.keeps {S : Nat → Prop} {base g : Nat} {v : Value} {xs : List Int} {last o : Nat} {w w1 : World} (h : At base g v xs last o w) (k : Keeps S w w1) (hn : ∀ b, Its g v b → ¬ S b) : At base g v xs last o w1 :=
  ⟨h.low, Nat.le_trans h.size k.size, h.form, h.blk.keeps k (hn g (.inl rfl)), own_keeps h.own k fun b hb => hn b (.inr hb), h.fit, h.byte⟩
theorem At.drew {base g : Nat} {v : Value} {xs : List Int} {last o : Nat} {w : World} (h : At base g v xs last o w) : At base g v xs last o w.drew := h.keeps (S := fun _ => False) ((Keeps.refl _ _).drewN 1) fun _ _ => id
theorem At.ne {base g : Nat} {v : Value} {xs : List Int} {last o : Nat} {w : World} (h : At base g v xs last o w) : ∀ b, v.ownBlock = some b → b ≠ g := fun b hb e => by
  subst e
  exact own_ne h.own h.blk (by decide) hb
theorem At.set {base g : Nat} {v : Value} {xs : List Int} {last o last' o' : Nat} {w : World} (h : At base g v xs last o w) (i : Nat) (u : Value) (hl : last' < 18446744073709551616)
    (hs : (#[v, .int .u64 last, .int .i64 o] : Array Value).setIfInBounds i u = #[v, .int .u64 last', .int .i64 o']) : At base g v xs last' o' (w.setCell ⟨g, i, none⟩ u) :=
  ⟨h.low, by simpa [World.setCell] using h.size, h.form, hs ▸ h.blk.setCell i u, own_keeps (S := (· = g)) h.own ((Keeps.refl _ _).setOwn _ _) h.ne, hl, h.byte⟩
theorem IsBw.keeps {S : Nat → Prop} {base g : Nat} {v : Value} {l : List Nat} {w w1 : World} (h : IsBw base g v l w) (k : Keeps S w w1) (hn : ∀ b, Its g v b → ¬ S b) : IsBw base g v l w1 := by
  obtain ⟨xs, last, o, h, h2⟩ := h
  exact ⟨xs, last, o, h.keeps k hn, h2⟩
theorem IsBw.its {base g : Nat} {v : Value} {l : List Nat} {w : World} (h : IsBw base g v l w) : ∀ k, Its g v k → base ≤ k ∧ k < w.heap.size := by
  obtain ⟨xs, last, o, h, _⟩ := h
  rintro k (rfl | hk)
  · exact ⟨h.low, h.blk.lt⟩
  · exact h.own.lt k hk
theorem new_bw (w : World) : IsBw w.heap.size w.heap.size (.slice none 0 0) [] (w.alloc (.cells #[.slice none 0 0, .int .u64 0, .int .i64 0] 71)) :=
  ⟨[], 0, 0, ⟨Nat.le_refl _, by simp, ⟨none, 0, rfl⟩, Blk.new _ _ _, World.ownsRow_nil _ _ _ _, by decide, by simp⟩, by decide, rfl⟩

/-- The end of a round of Put: the row that append gave is stored into the Writer. -/
theorem stored {base g : Nat} {v v3 : Value} {xs : List Int} {x last o : Nat} {w w3 : World} (h : At base g v xs last o w) (h7 : Blk w3 g 71 #[v, .int .u64 last, .int .i64 o])
    (ho : w3.ownsRow base 5 1 v3 (xs ++ [(x : Int)]).length (bv (xs ++ [(x : Int)]))) (hx : x < 256) (hk : Keeps (Its g v) w w3) (hat : v3.ownBlock = v.ownBlock ∨ ∃ b, v3.ownBlock = some b ∧ w.heap.size ≤ b) :
    At base g v3 (xs ++ [(x : Int)]) last o (w3.setCell ⟨g, 0, none⟩ v3) ∧ Moves g v v3 w (w3.setCell ⟨g, 0, none⟩ v3) := by
  refine ⟨⟨h.low, ?_, ?_, ?_, ?_, h.fit, ?_⟩, hk.setCell (p := ⟨g, 0, none⟩) (.inl (.inl rfl)) _, hat⟩
  · have := hk.size
    have := h.size
    simp [World.setCell]
    omega
  · obtain ⟨A', c', h, _⟩ := own_form ho
    exact ⟨A', c', h⟩
  · simpa using h7.setCell 0 v3
  · exact own_keeps (S := (· = g)) ho ((Keeps.refl _ _).setOwn _ _) fun b hb' e => by subst e; exact own_ne ho h7 (by decide) hb'
  · intro y hy
    rcases List.mem_append.1 hy with hy | hy
    · exact h.byte y hy
    · rw [List.mem_singleton.1 hy]
      omega

theorem put_none (n s : Int) (w : World) : Calls Tryz.prog 39 #[.pointer none, .int .u32 n, .int .i64 s] w fun r w' => r = .returned (.tuple #[]) ∧ w' = w := by
  go_enter Tryz.func39, Tryz.ntmps39
  go_wp2
  refine bodyPost_ret (results_none rfl _ _ _) rfl ?_
  exact ⟨rfl, rfl⟩
theorem bytes_none (w : World) : Calls Tryz.prog 45 #[.pointer none] w fun r w' => r = .returned (.slice none 0 0) ∧ w' = w := by
  go_enter Tryz.func45, Tryz.ntmps45
  go_wp2
  go_ret
  exact ⟨rfl, rfl⟩

/-- Bytes out of bits, in a row of its own. -/
def Packed (base : Nat) (l : List Nat) (w : World) (r : Ending) (w' : World) : Prop :=
  ∃ A c ys n, ys.length = n ∧ r = .returned (.slice A n c) ∧ IsPack l (ys.map Int.toNat) ∧ (∀ y ∈ ys, 0 ≤ y ∧ y < 256) ∧ w'.ownsRow base 5 1 (.slice A n c) n (bv ys) ∧ Keeps (fun _ => False) w w'
theorem packed_one {l : List Nat} {xs ys : List Int} (h : IsPack l (xs.map Int.toNat)) (h' : IsPack l (ys.map Int.toNat)) (hx : ∀ x ∈ xs, 0 ≤ x ∧ x < 256) (hy : ∀ y ∈ ys, 0 ≤ y ∧ y < 256) : xs = ys := by
  have h1 := congrArg (List.map (fun n : Nat => (n : Int))) (pack_one h h')
  rw [List.map_map, List.map_map] at h1
  have e : ∀ zs : List Int, (∀ z ∈ zs, 0 ≤ z ∧ z < 256) → zs.map ((fun n : Nat => (n : Int)) ∘ Int.toNat) = zs := by
    intro zs hz
    rw [show zs = zs.map id by simp, List.map_map]
    refine List.map_congr_left fun z hm => ?_
    have := hz z (by simpa using hm)
    simp
    omega
  rwa [e xs hx, e ys hy] at h1
theorem whole_pack {xs : List Int} (h : ∀ x ∈ xs, 0 ≤ x ∧ x < 256) : IsPack (bitsOf xs) (xs.map Int.toNat) := pack_whole fun x hx => by
  obtain ⟨y, hy, rfl⟩ := List.mem_map.1 hx
  have := h y hy
  omega
theorem part_pack {xs : List Int} {last o x : Nat} (h : ∀ x ∈ xs, 0 ≤ x ∧ x < 256) (h0 : 0 < o) (h8 : o < 8) (hx : last * 2 ^ (8 - o) % 256 = x) : IsPack (bitsOf xs ++ tb last o) ((xs ++ [(x : Int)]).map Int.toNat) := by
  have hp := pack_part (xs := xs.map Int.toNat) (u := tb last o) (whole_pack h).1 (tb_bit o last) (by rw [tb_len]; exact h0) (by rw [tb_len]; exact h8)
  rw [tb_len, num_tb] at hp
  have e : last % 2 ^ o * 2 ^ (8 - o) = x := by
    rw [← hx, show (256 : Nat) = 2 ^ o * 2 ^ (8 - o) by rw [← Nat.pow_add, show o + (8 - o) = 8 by omega], Nat.mul_mod_mul_right]
  rw [e] at hp
  simpa [bitsOf] using hp
theorem bytes (g base : Nat) (v : Value) (l : List Nat) (w : World) (h : IsBw base g v l w) (hl : l.length ≤ 7999000) :
    Calls Tryz.prog 45 #[.pointer (some ⟨g, 0, none⟩)] w (Packed w.heap.size l w) := by
  obtain ⟨xs, last, o, h, ho, rfl⟩ := h
  obtain ⟨A, c, rfl⟩ := h.form
  have h0 : w.cell? ⟨g, 0, none⟩ = some (.slice A xs.length c) := h.blk.cell 0
  have hxl : xs.length < 1000000 := by
    rw [List.length_append, bitsOf_len, tb_len] at hl
    omega
  have H := Lib.hid h
  clear h hl
  go_enter Tryz.func45, Tryz.ntmps45
  go_wp2_with fail
  refine (clone A c xs w (Lies.of_own H.out.own) (by omega)).mono ?_
  rintro e w1 ⟨A1, c1, rfl, hv, hk⟩
  have HV := Lib.hid hv
  have HK := Lib.hid hk
  have H1 := Lib.hid (H.out.keeps hk (fun _ _ => id))
  have h2 : w1.cell? ⟨g, 2, none⟩ = some (.int .i64 o) := H1.out.blk.cell 2
  clear hv hk h0
  by_cases h00 : o = 0
  · subst h00
    go_wp2
    go_ret
    exact ⟨A1, c1, xs, _, rfl, rfl, by simpa [tb] using whole_pack H.out.byte, H.out.byte, HV.out, HK.out⟩
  · obtain ⟨i0, hi0, hz0, hz1, hz2⟩ := info_parts u8_info
    have h1 : w1.cell? ⟨g, 1, none⟩ = some (.int .u64 last) := H1.out.blk.cell 1
    have hpos : 0 < o := by omega
    have hs0 : (0 : Int) ≤ 8 - (o : Int) := by omega
    have hs1 : IntKind.i64.wrap (8 - (o : Int)) = 8 - (o : Int) := IntWalk.i64_in _ (by omega)
    have hs2 : (8 - (o : Int)).toNat = 8 - o := by omega
    obtain ⟨L, hL⟩ : ∃ L, last * 2 ^ (8 - o) % 18446744073709551616 = L := ⟨_, rfl⟩
    obtain ⟨x, hx⟩ : ∃ x, L % 256 = x := ⟨_, rfl⟩
    have hwl : IntKind.u64.wrap ((last : Int) * 2 ^ (8 - o)) = (L : Int) := by rw [IntKind.wrap_u64, ← hL]; simp
    have hw8 : IntKind.u8.wrap (L : Int) = (x : Int) := by rw [IntKind.wrap_u8, ← hx]; simp
    have HX : Hid (last * 2 ^ (8 - o) % 256 = x) := by
      show last * 2 ^ (8 - o) % 256 = x
      rw [← hx, ← hL]
      omega
    have HXB : Hid (x < 256) := by show x < 256; omega
    have hnews : ∀ j u, [Value.int .u8 (x : Int)][j]? = some u → (w1.alloc (.cells #[.int .u8 (x : Int)] 5)).cell? ((⟨w1.heap.size, 0, none⟩ : Addr).add j) = some u := by
      intro j u hu
      rw [add_none, (Blk.new w1 5 #[.int .u8 (x : Int)]).cell]
      simpa using hu
    have HNW := Lib.hid hnews
    have e1 : (w1.alloc (.cells #[.int .u8 (x : Int)] 5)).cell? ⟨g, 1, none⟩ = some (.int .u64 last) := (H1.out.blk.alloc _).cell 1
    have e2 : (w1.alloc (.cells #[.int .u8 (x : Int)] 5)).cell? ⟨g, 2, none⟩ = some (.int .i64 o) := (H1.out.blk.alloc _).cell 2
    clear hnews hx hL
    go_wp2
    go_region_held3 (fun w' => w'.cell? ⟨g, 1, none⟩ = some (.int .u64 last) ∧ w'.cell? ⟨g, 2, none⟩ = some (.int .i64 o)) (first | exact ⟨e1, e2⟩ | exact ⟨h1, h2⟩ | exact ⟨k1, k2⟩)
      ((refine step_append_lies _ (by rfl) _ _ _ (by rfl) w.heap.size 5 i0 _ 1 1 Tryz.underlying29 hi0 hz0 hz1 hz2 rfl (by omega) (.slice A1 xs.length c1) xs.length (bv xs) (by rfl) (by exact HV.out.alloc _) ⟨w1.heap.size, 0, none⟩ 1 1 [.int .u8 (x : Int)] (by rfl) rfl (by exact HNW.out) (by simp [Value.oneCell']) (by omega) (by simp only [maxLen]; omega) (by omega) (by have := HK.out.size; simp; omega) _ rfl ?_
        intro g3 cap3 w3 hown3 hgrow3 hat3 hlt3
        have h7 : Blk w3 g 71 #[.slice A xs.length c, .int .u64 last, .int .i64 o] := Blk.grown (by exact H1.out.blk.alloc _) hgrow3 (fun e => by have hx1 := (HV.out.lt _ e).1; have hx2 := H.out.blk.lt; omega)
        have k1 : w3.cell? ⟨g, 1, none⟩ = some (.int .u64 last) := h7.cell 1
        have k2 : w3.cell? ⟨g, 2, none⟩ = some (.int .i64 o) := h7.cell 2
        have HO3 := Lib.hid hown3
        have HG3 := Lib.hid hgrow3
        clear h7 hown3 hgrow3 hat3 hlt3))
    go_wp2
    go_ret
    refine ⟨_, _, xs ++ [(x : Int)], _, by simp, rfl, part_pack H.out.byte hpos ho HX.out, ?_, by simpa [bv_append, bv] using HO3.out, Keeps.grown (w1 := (w1.alloc (.cells #[.int .u8 (x : Int)] 5)).drew) (by exact (HK.out.alloc _).drewN 1) HG3.out (fun k hk => .inr (HV.out.lt k hk).1)⟩
    intro y hy
    rcases List.mem_append.1 hy with hy | hy
    · exact H.out.byte y hy
    · rw [List.mem_singleton.1 hy]
      have := HXB.out
      omega
end Go.Proofs.YtgaofnmgdefdcaaGreatDoor.Bw

namespace Go.Proofs.YtgaofnmgdefdcaaGreatDoor.Bw
open Go.RowKit Go.Proofs.YtgaofnmgdefdcaaGreatDoor.Gen Go.Proofs.YtgaofnmgdefdcaaGreatDoor.Cl Go.Proofs.YtgaofnmgdefdcaaGreatDoor.Bp Go.Proofs.YtgaofnmgdefdcaaGreatDoor.Bf

set_option maxHeartbeats 4000000 in
set_option maxRecDepth 100000 in
theorem put (g base : Nat) (v : Value) (l : List Nat) (n : Nat) (s : Int) (w : World) (h : IsBw base g v l w) (hl : l.length + 32 ≤ 8000000) (hn : n < 4294967296) :
    Calls Tryz.prog 39 #[.pointer (some ⟨g, 0, none⟩), .int .u32 n, .int .i64 s] w (Puts base g v (l ++ tb n (sz s)) w) := by
  obtain ⟨xs, last, o, h, ho, rfl⟩ := h
  have hs := sz_le s
  obtain ⟨A, c, rfl⟩ := h.form
  have h0 : w.cell? ⟨g, 0, none⟩ = some (.slice A xs.length c) := h.blk.cell 0
  have h1 : w.cell? ⟨g, 1, none⟩ = some (.int .u64 last) := h.blk.cell 1
  have h2 : w.cell? ⟨g, 2, none⟩ = some (.int .i64 o) := h.blk.cell 2
  have f1 : w.frozen? ⟨g, 1, none⟩ = false := h.blk.frozen 1
  have hfit := h.fit
  have H := Lib.hid h
  clear h
  go_enter Tryz.func39, Tryz.ntmps39
  go_wp2_with fail
  refine (near s _).mono ?_
  rintro e w1 ⟨rfl, rfl⟩
  generalize sz s = t at *
  have ht0 : (0 : Int) ≤ (t : Int) := by omega
  obtain ⟨q, hq⟩ : ∃ q, n % 2 ^ t = q := ⟨_, rfl⟩
  obtain ⟨L, hL⟩ : ∃ L, last * 2 ^ t % 18446744073709551616 = L := ⟨_, rfl⟩
  have hq1 : q < 4294967296 := by have := Nat.mod_le n (2 ^ t); omega
  have hL1 : L < 18446744073709551616 := by omega
  have hwn : IntKind.u64.wrap (n : Int) = (n : Int) := IntWalk.u64_in _ (by omega)
  have hwq : IntKind.u64.wrap (q : Int) = (q : Int) := IntWalk.u64_in _ (by omega)
  have hwl : IntKind.u64.wrap ((last : Int) * 2 ^ t) = (L : Int) := by rw [IntKind.wrap_u64, ← hL]; simp
  have hor : bits .or .u64 (L : Int) (q : Int) = ((push last n t : Nat) : Int) := by rw [u64_or_nat L q hL1 (by omega), ← hL, ← hq, push_or last n (by omega)]
  obtain ⟨P, hP⟩ : ∃ P, push last n t = P := ⟨_, rfl⟩
  rw [hP] at hor
  have HP := Lib.hid hP
  have HPL : Hid (P < 18446744073709551616) := by rw [← hP]; exact push_lt last n (by omega)
  have HQ := Lib.hid hq
  clear hP hq hL
  have HO := Lib.hid ho
  have HL := Lib.hid hl
  have HC2 := Lib.hid h2
  clear ho hl h2 h0
  go_upto_region 2 with fail
  go_cut [2] from 10 (fun sl wx => sl = .int .i64 t ∧ At base g (.slice A xs.length c) xs P o wx ∧ Keeps (Its g (.slice A xs.length c)) w1 wx)
  case first =>
    go_region_with ((go_at_call 66; refine (lowest_q n t q _ (by omega) hs HQ.out).mono ?_; rintro e w2 ⟨rfl, rfl⟩))
    all_goals go_wp2_with fail
    all_goals go_meet
    all_goals exact ⟨rfl, (H.out.set 1 _ HPL.out rfl).drew, ((Keeps.refl _ _).setCell (p := ⟨g, 1, none⟩) (.inl (.inl rfl)) _).drewN 1⟩
  case rest =>
    obtain ⟨rfl, hat, hk⟩ := hcut
    have HA := Lib.hid hat
    have HK := Lib.hid hk
    have c2 : wc.cell? ⟨g, 2, none⟩ = some (.int .i64 o) := hat.blk.cell 2
    have d2 : wc.frozen? ⟨g, 2, none⟩ = false := hat.blk.frozen 2
    have ho := HO.out
    clear hat hk h1 f1 hfit hq1 hL1 hwn hwq hwl hor HQ HC2 H
    have HA2 := Lib.hid (HA.out.set 2 (.int .i64 ((o : Int) + (t : Int))) HPL.out (o' := o + t) (by simp))
    have HK2 := Lib.hid (HK.out.setCell (p := ⟨g, 2, none⟩) (.inl (.inl rfl)) (.int .i64 ((o : Int) + (t : Int))))
    have HT : Hid (bitsOf xs ++ tb P (o + t) = bitsOf xs ++ tb last o ++ tb n t) := by
      show bitsOf xs ++ tb P (o + t) = bitsOf xs ++ tb last o ++ tb n t
      rw [← HP.out, push_tb (by omega), List.append_assoc]
    have HN : Hid (8 * xs.length + (o + t) ≤ 8000000) := by
      show 8 * xs.length + (o + t) ≤ 8000000
      have := HL.out
      rw [List.length_append, bitsOf_len, tb_len] at this
      omega
    have HD : Hid (o + t ≤ 39) := by show o + t ≤ 39; omega
    clear HA HK HP HO HL
    go_wp2
    generalize wc.setCell ⟨g, 2, none⟩ (.int .i64 ((o : Int) + (t : Int))) = W at *
    generalize bitsOf xs ++ tb last o ++ tb n t = l at *
    clear c2 d2
    obtain ⟨i0, hi0, hz0, hz1, hz2⟩ := info_parts u8_info
    go_loopw [] (fun wr => ∃ (A' : Option Addr) (xs' : List Int) (c' o' : Nat), At base g (.slice A' xs'.length c') xs' P o' wr ∧ bitsOf xs' ++ tb P o' = l ∧ 8 * xs'.length + o' ≤ 8000000 ∧ o' ≤ 39 ∧ Moves g (.slice A xs.length c) (.slice A' xs'.length c') w1 wr) (fun wr => (intOf ((wr.cell? ⟨g, 2, none⟩).getD undef)).toNat)
    case atStart => exact ⟨A, xs, c, o + t, HA2.out, HT.out, HN.out, HD.out, HK2.out, .inl rfl⟩
    case round =>
      obtain ⟨A', xs', c', o', hat, hbits, hlen, ho', hmv⟩ := hrel
      have c0 : wr.cell? ⟨g, 0, none⟩ = some (.slice A' xs'.length c') := hat.blk.cell 0
      have c1 : wr.cell? ⟨g, 1, none⟩ = some (.int .u64 P) := hat.blk.cell 1
      have c2 : wr.cell? ⟨g, 2, none⟩ = some (.int .i64 o') := hat.blk.cell 2
      have d0 : wr.frozen? ⟨g, 0, none⟩ = false := hat.blk.frozen 0
      have d2 : wr.frozen? ⟨g, 2, none⟩ = false := hat.blk.frozen 2
      have HA := Lib.hid hat
      have HB := Lib.hid hbits
      have HM := Lib.hid hmv
      clear hat hbits hmv HA2 HK2 HT HN HD
      by_cases h8 : 8 ≤ o'
      · obtain ⟨o2, rfl⟩ : ∃ o2, o' = o2 + 8 := ⟨o' - 8, by omega⟩
        obtain ⟨x, hx⟩ : ∃ x, P / 2 ^ o2 % 256 = x := ⟨_, rfl⟩
        have hw8 : IntKind.u8.wrap ((P : Int) / 2 ^ o2) = (x : Int) := by rw [IntKind.wrap_u8, ← hx]; simp
        have HX := Lib.hid hx
        have HXB : Hid (x < 256) := by show x < 256; omega
        have HA2 := Lib.hid (HA.out.set 2 (.int .i64 (o2 : Int)) HPL.out (o' := o2) (by simp))
        have HM2 := Lib.hid (HM.out.trans ⟨(Keeps.refl _ _).setCell (p := ⟨g, 2, none⟩) (.inl (.inl rfl)) (.int .i64 (o2 : Int)), .inl rfl⟩)
        have ho0 : (0 : Int) ≤ (o2 : Int) := by omega
        have HC := Lib.hid c2
        clear hx c0 c1 d0 HA HM
        go_wp2
        generalize wr.setCell ⟨g, 2, none⟩ (.int .i64 (o2 : Int)) = W2 at *
        clear c2 d2
        have c0 : W2.cell? ⟨g, 0, none⟩ = some (.slice A' xs'.length c') := HA2.out.blk.cell 0
        have c1 : W2.cell? ⟨g, 1, none⟩ = some (.int .u64 P) := HA2.out.blk.cell 1
        have c2 : W2.cell? ⟨g, 2, none⟩ = some (.int .i64 o2) := HA2.out.blk.cell 2
        have hnews : ∀ j u, [Value.int .u8 (x : Int)][j]? = some u → (W2.alloc (.cells #[.int .u8 (x : Int)] 5)).cell? ((⟨W2.heap.size, 0, none⟩ : Addr).add j) = some u := by
          intro j u hu
          rw [add_none, (Blk.new W2 5 #[.int .u8 (x : Int)]).cell]
          simpa using hu
        have HNW := Lib.hid hnews
        have e0 : (W2.alloc (.cells #[.int .u8 (x : Int)] 5)).cell? ⟨g, 0, none⟩ = some (.slice A' xs'.length c') := (HA2.out.blk.alloc _).cell 0
        have hxl : xs'.length ≤ 1000000 := by omega
        clear hnews HPL
        go_region_law ((refine step_append_lies _ (by rfl) _ _ _ (by rfl) base 5 i0 _ 1 1 Tryz.underlying29 hi0 hz0 hz1 hz2 rfl (by omega) (.slice A' xs'.length c') xs'.length (bv xs') (by rfl) (by exact HA2.out.own.alloc _) ⟨W2.heap.size, 0, none⟩ 1 1 [.int .u8 (x : Int)] (by rfl) rfl (by exact HNW.out) (by simp [Value.oneCell']) (by omega) (by simp only [maxLen]; omega) (by omega) (by have := HA2.out.size; simp; omega) _ rfl ?_
                        intro g3 cap3 w3 hown3 hgrow3 hat3 hlt3
                        have h7 : Blk w3 g 71 #[.slice A' xs'.length c', .int .u64 P, .int .i64 o2] := Blk.grown (by exact HA2.out.blk.alloc _) hgrow3 (fun e => HA2.out.ne _ e rfl)
                        have c3 : w3.cell? ⟨g, 0, none⟩ = some (.slice A' xs'.length c') := h7.cell 0
                        have d3 : w3.frozen? ⟨g, 0, none⟩ = false := h7.frozen 0
                        have H7 := Lib.hid h7
                        have HO3 := Lib.hid hown3
                        have HG3 := Lib.hid hgrow3
                        have HT3 := Lib.hid hat3
                        clear h7 hown3 hgrow3 hat3 hlt3))
        all_goals go_wp2
        all_goals
          have HR := stored HA2.out H7.out (x := x) (by simpa [bv_append, bv] using HO3.out) HXB.out (Keeps.grown (w1 := (W2.alloc (.cells #[.int .u8 (x : Int)] 5)).drew) (by exact ((Keeps.refl _ _).alloc _).drewN 1) HG3.out (fun k hk => .inl (.inr hk))) (by rcases HT3.out with h | h; exact .inl h.symm; exact .inr ⟨_, rfl, by rw [h]; simp⟩)
          refine ⟨⟨some ⟨g3, 0, none⟩, xs' ++ [(x : Int)], cap3, o2, by simpa using HR.1, by rw [bitsOf_snoc, Int.toNat_natCast, ← HX.out, List.append_assoc, ← shift_tb]; exact HB.out, by simp; omega, by omega, by simpa using HM2.out.trans HR.2⟩, ?_⟩
          have hm2 := HR.1.blk.cell 2
          have hm1 := HC.out
          rw [hm2, hm1]
          show ((o2 : Int)).toNat < (((o2 + 8 : Nat) : Int)).toNat
          omega
      · go_wp2
        go_end0
        exact ⟨rfl, _, ⟨xs', P, o', HA.out, by omega, HB.out.symm⟩, HM.out⟩
end Go.Proofs.YtgaofnmgdefdcaaGreatDoor.Bw

/- A bits.Writer at the head of a Quill: what it does, call by call; the Quill's two other cells stay (written by tools/quill/bwq.py out of BitWr). -/
/- What a Quill keeps: codes, by their entries' keys; blocks, by their numbers; its row of bits. What hangs on other blocks stays. -/
import Derived.Test.YtgaofnmgdefdcaaGreatDoorJBitWrBitPut
import Derived.Test.YtgaofnmgdefdcaaGreatDoorJQlHdChMp
import Derived.Test.YtgaofnmgdefdcaaGreatDoorJItfWrDsPl
import Derived.Test.YtgaofnmgdefdcaaGreatDoorWireWr

namespace Go.Proofs.YtgaofnmgdefdcaaGreatDoor.Bq
open Go.RowKit Go.Proofs.YtgaofnmgdefdcaaGreatDoor.Gen Go.Proofs.YtgaofnmgdefdcaaGreatDoor.Cl Go.Proofs.YtgaofnmgdefdcaaGreatDoor.Bp Go.Proofs.YtgaofnmgdefdcaaGreatDoor.Bf
open Go.Proofs.YtgaofnmgdefdcaaGreatDoor.Bw hiding At IsBw Puts At.keeps At.drew At.ne At.set IsBw.keeps IsBw.its stored bytes put
variable {m1 m2 : Value}

/-- Block g is a Writer: whole bytes xs, in a row of its own, v; of last the lowest o bits are open. -/
structure At (m1 m2 : Value) (base g : Nat) (v : Value) (xs : List Int) (last o : Nat) (w : World) : Prop where
  low : base ≤ g
  size : base ≤ w.heap.size
  form : ∃ A c, v = .slice A xs.length c
  blk : Blk w g 77 #[v, .int .u64 last, .int .i64 o, m1, m2]
  own : w.ownsRow base 5 1 v xs.length (bv xs)
  fit : last < 18446744073709551616
  byte : ∀ x ∈ xs, 0 ≤ x ∧ x < 256
/-- It has these bits. -/
def IsBw (m1 m2 : Value) (base g : Nat) (v : Value) (l : List Nat) (w : World) : Prop := ∃ xs last o, At m1 m2 base g v xs last o w ∧ o < 8 ∧ l = bitsOf xs ++ tb last o
/-- Behind a put. -/
def Puts (m1 m2 : Value) (base g : Nat) (v : Value) (l : List Nat) (w : World) (r : Ending) (w' : World) : Prop :=
  r = .returned (.tuple #[]) ∧ ∃ v', IsBw m1 m2 base g v' l w' ∧ Moves g v v' w w'

theorem At.keeps {S : Nat → Prop} {base g : Nat} {v : Value} {xs : List Int} {last o : Nat} {w w1 : World} (h : At m1 m2 base g v xs last o w) (k : Keeps S w w1) (hn : ∀ b, Its g v b → ¬ S b) : At m1 m2 base g v xs last o w1 :=
  ⟨h.low, Nat.le_trans h.size k.size, h.form, h.blk.keeps k (hn g (.inl rfl)), own_keeps h.own k fun b hb => hn b (.inr hb), h.fit, h.byte⟩
theorem At.drew {base g : Nat} {v : Value} {xs : List Int} {last o : Nat} {w : World} (h : At m1 m2 base g v xs last o w) : At m1 m2 base g v xs last o w.drew := h.keeps (S := fun _ => False) ((Keeps.refl _ _).drewN 1) fun _ _ => id
theorem At.ne {base g : Nat} {v : Value} {xs : List Int} {last o : Nat} {w : World} (h : At m1 m2 base g v xs last o w) : ∀ b, v.ownBlock = some b → b ≠ g := fun b hb e => by
  subst e
  exact own_ne h.own h.blk (by decide) hb
theorem At.set {base g : Nat} {v : Value} {xs : List Int} {last o last' o' : Nat} {w : World} (h : At m1 m2 base g v xs last o w) (i : Nat) (u : Value) (hl : last' < 18446744073709551616)
    (hs : (#[v, .int .u64 last, .int .i64 o, m1, m2] : Array Value).setIfInBounds i u = #[v, .int .u64 last', .int .i64 o', m1, m2]) : At m1 m2 base g v xs last' o' (w.setCell ⟨g, i, none⟩ u) :=
  ⟨h.low, by simpa [World.setCell] using h.size, h.form, hs ▸ h.blk.setCell i u, own_keeps (S := (· = g)) h.own ((Keeps.refl _ _).setOwn _ _) h.ne, hl, h.byte⟩
theorem IsBw.keeps {S : Nat → Prop} {base g : Nat} {v : Value} {l : List Nat} {w w1 : World} (h : IsBw m1 m2 base g v l w) (k : Keeps S w w1) (hn : ∀ b, Its g v b → ¬ S b) : IsBw m1 m2 base g v l w1 := by
  obtain ⟨xs, last, o, h, h2⟩ := h
  exact ⟨xs, last, o, h.keeps k hn, h2⟩
theorem IsBw.its {base g : Nat} {v : Value} {l : List Nat} {w : World} (h : IsBw m1 m2 base g v l w) : ∀ k, Its g v k → base ≤ k ∧ k < w.heap.size := by
  obtain ⟨xs, last, o, h, _⟩ := h
  rintro k (rfl | hk)
  · exact ⟨h.low, h.blk.lt⟩
  · exact h.own.lt k hk
/-- The end of a round of Put: the row that append gave is stored into the Writer. -/
theorem stored {base g : Nat} {v v3 : Value} {xs : List Int} {x last o : Nat} {w w3 : World} (h : At m1 m2 base g v xs last o w) (h7 : Blk w3 g 77 #[v, .int .u64 last, .int .i64 o, m1, m2])
    (ho : w3.ownsRow base 5 1 v3 (xs ++ [(x : Int)]).length (bv (xs ++ [(x : Int)]))) (hx : x < 256) (hk : Keeps (Its g v) w w3) (hat : v3.ownBlock = v.ownBlock ∨ ∃ b, v3.ownBlock = some b ∧ w.heap.size ≤ b) :
    At m1 m2 base g v3 (xs ++ [(x : Int)]) last o (w3.setCell ⟨g, 0, none⟩ v3) ∧ Moves g v v3 w (w3.setCell ⟨g, 0, none⟩ v3) := by
  refine ⟨⟨h.low, ?_, ?_, ?_, ?_, h.fit, ?_⟩, hk.setCell (p := ⟨g, 0, none⟩) (.inl (.inl rfl)) _, hat⟩
  · have := hk.size
    have := h.size
    simp [World.setCell]
    omega
  · obtain ⟨A', c', h, _⟩ := own_form ho
    exact ⟨A', c', h⟩
  · simpa using h7.setCell 0 v3
  · exact own_keeps (S := (· = g)) ho ((Keeps.refl _ _).setOwn _ _) fun b hb' e => by subst e; exact own_ne ho h7 (by decide) hb'
  · intro y hy
    rcases List.mem_append.1 hy with hy | hy
    · exact h.byte y hy
    · rw [List.mem_singleton.1 hy]
      omega

theorem bytes (g base : Nat) (v : Value) (l : List Nat) (w : World) (h : IsBw m1 m2 base g v l w) (hl : l.length ≤ 7999000) :
    Calls Tryz.prog 45 #[.pointer (some ⟨g, 0, none⟩)] w (Packed w.heap.size l w) := by
  obtain ⟨xs, last, o, h, ho, rfl⟩ := h
  obtain ⟨A, c, rfl⟩ := h.form
  have h0 : w.cell? ⟨g, 0, none⟩ = some (.slice A xs.length c) := h.blk.cell 0
  have hxl : xs.length < 1000000 := by
    rw [List.length_append, bitsOf_len, tb_len] at hl
    omega
  have H := Lib.hid h
  clear h hl
  go_enter Tryz.func45, Tryz.ntmps45
  go_wp2_with fail
  refine (clone A c xs w (Lies.of_own H.out.own) (by omega)).mono ?_
  rintro e w1 ⟨A1, c1, rfl, hv, hk⟩
  have HV := Lib.hid hv
  have HK := Lib.hid hk
  have H1 := Lib.hid (H.out.keeps hk (fun _ _ => id))
  have h2 : w1.cell? ⟨g, 2, none⟩ = some (.int .i64 o) := H1.out.blk.cell 2
  clear hv hk h0
  by_cases h00 : o = 0
  · subst h00
    go_wp2
    go_ret
    exact ⟨A1, c1, xs, _, rfl, rfl, by simpa [tb] using whole_pack H.out.byte, H.out.byte, HV.out, HK.out⟩
  · obtain ⟨i0, hi0, hz0, hz1, hz2⟩ := info_parts u8_info
    have h1 : w1.cell? ⟨g, 1, none⟩ = some (.int .u64 last) := H1.out.blk.cell 1
    have hpos : 0 < o := by omega
    have hs0 : (0 : Int) ≤ 8 - (o : Int) := by omega
    have hs1 : IntKind.i64.wrap (8 - (o : Int)) = 8 - (o : Int) := IntWalk.i64_in _ (by omega)
    have hs2 : (8 - (o : Int)).toNat = 8 - o := by omega
    obtain ⟨L, hL⟩ : ∃ L, last * 2 ^ (8 - o) % 18446744073709551616 = L := ⟨_, rfl⟩
    obtain ⟨x, hx⟩ : ∃ x, L % 256 = x := ⟨_, rfl⟩
    have hwl : IntKind.u64.wrap ((last : Int) * 2 ^ (8 - o)) = (L : Int) := by rw [IntKind.wrap_u64, ← hL]; simp
    have hw8 : IntKind.u8.wrap (L : Int) = (x : Int) := by rw [IntKind.wrap_u8, ← hx]; simp
    have HX : Hid (last * 2 ^ (8 - o) % 256 = x) := by
      show last * 2 ^ (8 - o) % 256 = x
      rw [← hx, ← hL]
      omega
    have HXB : Hid (x < 256) := by show x < 256; omega
    have hnews : ∀ j u, [Value.int .u8 (x : Int)][j]? = some u → (w1.alloc (.cells #[.int .u8 (x : Int)] 5)).cell? ((⟨w1.heap.size, 0, none⟩ : Addr).add j) = some u := by
      intro j u hu
      rw [add_none, (Blk.new w1 5 #[.int .u8 (x : Int)]).cell]
      simpa using hu
    have HNW := Lib.hid hnews
    have e1 : (w1.alloc (.cells #[.int .u8 (x : Int)] 5)).cell? ⟨g, 1, none⟩ = some (.int .u64 last) := (H1.out.blk.alloc _).cell 1
    have e2 : (w1.alloc (.cells #[.int .u8 (x : Int)] 5)).cell? ⟨g, 2, none⟩ = some (.int .i64 o) := (H1.out.blk.alloc _).cell 2
    clear hnews hx hL
    go_wp2
    go_region_held3 (fun w' => w'.cell? ⟨g, 1, none⟩ = some (.int .u64 last) ∧ w'.cell? ⟨g, 2, none⟩ = some (.int .i64 o)) (first | exact ⟨e1, e2⟩ | exact ⟨h1, h2⟩ | exact ⟨k1, k2⟩)
      ((refine step_append_lies _ (by rfl) _ _ _ (by rfl) w.heap.size 5 i0 _ 1 1 Tryz.underlying29 hi0 hz0 hz1 hz2 rfl (by omega) (.slice A1 xs.length c1) xs.length (bv xs) (by rfl) (by exact HV.out.alloc _) ⟨w1.heap.size, 0, none⟩ 1 1 [.int .u8 (x : Int)] (by rfl) rfl (by exact HNW.out) (by simp [Value.oneCell']) (by omega) (by simp only [maxLen]; omega) (by omega) (by have := HK.out.size; simp; omega) _ rfl ?_
        intro g3 cap3 w3 hown3 hgrow3 hat3 hlt3
        have h7 : Blk w3 g 77 #[.slice A xs.length c, .int .u64 last, .int .i64 o, m1, m2] := Blk.grown (by exact H1.out.blk.alloc _) hgrow3 (fun e => by have hx1 := (HV.out.lt _ e).1; have hx2 := H.out.blk.lt; omega)
        have k1 : w3.cell? ⟨g, 1, none⟩ = some (.int .u64 last) := h7.cell 1
        have k2 : w3.cell? ⟨g, 2, none⟩ = some (.int .i64 o) := h7.cell 2
        have HO3 := Lib.hid hown3
        have HG3 := Lib.hid hgrow3
        clear h7 hown3 hgrow3 hat3 hlt3))
    go_wp2
    go_ret
    refine ⟨_, _, xs ++ [(x : Int)], _, by simp, rfl, part_pack H.out.byte hpos ho HX.out, ?_, by simpa [bv_append, bv] using HO3.out, Keeps.grown (w1 := (w1.alloc (.cells #[.int .u8 (x : Int)] 5)).drew) (by exact (HK.out.alloc _).drewN 1) HG3.out (fun k hk => .inr (HV.out.lt k hk).1)⟩
    intro y hy
    rcases List.mem_append.1 hy with hy | hy
    · exact H.out.byte y hy
    · rw [List.mem_singleton.1 hy]
      have := HXB.out
      omega
end Go.Proofs.YtgaofnmgdefdcaaGreatDoor.Bq

namespace Go.Proofs.YtgaofnmgdefdcaaGreatDoor.Qs
open Go.RowKit Go.Proofs.YtgaofnmgdefdcaaGreatDoor.Gen Go.Proofs.YtgaofnmgdefdcaaGreatDoor.Mp Go.Proofs.YtgaofnmgdefdcaaGreatDoor.Cm Go.Proofs.YtgaofnmgdefdcaaGreatDoor.Hr Go.Proofs.YtgaofnmgdefdcaaGreatDoor.Hn Go.Proofs.YtgaofnmgdefdcaaGreatDoor.Hk Go.Proofs.YtgaofnmgdefdcaaGreatDoor.Ln Go.Proofs.YtgaofnmgdefdcaaGreatDoor.Ds Go.Proofs.YtgaofnmgdefdcaaGreatDoor.Qh Go.Proofs.YtgaofnmgdefdcaaGreatDoor.Ww

/-! ### codes that are kept -/
def cv (A : Option Addr) (n c p : Nat) : Value := .agg #[.slice A n c, .pointer (some ⟨p, 0, none⟩)]
/-- Entries, and the code that was made of them; these lie in blocks of C. -/
def One (C : Nat → Prop) (v : Value) (w : World) : Prop := ∃ A n c p L, v = cv A n c p ∧ newE L = 0 ∧ Held C (fun u => Ents u A n L ∧ IsCode 0 u p (wordsOf (nats' L))) w
structure KeptAt (F C : Nat → Prop) (N b : Nat) (m : List (Lit × Value)) (w : World) : Prop where
  inF : F b
  out : ¬ C b
  sub : ∀ k, C k → F k
  len : m.length ≤ N
  map : IsM Tryz.prog 9 w b m
  all : ∀ e ∈ m, One C e.2 w
/-- Codes are kept in the map mv, in blocks of F, at most N. -/
def Kept (F : Nat → Prop) (N : Nat) (mv : Value) (w : World) : Prop :=
  (∀ k, F k → k < w.heap.size) ∧ (mv = .map none ∨ ∃ b m C, mv = .map (some b) ∧ KeptAt F C N b m w)
section
variable {F F' C C1 S : Nat → Prop} {N N' b : Nat} {m : List (Lit × Value)} {mv v : Value} {w w1 : World}
theorem One.keeps (h : One C v w) (k : Keeps S w w1) (hn : ∀ b, C b → ¬ S b) : One C v w1 := by
  obtain ⟨A, n, c, p, L, h1, h2, h3⟩ := h
  exact ⟨A, n, c, p, L, h1, h2, h3.keeps k hn⟩
theorem One.mono (h : One C v w) (hF : ∀ k, C k → F k) (hl : ∀ k, F k → k < w.heap.size) : One F v w := by
  obtain ⟨A, n, c, p, L, h1, h2, h3⟩ := h
  exact ⟨A, n, c, p, L, h1, h2, h3.mono hF hl⟩
theorem One.lt (h : One C v w) : ∀ k, C k → k < w.heap.size := by
  obtain ⟨A, n, c, p, L, h1, h2, h3⟩ := h
  exact h3.1
theorem Kept.start (w : World) : Kept (fun _ => False) 0 (.map none) w := ⟨fun _ h => h.elim, .inl rfl⟩
theorem KeptAt.keeps (h : KeptAt F C N b m w) (k : Keeps S w w1) (hn : ∀ b, F b → ¬ S b) : KeptAt F C N b m w1 :=
  ⟨h.inF, h.out, h.sub, h.len, h.map.keeps k (hn _ h.inF), fun e he => (h.all e he).keeps k fun b hb => hn b (h.sub b hb)⟩
theorem Kept.keeps (h : Kept F N mv w) (k : Keeps S w w1) (hn : ∀ b, F b → ¬ S b) : Kept F N mv w1 := by
  refine ⟨fun b hb => Nat.lt_of_lt_of_le (h.1 b hb) k.size, ?_⟩
  rcases h.2 with h2 | ⟨b, m, C, h2, h3⟩
  · exact .inl h2
  · exact .inr ⟨b, m, C, h2, h3.keeps k hn⟩
theorem Kept.le (h : Kept F N mv w) (hN : N ≤ N') : Kept F N' mv w := by
  refine ⟨h.1, ?_⟩
  rcases h.2 with h2 | ⟨b, m, C, h2, h3⟩
  · exact .inl h2
  · exact .inr ⟨b, m, C, h2, h3.inF, h3.out, h3.sub, Nat.le_trans h3.len hN, h3.map, h3.all⟩
theorem KeptAt.new (w : World) : KeptAt (· = w.heap.size) (fun _ => False) 0 w.heap.size [] (w.alloc (.map #[] 0)) :=
  ⟨rfl, id, fun _ h => h.elim, Nat.le_refl _, IsM.new _ _ w, fun e he => (by cases he)⟩
theorem KeptAt.held (h : KeptAt F C N b m w) (hF : ∀ k, F k → k < w.heap.size) {e : Lit × Value} (he : e ∈ m) : One F e.2 w := (h.all e he).mono h.sub hF
theorem upd_len (m : List (Lit × Value)) (kl : Lit) (v : Value) : (upd m kl v).length ≤ m.length + 1 := by
  have := List.length_filter_le (fun p : Lit × Value => !p.1.sameKey kl) m
  simp only [upd, List.length_append, List.length_singleton]
  omega
theorem KeptAt.put {kl : Lit} (h : KeptAt F C N b m w) (hl : ∀ k, F k → k < w.heap.size) (hu : IsM Tryz.prog 9 w1 b (upd m kl v)) (k : Keeps (· = b) w w1) (hv : One C1 v w) (h1 : ¬ C1 b) :
    KeptAt (fun k => F k ∨ C1 k) (fun k => C k ∨ C1 k) (N + 1) b (upd m kl v) w1 := by
  have hb : ∀ x, C x ∨ C1 x → x < w.heap.size := fun x hx => hx.elim (fun hx => hl x (h.sub x hx)) (hv.lt x)
  refine ⟨.inl h.inF, fun hx => hx.elim h.out h1, fun x hx => hx.imp (h.sub x) id, ?_, hu, fun e he => ?_⟩
  · have := upd_len m kl v
    have := h.len
    omega
  · have hne : ∀ x, C x ∨ C1 x → ¬ x = b := fun x hx e => by subst e; exact hx.elim h.out h1
    rcases List.mem_append.1 he with he | he
    · exact ((h.all e ((List.mem_filter.1 he).1)).mono (fun _ => .inl) hb).keeps k hne
    · rw [List.mem_singleton.1 he]
      exact (hv.mono (fun _ => .inr) hb).keeps k hne
theorem code_held {B p : Nat} {W : List (Int × Nat × Nat)} (h : IsCode B w p W) : Held (fun k => B ≤ k ∧ k < w.heap.size) (fun u => IsCode 0 u p W) w :=
  ⟨fun _ hk => hk.2, fun S w1 k hn => by
    obtain ⟨bw, bn, h1, h2, h3, _, _, _⟩ := h.keeps k fun b hb hlt => hn b ⟨hb, hlt⟩
    exact ⟨bw, bn, h1, h2, h3, Nat.zero_le _, Nat.zero_le _, Nat.zero_le _⟩⟩
end

/-! ### blocks, each a Writer -/
/-- Where a Writer lies, its row, its bytes. -/
abbrev W1 := Nat × Value × List Int
abbrev Gs := Nat → Option W1
def pu (G : Gs) (i : Nat) (e : W1) : Gs := fun j => if j = i then some e else G j
theorem pu_at (G : Gs) (i : Nat) (e : W1) : pu G i e i = some e := by simp [pu]
theorem pu_ne (G : Gs) {i j : Nat} (e : W1) (h : j ≠ i) : pu G i e j = G j := by simp [pu, h]
theorem pu_pu (G : Gs) (i : Nat) (e f : W1) : pu (pu G i e) i f = pu G i f := by funext j; unfold pu; split <;> rfl
def wptr (e : W1) : Value := .pointer (some ⟨e.1, 0, none⟩)
def ikv (i : Nat) : Value := .int .i64 (i : Int)
def ikl (i : Nat) : Lit := .int .i64 (i : Int)
theorem int_ks : Ks Tryz.prog 3 60001 ikv ikl where
  keyed := Go.Maps.int_keyed Tryz.underlying3
  ok i hi := Go.Maps.keyOf_int_mk Tryz.underlying3 (by
    have hm : IntKind.i64.min = -9223372036854775808 ∧ IntKind.i64.max = 9223372036854775807 := by decide
    simp [Lit.wf, hm.1, hm.2]
    omega)
  inj i j _ _ h := by unfold ikv at h; injection h with _ h; omega
structure WmsAt (F : Nat → Prop) (b : Nat) (G : Gs) (w : World) : Prop where
  inF : F b
  map : IsF Tryz.prog 3 60001 ikl w b (fun i => (G i).map wptr)
  wr : ∀ i e, G i = some e → i < 60001 ∧ IsWr 0 e.1 e.2.1 e.2.2 w ∧ ∀ k, Its e.1 e.2.1 k → F k ∧ k ≠ b
  apart : ∀ i j e f, i ≠ j → G i = some e → G j = some f → ∀ k, Its e.1 e.2.1 k → ¬ Its f.1 f.2.1 k
def Wms (F : Nat → Prop) (mv : Value) (G : Gs) (w : World) : Prop :=
  (∀ k, F k → k < w.heap.size) ∧ ((mv = .map none ∧ ∀ i, G i = none) ∨ ∃ b, mv = .map (some b) ∧ WmsAt F b G w)
section
variable {F F' S : Nat → Prop} {b i : Nat} {G : Gs} {mv : Value} {w w1 : World}
theorem Wms.start (w : World) : Wms (fun _ => False) (.map none) (fun _ => none) w := ⟨fun _ h => h.elim, .inl ⟨rfl, fun _ => rfl⟩⟩
theorem its_lt {g : Nat} {v : Value} {ys : List Int} (h : IsWr 0 g v ys w) : ∀ k, Its g v k → k < w.heap.size := by
  rintro k (rfl | hk)
  · exact h.lt
  · exact (h.2.2.2.2.2.lt k hk).2
theorem WmsAt.keeps (h : WmsAt F b G w) (k : Keeps S w w1) (hn : ∀ b, F b → ¬ S b) : WmsAt F b G w1 :=
  ⟨h.inF, h.map.keeps k (hn _ h.inF), fun i e he => by
    obtain ⟨h1, h2, h3⟩ := h.wr i e he
    exact ⟨h1, h2.keeps k fun x hx => hn x (h3 x hx).1, h3⟩, h.apart⟩
theorem Wms.keeps (h : Wms F mv G w) (k : Keeps S w w1) (hn : ∀ b, F b → ¬ S b) : Wms F mv G w1 := by
  refine ⟨fun b hb => Nat.lt_of_lt_of_le (h.1 b hb) k.size, ?_⟩
  rcases h.2 with h2 | ⟨b, h2, h3⟩
  · exact .inl h2
  · exact .inr ⟨b, h2, h3.keeps k hn⟩
theorem WmsAt.new (w : World) : WmsAt (· = w.heap.size) w.heap.size (fun _ => none) (w.alloc (.map #[] 0)) :=
  ⟨rfl, IsF.new _ _ _ _ w, fun i e h => (by cases h), fun i j e f _ h => (by cases h)⟩
theorem WmsAt.mono (h : WmsAt F b G w) (hF : ∀ k, F k → F' k) : WmsAt F' b G w :=
  ⟨hF _ h.inF, h.map, fun i e he => ⟨(h.wr i e he).1, (h.wr i e he).2.1, fun k hk => ⟨hF k ((h.wr i e he).2.2 k hk).1, ((h.wr i e he).2.2 k hk).2⟩⟩, h.apart⟩
/-- Something is put into a block that is there. -/
theorem WmsAt.put {g : Nat} {v : Value} {ys zs : List Int} {r : Ending} (h : WmsAt F b G w) (hl : ∀ k, F k → k < w.heap.size) (hG : G i = some (g, v, ys)) (hp : Puts 0 g v zs w r w1) :
    ∃ v', WmsAt (fun k => F k ∨ (w.heap.size ≤ k ∧ k < w1.heap.size)) b (pu G i (g, v', zs)) w1 ∧ Step F (fun k => F k ∨ (w.heap.size ≤ k ∧ k < w1.heap.size)) w w1 := by
  obtain ⟨_, v', hw, hk, ho⟩ := hp
  obtain ⟨hi, hwr, hits⟩ := h.wr i _ hG
  have hsub : ∀ k, Its g v' k → Its g v k ∨ (w.heap.size ≤ k ∧ k < w1.heap.size) := by
    intro k hx
    have hlt := its_lt hw k hx
    rcases hx with rfl | hx
    · exact .inl (.inl rfl)
    · rcases ho with ho | ⟨b', ho, hb'⟩
      · exact .inl (.inr (ho ▸ hx))
      · rw [ho] at hx
        injection hx with hx
        subst hx
        exact .inr ⟨hb', hlt⟩
  have hb := hl b h.inF
  refine ⟨v', ⟨.inl h.inF, ?_, ?_, ?_⟩, ⟨hk.mono fun k _ hx => (hits k hx).1, fun k hx => hx.imp id And.left⟩⟩
  · refine (h.map.keeps hk fun hx => (hits b hx).2 rfl).congr fun j _ => ?_
    by_cases hj : j = i
    · subst hj
      rw [pu_at, hG]
      rfl
    · rw [pu_ne G _ hj]
  · intro j e he
    by_cases hj : j = i
    · subst hj
      rw [pu_at] at he
      injection he with he
      subst he
      refine ⟨hi, hw, fun k hx => ?_⟩
      rcases hsub k hx with h1 | h1
      · exact ⟨.inl (hits k h1).1, (hits k h1).2⟩
      · exact ⟨.inr h1, by omega⟩
    · rw [pu_ne G _ hj] at he
      obtain ⟨h1, h2, h3⟩ := h.wr j e he
      exact ⟨h1, h2.keeps hk fun x hx => h.apart j i e _ hj he hG x hx, fun k hx => ⟨.inl (h3 k hx).1, (h3 k hx).2⟩⟩
  · have key : ∀ j f, j ≠ i → G j = some f → ∀ k, Its g v' k → ¬ Its f.1 f.2.1 k := by
      intro j f hj hf k hx hy
      have h2 := its_lt (h.wr j f hf).2.1 k hy
      rcases hsub k hx with h1 | h1
      · exact h.apart i j _ f (Ne.symm hj) hG hf k h1 hy
      · omega
    intro x y e f hxy he hf k hx hy
    by_cases hxi : x = i
    · subst hxi
      rw [pu_at] at he
      injection he with he
      subst he
      rw [pu_ne G _ (Ne.symm hxy)] at hf
      exact key y f (Ne.symm hxy) hf k hx hy
    · rw [pu_ne G _ hxi] at he
      by_cases hyi : y = i
      · subst hyi
        rw [pu_at] at hf
        injection hf with hf
        subst hf
        exact key x e hxi he k hy hx
      · rw [pu_ne G _ hyi] at hf
        exact h.apart x y e f hxy he hf k hx hy
/-- A block that wasn't there is laid, with nothing in it. -/
theorem WmsAt.add (h : WmsAt F b G w) (hl : ∀ k, F k → k < w.heap.size) (hi : i < 60001) (hG : G i = none)
    (hm : IsF Tryz.prog 3 60001 ikl w1 b (putF (fun i => (G i).map wptr) i (.pointer (some ⟨w.heap.size, 0, none⟩)))) (k : Keeps (· = b) (w.alloc (.cells #[.slice none 0 0] 85)) w1) :
    WmsAt (fun k => F k ∨ k = w.heap.size) b (pu G i (w.heap.size, .slice none 0 0, [])) w1 := by
  have hb := hl b h.inF
  have hk := (Keeps.refl (fun _ => False) w).alloc (.cells #[.slice none 0 0] 85)
  have h0 := new_of 85 (by decide) w
  have hnew : IsWr 0 w.heap.size (.slice none 0 0) [] (w.alloc (.cells #[.slice none 0 0] 85)) :=
    ⟨Nat.zero_le _, Nat.zero_le _, h0.2.2.1, h0.2.2.2.1, h0.2.2.2.2.1, own_base h0.2.2.2.2.2 (Nat.zero_le _)⟩
  have hits : ∀ k, Its w.heap.size (.slice none 0 0) k → k = w.heap.size := by
    rintro k (rfl | hx)
    · rfl
    · simp [Value.ownBlock] at hx
  refine ⟨.inl h.inF, hm.congr fun j _ => ?_, ?_, ?_⟩
  · unfold putF pu
    split <;> rfl
  · intro j e he
    by_cases hj : j = i
    · subst hj
      rw [pu_at] at he
      injection he with he
      subst he
      refine ⟨hi, hnew.keeps k fun x hx e => ?_, fun x hx => ⟨.inr (hits x hx), ?_⟩⟩
      · have := hits x hx
        omega
      · have := hits x hx
        omega
    · rw [pu_ne G _ hj] at he
      obtain ⟨h1, h2, h3⟩ := h.wr j e he
      exact ⟨h1, (h2.keeps hk fun _ _ => id).keeps k fun x hx => (h3 x hx).2, fun x hx => ⟨.inl (h3 x hx).1, (h3 x hx).2⟩⟩
  · intro x y e f hxy he hf k hx hy
    by_cases hxi : x = i
    · subst hxi
      rw [pu_at] at he
      injection he with he
      subst he
      rw [pu_ne G _ (Ne.symm hxy)] at hf
      have h1 := its_lt (h.wr y f hf).2.1 k hy
      have h2 := hits k hx
      omega
    · rw [pu_ne G _ hxi] at he
      by_cases hyi : y = i
      · subst hyi
        rw [pu_at] at hf
        injection hf with hf
        subst hf
        have h1 := its_lt (h.wr x e he).2.1 k hx
        have h2 := hits k hy
        omega
      · rw [pu_ne G _ hyi] at hf
        exact h.apart x y e f hxy he hf k hx hy
end

/-! ### a Quill -/
structure QlAt (F Fb Fc : Nat → Prop) (B g : Nat) (v mb mc : Value) (l : List Nat) (G : Gs) (N : Nat) (w : World) : Prop where
  row : Bq.IsBw mb mc 0 g v l w
  wms : Wms Fb mb G w
  kept : Kept Fc N mc w
  ab : ∀ k, Bw.Its g v k → ¬ Fb k ∧ ¬ Fc k
  bc : ∀ k, Fb k → ¬ Fc k
  all : ∀ k, F k ↔ Bw.Its g v k ∨ Fb k ∨ Fc k
  low : ∀ k, F k → B ≤ k
/-- At block g lies a Quill, in blocks of F: its row of bits is l, its blocks are G; at most N codes are kept. -/
def Ql (F : Nat → Prop) (B g : Nat) (l : List Nat) (G : Gs) (N : Nat) (w : World) : Prop := ∃ Fb Fc v mb mc, QlAt F Fb Fc B g v mb mc l G N w
section
variable {F Fb Fc S : Nat → Prop} {B g N N' : Nat} {v mb mc : Value} {l : List Nat} {G : Gs} {w w1 : World}
theorem QlAt.keeps (h : QlAt F Fb Fc B g v mb mc l G N w) (k : Keeps S w w1) (hn : ∀ b, F b → ¬ S b) : QlAt F Fb Fc B g v mb mc l G N w1 :=
  ⟨h.row.keeps k fun b hb => hn b ((h.all b).2 (.inl hb)), h.wms.keeps k fun b hb => hn b ((h.all b).2 (.inr (.inl hb))), h.kept.keeps k fun b hb => hn b ((h.all b).2 (.inr (.inr hb))), h.ab, h.bc, h.all, h.low⟩
theorem Ql.keeps (h : Ql F B g l G N w) (k : Keeps S w w1) (hn : ∀ b, F b → ¬ S b) : Ql F B g l G N w1 := by
  obtain ⟨Fb, Fc, v, mb, mc, h⟩ := h
  exact ⟨Fb, Fc, v, mb, mc, h.keeps k hn⟩
theorem Ql.more (h : Ql F B g l G N w) (k : Keeps (fun _ => False) w w1) : Ql F B g l G N w1 := h.keeps k fun _ _ => id
theorem Ql.le (h : Ql F B g l G N w) (hN : N ≤ N') : Ql F B g l G N' w := by
  obtain ⟨Fb, Fc, v, mb, mc, h⟩ := h
  exact ⟨Fb, Fc, v, mb, mc, h.row, h.wms, h.kept.le hN, h.ab, h.bc, h.all, h.low⟩
theorem Ql.low (h : Ql F B g l G N w) : ∀ k, F k → B ≤ k := by
  obtain ⟨Fb, Fc, v, mb, mc, h⟩ := h
  exact h.low
theorem QlAt.lt (h : QlAt F Fb Fc B g v mb mc l G N w) : ∀ k, F k → k < w.heap.size := fun k hk => by
  rcases (h.all k).1 hk with h1 | h1 | h1
  · exact (h.row.its k h1).2
  · exact h.wms.1 k h1
  · exact h.kept.1 k h1
theorem Ql.lt (h : Ql F B g l G N w) : ∀ k, F k → k < w.heap.size := by
  obtain ⟨Fb, Fc, v, mb, mc, h⟩ := h
  exact h.lt
theorem Ql.held (h : Ql F B g l G N w) : Held F (Ql F B g l G N) w := ⟨h.lt, fun S w1 k hn => h.keeps k hn⟩
/-- Its cells; with other maps in them it is a row of bits all the same. -/
theorem row_cells (h : Bq.IsBw mb mc 0 g v l w) : ∃ last o : Nat, Blk w g 77 #[v, .int .u64 last, .int .i64 o, mb, mc] ∧
    ∀ S w1 mb' mc', Keeps S w w1 → (∀ k, v.ownBlock = some k → ¬ S k) → Blk w1 g 77 #[v, .int .u64 last, .int .i64 o, mb', mc'] → Bq.IsBw mb' mc' 0 g v l w1 := by
  obtain ⟨xs, last, o, h, h2⟩ := h
  refine ⟨last, o, h.blk, fun S w1 mb' mc' k hn hb => ⟨xs, last, o, ⟨h.low, Nat.le_trans h.size k.size, h.form, hb, own_keeps h.own k hn, h.fit, h.byte⟩, h2⟩⟩
theorem Ql.start (w : World) : Ql (· = w.heap.size) w.heap.size w.heap.size [] (fun _ => none) 0 (w.alloc (.cells #[.slice none 0 0, .int .u64 0, .int .i64 0, .map none, .map none] 77)) := by
  refine ⟨fun _ => False, fun _ => False, .slice none 0 0, .map none, .map none, ⟨[], 0, 0, ⟨Nat.zero_le _, Nat.zero_le _, ⟨none, 0, rfl⟩, Blk.new _ _ _, World.ownsRow_nil _ _ _ _, by decide, by simp⟩, by decide, rfl⟩, Wms.start _, Kept.start _, fun _ _ => ⟨id, id⟩, fun _ h => h.elim, fun k => ?_, fun k hk => by omega⟩
  constructor
  · intro h
    exact .inl (.inl h)
  · rintro ((h | h) | h | h)
    · exact h
    · simp [Value.ownBlock] at h
    · exact h.elim
    · exact h.elim
end
end Go.Proofs.YtgaofnmgdefdcaaGreatDoor.Qs

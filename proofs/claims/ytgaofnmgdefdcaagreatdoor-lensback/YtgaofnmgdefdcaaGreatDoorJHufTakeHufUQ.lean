/- A code's numbers, asked by word: numberOf, Take: the number whose word the next bits are; where there is none the Reader has ended. -/
/- A bits.Writer at the head of a Quill: what it does, call by call; the Quill's two other cells stay (written by tools/quill/bwq.py out of BitPut). -/
/- Code.Put into the Writer at the head of a Quill (written by tools/quill/bwq.py out of HufUse). -/
import Derived.Test.YtgaofnmgdefdcaaGreatDoorJQlCodeHufUse
import Derived.Test.YtgaofnmgdefdcaaGreatDoorJBitRdLnSt
import Derived.Deep.RegionWith
import Derived.Test.YtgaofnmgdefdcaaGreatDoorJBitWQQlSt
import Derived.Deep.RegionLaw
import Derived.Deep.CutRange

namespace Go.Proofs.YtgaofnmgdefdcaaGreatDoor.Hu
open Go.RowKit Go.Shelf Go.Sort Go.Proofs.YtgaofnmgdefdcaaGreatDoor.Gen Go.Proofs.YtgaofnmgdefdcaaGreatDoor.Mp Go.Proofs.YtgaofnmgdefdcaaGreatDoor.Hr Go.Proofs.YtgaofnmgdefdcaaGreatDoor.Hs Go.Proofs.YtgaofnmgdefdcaaGreatDoor.Hf Go.Proofs.YtgaofnmgdefdcaaGreatDoor.Hz Go.Proofs.YtgaofnmgdefdcaaGreatDoor.Ln Go.Proofs.YtgaofnmgdefdcaaGreatDoor.Hk Go.Proofs.YtgaofnmgdefdcaaGreatDoor.Bp Go.Proofs.YtgaofnmgdefdcaaGreatDoor.Br Go.Proofs.YtgaofnmgdefdcaaGreatDoor.Bf

/-- A code's blocks stay where other ones turn. -/
theorem code_keeps {S : Nat → Prop} {base p : Nat} {w w1 : World} {W : Ws} (h : IsCode base w p W) (k : Keeps S w w1) (hp : ∀ cs, Blk w p 149 cs → ¬ S p) (hm : ∀ k b m, IsM Tryz.prog k w b m → ¬ S b) : IsCode base w1 p W := by
  obtain ⟨bw, bn, h1, h2, h3, h4⟩ := h
  exact ⟨bw, bn, h1.keeps k (hp _ h1), h2.keeps k (hm _ _ _ h2), h3.keeps k (hm _ _ _ h3), h4⟩
theorem code_far {base p g : Nat} {t : TypeId} {cs : Array Value} {w w1 : World} {W : Ws} (h : IsCode base w p W) (hb : Blk w g t cs) (ht : 149 ≠ t) (k : Keeps (· = g) w w1) : IsCode base w1 p W :=
  code_keeps h k (fun _ h1 => Blk.ne h1 hb ht) (fun _ _ _ h1 => fun e => h1.ne_blk hb e.symm)
theorem br_blk {base g : Nat} {s : BS} {w : World} (h : IsBr base g s w) : ∃ cs, Blk w g 138 cs := by
  obtain ⟨_, _, A, c, hb, _⟩ := h
  exact ⟨_, hb⟩
/-- Whose word it is. -/
def whose (W : Ws) (b z : Nat) : Option Int := (W.find? fun t => t.2.2 == b && t.2.1 == z).map (·.1)
theorem whose_mem {W : Ws} {b z : Nat} {x : Int} (h : whose W b z = some x) : (x, z, b) ∈ W := by
  unfold whose at h
  rw [Option.map_eq_some_iff] at h
  obtain ⟨t, ht, rfl⟩ := h
  have h1 := List.find?_some ht
  simp only [Bool.and_eq_true, beq_iff_eq] at h1
  have h2 := List.mem_of_find?_eq_some ht
  obtain ⟨a, b', c⟩ := t
  simp only at h1
  obtain ⟨rfl, rfl⟩ := h1
  exact h2
theorem whose_none {W : Ws} {b z : Nat} (h : whose W b z = none) : ∀ t ∈ W, ¬ (t.2.2 = b ∧ t.2.1 = z) := by
  unfold whose at h
  rw [Option.map_eq_none_iff, List.find?_eq_none] at h
  intro t ht e
  exact h t ht (by simpa using e)
theorem zero_int' (w : World) : (zeroValue 3).run Tryz.prog w = .ok (.int .i64 0) w := by kernel_rfl
/-- All words are numbers of at most 20 bits. -/
def Fine (W : Ws) : Prop := ∀ t ∈ W, t.2.2 < 4294967296 ∧ t.2.1 ≤ 20
theorem look_num {w : World} {bn : Nat} {W : Ws} (h : IsM Tryz.prog 129 w bn (W.map nu)) (hW : Fine W) {b z : Nat} (hb : b < 4294967296) (hz : z ≤ 1000) :
    (Instr.lookup 147 (.map (some bn)) (.agg #[.int .u32 (b : Int), .int .i64 (z : Int)]) true).run Tryz.prog w = .ok (.tuple #[.int .i64 ((whose W b z).getD 0), .bool (whose W b z).isSome]) w := by
  have hl := IsM.look w h word_keyed Tryz.underlying147 (zero_int' w) (key := wv b z) (kl := wk b z) (word_key hb (by omega))
  cases hf : whose W b z with
  | some x => exact (hl.1 (.int .i64 x) (List.mem_map.2 ⟨(x, z, b), whose_mem hf, rfl⟩)).2
  | none =>
    refine (hl.2 ?_).2
    rw [keys_nu]
    intro hm
    rw [List.mem_map] at hm
    obtain ⟨t, ht, e⟩ := hm
    obtain ⟨h5, h6⟩ := hW t ht
    exact whose_none hf t ht (wk_inj h5 (by omega) hb (by omega) e)
theorem numOf_ (base p : Nat) (W : Ws) (b z : Nat) (w : World) (h : IsCode base w p W) (hW : Fine W) (hb : b < 4294967296) (hz : z ≤ 1000) :
    Calls Tryz.prog 118 #[.pointer (some ⟨p, 0, none⟩), .agg #[.int .u32 (b : Int), .int .i64 (z : Int)]] w fun r w' => r = .returned (.tuple #[.int .i64 ((whose W b z).getD 0), .bool (whose W b z).isSome]) ∧ Keeps (fun _ => False) w w' := by
  obtain ⟨bw, bn, h1, _, h2, _⟩ := h
  have hk := (Keeps.refl (fun _ => False) w).alloc (.cells #[.int .u32 (b : Int), .int .i64 (z : Int)] 129)
  have hlook := fun q => look_num ((h2.keeps hk id).keeps ((Keeps.refl (fun _ => False) _).drewN q) id) hW hb hz
  have hc : (w.alloc (.cells #[.int .u32 (b : Int), .int .i64 (z : Int)] 129)).cell? ⟨p, 1, none⟩ = some (.map (some bn)) := (h1.alloc _).cell 1
  have hB := Blk.new w 129 #[.int .u32 (b : Int), .int .i64 (z : Int)]
  have hc0 : (w.alloc (.cells #[.int .u32 (b : Int), .int .i64 (z : Int)] 129)).cell? ⟨w.heap.size, 0, none⟩ = some (.int .u32 (b : Int)) := hB.cell 0
  have hc1 : (w.alloc (.cells #[.int .u32 (b : Int), .int .i64 (z : Int)] 129)).cell? ⟨w.heap.size, 1, none⟩ = some (.int .i64 (z : Int)) := hB.cell 1
  have hne : p ≠ w.heap.size := by have := h1.lt; omega
  generalize (whose W b z).getD 0 = x at *
  generalize (whose W b z).isSome = ok at *
  have HK := Lib.hid hk
  clear h1 h2 hk hB
  go_enter Tryz.func118, Tryz.ntmps118
  go_upto_region 3 with fail
  generalize w.alloc (.cells #[.int .u32 (b : Int), .int .i64 (z : Int)] 129) = wa at *
  go_quiet (fail)
  go_wp2
  go_ret2
  exact ⟨rfl, HK.out.drewN _⟩
theorem numOf_none (u : Value) (w : World) : Calls Tryz.prog 118 #[.pointer none, .agg #[.int .u32 0, .int .i64 0]] w fun r w' => r = .returned (.tuple #[.int .i64 0, .bool false]) ∧ Keeps (fun _ => False) w w' := by
  go_enter Tryz.func118, Tryz.ntmps118
  go_wp2
  go_ret2
  exact ⟨rfl, (Keeps.refl _ _).alloc _⟩
/-- The next bits are a word's. -/
def NextIs (s : BS) (z v : Nat) : Prop := s.k + z ≤ 8 * s.xs.length ∧ num (piece s.bits s.k z) = v
/-- What Take answers: the number whose word the next bits are, the Reader behind it; or 0, and it has ended. -/
def TakeAns (W : Ws) (s : BS) (x : Int) (s' : BS) : Prop :=
  (∃ z v, (x, z, v) ∈ W ∧ s.ended = false ∧ NextIs s z v ∧ s' = { s with k := s.k + z }) ∨
  ((s.ended = true ∨ ∀ t ∈ W, ¬ NextIs s t.2.1 t.2.2) ∧ x = 0 ∧ ∃ k', s' = { s with k := k', ended := true })
theorem num_more {s : BS} {t : Nat} (h : s.k + (t + 1) ≤ 8 * s.xs.length) : num (piece s.bits s.k (t + 1)) = num (piece s.bits s.k t) * 2 + num (piece s.bits (s.k + t) 1) := by
  have e : piece s.bits s.k (t + 1) = piece s.bits s.k t ++ piece s.bits (s.k + t) 1 := by
    unfold piece
    rw [List.take_add, List.drop_drop]
  have hb : ∀ x ∈ piece s.bits (s.k + t) 1, x < 2 := piece_bit (ofB_bit _) _ _
  rw [e, num_app _ _ hb, piece_len (by rw [s.len]; omega)]
theorem num_bit {s : BS} {k : Nat} (h : k + 1 ≤ 8 * s.xs.length) : num (piece s.bits k 1) < 2 := by
  have := num_lt (l := piece s.bits k 1) (s := 1) (by rw [piece_len (by rw [s.len]; omega)]; omega) (piece_bit (ofB_bit _) _ _)
  simpa using this
theorem num_small {s : BS} {t : Nat} (h : s.k + t ≤ 8 * s.xs.length) (ht : t ≤ 21) : num (piece s.bits s.k t) < 2097152 := by
  have h1 := num_lt (l := piece s.bits s.k t) (s := t) (by rw [piece_len (by rw [s.len]; omega)]; omega) (piece_bit (ofB_bit _) _ _)
  have h2 : (2 : Nat) ^ t ≤ 2 ^ 21 := Nat.pow_le_pow_right (by omega) ht
  omega
/-- While bits are taken. -/
structure Tst (W : Ws) (s : BS) (t b : Nat) (s1 : BS) : Prop where
  ok : s.ended = false
  at_ : s1 = { s with k := s.k + t }
  lt : t ≤ 21
  fits : s.k + t ≤ 8 * s.xs.length
  val : num (piece s.bits s.k t) = b
  none_ : ∀ u, u < t → ∀ x ∈ W, ¬ (x.2.2 = num (piece s.bits s.k u) ∧ x.2.1 = u)
/-- Behind the end. -/
structure Tend (W : Ws) (s : BS) (s1 : BS) : Prop where
  none_ : s.ended = true ∨ ∀ t ∈ W, ¬ NextIs s t.2.1 t.2.2
  at_ : ∃ k', s1 = { s with k := k', ended := true }
theorem Tst.hit {W : Ws} {s s1 : BS} {t b : Nat} {x : Int} (h : Tst W s t b s1) (hx : (x, t, b) ∈ W) : TakeAns W s x s1 :=
  .inl ⟨t, b, hx, h.ok, ⟨h.fits, h.val⟩, h.at_⟩
theorem Tst.more {W : Ws} {s s1 : BS} {t b : Nat} (h : Tst W s t b s1) (hm : whose W b t = none) (ht : t ≤ 20) (hf : s.k + (t + 1) ≤ 8 * s.xs.length) : (s1.take 1).2 = { s with k := s.k + (t + 1) } ∧ Tst W s (t + 1) (b * 2 + (s1.take 1).1) { s with k := s.k + (t + 1) } ∧ (s1.take 1).1 < 2 := by
  have e1 : s1.ended = false := by rw [h.at_]; exact h.ok
  have e2 : s1.k = s.k + t := by rw [h.at_]
  have e3 : s1.xs = s.xs := by rw [h.at_]
  have e4 : s1.bits = s.bits := by unfold BS.bits; rw [e3]
  have hn := take_near (s := s1) (t := 1) e1 (by rw [e2, e3]; omega)
  rw [hn]
  simp only
  refine ⟨by rw [h.at_]; simp [Nat.add_assoc], ⟨h.ok, rfl, by omega, hf, ?_, ?_⟩, ?_⟩
  · rw [num_more hf, h.val, e4, e2]
  · intro u hu
    rcases Nat.lt_or_ge u t with h1 | h1
    · exact h.none_ u h1
    · obtain rfl : u = t := by omega
      rw [h.val]
      exact whose_none hm
  · rw [e4, e2]
    exact num_bit (by omega)
theorem Tst.over {W : Ws} {s s1 : BS} {t b : Nat} (h : Tst W s t b s1) (hm : whose W b t = none) (hf : ¬ s.k + (t + 1) ≤ 8 * s.xs.length) : (s1.take 1).1 = 0 ∧ Tend W s (s1.take 1).2 := by
  have e2 : s1.k = s.k + t := by rw [h.at_]
  have e3 : s1.xs = s.xs := by rw [h.at_]
  have hn := take_far (s := s1) (t := 1) (.inr (by rw [e2, e3]; omega))
  rw [hn]
  refine ⟨rfl, .inr fun x hx hN => ?_, s.k + t, by rw [h.at_]⟩
  obtain ⟨h1, h2⟩ := hN
  rcases Nat.lt_trichotomy x.2.1 t with h3 | h3 | h3
  · exact h.none_ _ h3 x hx ⟨h2.symm, rfl⟩
  · rw [h3, h.val] at h2
    exact whose_none hm x hx ⟨h2.symm, h3⟩
  · omega
theorem Tst.full {W : Ws} {s s1 : BS} {b : Nat} (hW : Fine W) (h : Tst W s 21 b s1) : Tend W s { s1 with ended := true } := by
  refine ⟨.inr fun x hx hN => ?_, s.k + 21, by rw [h.at_]⟩
  have := (hW x hx).2
  exact h.none_ x.2.1 (by omega) x hx ⟨hN.2.symm, rfl⟩
theorem or_bit {n x : Nat} (hn : n < 2147483648) (hx : x < 2) : bits .or .u32 ((n : Int) * 2) (x : Int) = ((n * 2 + x : Nat) : Int) := by
  have ho := Nat.two_pow_add_eq_or_of_lt (i := 1) (by omega : x < 2 ^ 1) n
  rw [show (n : Int) * 2 = ((n * 2 : Nat) : Int) by simp, u32_or_nat (n * 2) x (by omega) (by omega), show n * 2 = 2 ^ 1 * n by omega, ← ho]

set_option maxHeartbeats 4000000 in
set_option maxRecDepth 100000 in
theorem take_ (base p : Nat) (W : Ws) (br rg : Nat) (s : BS) (w : World) (h : IsCode base w p W) (hW : Fine W) (hr : IsBr br rg s w) :
    Calls Tryz.prog 97 #[.pointer (some ⟨p, 0, none⟩), .pointer (some ⟨rg, 0, none⟩)] w fun r w' => ∃ x s', r = .returned (.int .i64 x) ∧ TakeAns W s x s' ∧ IsBr br rg s' w' ∧ IsCode base w' p W ∧ Keeps (· = rg) w w' := by
  have HC := Lib.hid h
  have HW := Lib.hid hW
  have HR := Lib.hid hr
  have hrg := hr.lt
  clear h hW hr
  go_enter Tryz.func97, Tryz.ntmps97
  go_wp2
  have HB0 := Lib.hid (Blk.new w 129 #[.int .u32 0, .int .i64 0])
  have HK0 := Lib.hid ((Keeps.refl (fun _ => False) w).alloc (.cells #[.int .u32 0, .int .i64 0] 129))
  obtain ⟨pw, hpw⟩ : ∃ pw, pw = w.heap.size := ⟨_, rfl⟩
  obtain ⟨wa, hwa⟩ : ∃ wa, wa = w.alloc (.cells #[.int .u32 0, .int .i64 0] 129) := ⟨_, rfl⟩
  rw [← hwa, ← hpw] at HB0
  rw [← hwa] at HK0
  rw [← hwa, ← hpw]
  have hpr : pw ≠ rg := by omega
  have HPW : Hid (w.heap.size ≤ pw) := by show _ ≤ _; omega
  clear hwa hpw
  go_loopw [] (fun wr => ∃ (t b : Nat) (s1 : BS), Blk wr pw 129 #[.int .u32 (b : Int), .int .i64 (t : Int)] ∧ (Tst W s t b s1 ∨ Tend W s s1) ∧ t ≤ 21 ∧ IsBr br rg s1 wr ∧ IsCode base wr p W ∧ Keeps (· = rg) w wr) (fun wr => 22 - (intOf ((wr.cell? ⟨pw, 1, none⟩).getD undef)).toNat)
  case atStart =>
    refine ⟨0, 0, s, HB0.out, ?_, by omega, HR.out.keeps HK0.out (fun _ _ => id), HC.out.keeps HK0.out (fun _ _ _ => id), HK0.out.none_⟩
    cases he : s.ended with
    | false => exact .inl ⟨he, by simp, by omega, by have := HR.out.2.1.1; omega, by simp [piece, num], by omega⟩
    | true => exact .inr ⟨.inl he, s.k, by rw [← he]⟩
  case round =>
    clear HB0 HK0 HR HC
    obtain ⟨t, b, s1, hb, hst, ht, hr, hc, hk⟩ := hrel
    have HBL := Lib.hid hb
    have HR := Lib.hid hr
    have HC := Lib.hid hc
    have HK := Lib.hid hk
    have hc0 : wr.cell? ⟨pw, 0, none⟩ = some (.int .u32 (b : Int)) := hb.cell 0
    have hc1 : wr.cell? ⟨pw, 1, none⟩ = some (.int .i64 (t : Int)) := hb.cell 1
    have hm0 : wr.cell? ⟨pw, 1, none⟩ = some (.int .i64 (t : Int)) := hc1
    clear hb hr hc hk
    rcases hst with hst | hst
    · have HT := Lib.hid hst
      clear hst
      by_cases ht2 : t ≤ 20
      · have hd : decide ((t : Int) ≤ 20) = true := by simp; omega
        have HEN := Lib.hid (ended_q rg s1 false br wr HR.out (by rw [HT.out.at_]; exact HT.out.ok))
        have hb2 := num_small HT.out.fits (by omega)
        rw [HT.out.val] at hb2
        have HNO := Lib.hid (numOf_ base p W b t wr HC.out HW.out (by omega) (by omega))
        cases hwh : whose W b t with
        | some x =>
          rw [hwh] at HNO
          simp only [Option.getD_some, Option.isSome_some] at HNO
          have HHIT := Lib.hid (HT.out.hit (whose_mem hwh))
          clear hwh
          go_wp2_with (first
            | (go_at_call 99
               refine HEN.out.mono ?_
               rintro e w' ⟨rfl, hw⟩
               rw [hw]
               clear hw)
            | (go_at_call 118
               refine HNO.out.mono ?_
               rintro e w2 ⟨rfl, hk2⟩
               have HK2 := Lib.hid hk2
               clear hk2))
          go_ret
          exact ⟨x, s1, rfl, HHIT.out, HR.out.keeps HK2.out (fun _ _ => id), HC.out.keeps HK2.out (fun _ _ _ => id), HK.out.trans HK2.out.none_⟩
        | none =>
          rw [hwh] at HNO
          simp only [Option.getD_none, Option.isSome_none] at HNO
          have HWH := Lib.hid hwh
          clear hwh
          go_upto_region 6 with (first
            | (go_at_call 99
               refine HEN.out.mono ?_
               rintro e w' ⟨rfl, hw⟩
               rw [hw]
               clear hw)
            | (go_at_call 118
               refine HNO.out.mono ?_
               rintro e w2 ⟨rfl, hk2⟩
               have HK2 := Lib.hid hk2
               clear hk2))
          have HR2 := Lib.hid (HR.out.keeps HK2.out (fun _ _ => id))
          have HC2 := Lib.hid (HC.out.keeps HK2.out (fun _ _ _ => id))
          have HB2 := Lib.hid (HBL.out.keeps HK2.out id)
          have HKK := Lib.hid (HK.out.trans HK2.out.none_)
          clear HEN HNO HR HC HBL HK HK2 hc0 hc1
          obtain ⟨nv, hnv⟩ : ∃ nv, nv = (s1.take 1).1 := ⟨_, rfl⟩
          obtain ⟨s2, hs2⟩ : ∃ s2, s2 = (s1.take 1).2 := ⟨_, rfl⟩
          have HNX : Hid (nv < 2 ∧ (Tst W s (t + 1) (b * 2 + nv) s2 ∨ Tend W s s2)) := by
            by_cases hf : s.k + (t + 1) ≤ 8 * s.xs.length
            · obtain ⟨g1, g2, g3⟩ := HT.out.more HWH.out ht2 hf
              rw [← hnv] at g2 g3
              rw [← hs2] at g1
              rw [← g1] at g2
              exact ⟨g3, .inl g2⟩
            · obtain ⟨g1, g2⟩ := HT.out.over HWH.out hf
              rw [← hnv] at g1
              rw [← hs2] at g2
              exact ⟨by omega, .inr g2⟩
          have hnv2 := HNX.out.1
          have HTA := Lib.hid (fun w' (hr : IsBr br rg s1 w') => take_q rg s1 s2 br 1 (nv : Int) 1 w' hr (by decide) (by rw [hnv]) hs2.symm)
          have HVA : Hid (bits .or .u32 (IntKind.u32.wrap ((b : Int) * 2)) (nv : Int) = ((b * 2 + nv : Nat) : Int)) := by
            show bits _ _ _ _ = _
            rw [show IntKind.u32.wrap ((b : Int) * 2) = (b : Int) * 2 by simp [IntKind.wrap, IntKind.bits, IntKind.signed]; omega]
            exact or_bit (by omega) hnv2
          have hc0 : w2.cell? ⟨pw, 0, none⟩ = some (.int .u32 (b : Int)) := HB2.out.cell 0
          clear hnv hs2
          go_cut [] from 25 to 31 (fun wx => Blk wx pw 129 #[.int .u32 ((b * 2 + nv : Nat) : Int), .int .i64 (t : Int)] ∧ IsBr br rg s2 wx ∧ IsCode base wx p W ∧ Keeps (· = rg) w wx)
          case first =>
            go_region_with (
              go_at_call 98
              refine (HTA.out _ (HR2.out.drewN 1)).mono ?_
              rintro e w3 ⟨rfl, hr3, hk3⟩
              have hk3' := hk3.of_drew
              have hb3 := HB2.out.keeps hk3' hpr
              have hc3 : w3.cell? ⟨pw, 0, none⟩ = some (.int .u32 (b : Int)) := hb3.cell 0
              have hf3 := hb3.frozen 0
              have HB3 := Lib.hid hb3
              have HR3 := Lib.hid hr3
              have HC3 : Hid (IsCode base w3 p W) := by
                obtain ⟨cs, hcs⟩ := br_blk HR2.out
                exact code_far HC2.out hcs (by decide) hk3'
              have HK3 := Lib.hid (HKK.out.trans hk3')
              clear hr3 hk3 hk3' hb3)
            all_goals go_wp2_with fail
            all_goals go_meet
            all_goals
              rw [HVA.out]
              have hkp : Keeps (· = pw) w3 (w3.setCell ⟨pw, 0, none⟩ (.int .u32 ((b * 2 + nv : Nat) : Int))) := (Keeps.refl _ _).setOwn 0 _
              exact ⟨HB3.out.setCell 0 _, HR3.out.low hkp (fun b _ hb e => by have := HPW.out; omega), code_far HC3.out HB3.out (by decide) hkp, HK3.out.setCell (p := ⟨pw, 0, none⟩) (.inr HPW.out) _⟩
          case rest =>
            obtain ⟨hb4, hr4, hc4, hk4⟩ := hcut
            have HB4 := Lib.hid hb4
            have HR4 := Lib.hid hr4
            have HC4 := Lib.hid hc4
            have HK4 := Lib.hid hk4
            have hc1 : wc.cell? ⟨pw, 1, none⟩ = some (.int .i64 (t : Int)) := hb4.cell 1
            have hf1 := hb4.frozen 1
            clear hb4 hr4 hc4 hk4 HR2 HC2 HB2 HKK hc0 HTA
            have HKP : Hid (Keeps (· = pw) wc (wc.setCell ⟨pw, 1, none⟩ (.int .i64 ((t : Int) + 1)))) := (Keeps.refl _ _).setOwn 1 _
            have HB5 : Hid (Blk (wc.setCell ⟨pw, 1, none⟩ (.int .i64 ((t : Int) + 1))) pw 129 #[.int .u32 ((b * 2 + nv : Nat) : Int), .int .i64 ((t + 1 : Nat) : Int)]) := by
              have h1 := HB4.out.setCell 1 (.int .i64 ((t : Int) + 1))
              show Blk _ _ _ _
              simpa using h1
            go_wp2
            refine ⟨⟨t + 1, b * 2 + nv, s2, HB5.out, HNX.out.2, by omega, HR4.out.low HKP.out (fun b _ hb e => by have := HPW.out; omega), code_far HC4.out HB4.out (by decide) HKP.out, HK4.out.setCell (p := ⟨pw, 1, none⟩) (.inr HPW.out) _⟩, ?_⟩
            have h5 : (wc.setCell ⟨pw, 1, none⟩ (.int .i64 ((t : Int) + 1))).cell? ⟨pw, 1, none⟩ = some (.int .i64 ((t + 1 : Nat) : Int)) := HB5.out.cell 1
            rw [h5, hm0]
            simp [intOf]
            omega
      · have hd : decide ((t : Int) ≤ 20) = false := by simp; omega
        have HFA := Lib.hid (fail rg s1 br wr HR.out)
        have HEN : Hid (Tend W s { s1 with ended := true }) := by
          obtain rfl : t = 21 := by omega
          exact HT.out.full HW.out
        go_wp2_with (
          refine HFA.out.mono ?_
          rintro e w2 ⟨rfl, hr2, hk2⟩
          have HR2 := Lib.hid hr2
          have HK2 := Lib.hid hk2
          clear hr2 hk2)
        go_ret
        refine ⟨0, _, rfl, .inr ⟨HEN.out.none_, rfl, HEN.out.at_⟩, HR2.out, ?_, HK.out.trans HK2.out⟩
        obtain ⟨cs, hcs⟩ := br_blk HR.out
        exact code_far HC.out hcs (by decide) HK2.out
    · have HT := Lib.hid hst
      clear hst
      have HFA := Lib.hid (fail rg s1 br wr HR.out)
      have he1 : s1.ended = true := by obtain ⟨k', e⟩ := HT.out.at_; rw [e]
      have HEN : Hid (Tend W s { s1 with ended := true }) := by
        refine ⟨HT.out.none_, ?_⟩
        obtain ⟨k', e⟩ := HT.out.at_
        exact ⟨k', by rw [e]⟩
      have HEQ := Lib.hid (ended_q rg s1 true br wr HR.out he1)
      clear he1
      have HEND : Hid (∀ w2, IsBr br rg { s1 with ended := true } w2 → Keeps (· = rg) wr w2 → ∃ x s', Ending.returned (.int .i64 0) = Ending.returned (.int .i64 x) ∧ TakeAns W s x s' ∧ IsBr br rg s' w2 ∧ IsCode base w2 p W ∧ Keeps (· = rg) w w2) := by
        intro w2 g1 g2
        refine ⟨0, _, rfl, .inr ⟨HEN.out.none_, rfl, HEN.out.at_⟩, g1, ?_, HK.out.trans g2⟩
        obtain ⟨cs, hcs⟩ := br_blk HR.out
        exact code_far HC.out hcs (by decide) g2
      by_cases ht2 : t ≤ 20
      · have hd : decide ((t : Int) ≤ 20) = true := by simp; omega
        go_wp2_with (first
          | (go_at_call 99
             refine HEQ.out.mono ?_
             rintro e w' ⟨rfl, hw⟩
             rw [hw]
             clear hw)
          | (go_at_call 54
             refine HFA.out.mono ?_
             rintro e w2 ⟨rfl, hr2, hk2⟩
             have HR2 := Lib.hid hr2
             have HK2 := Lib.hid hk2
             clear hr2 hk2))
        go_ret
        exact HEND.out _ HR2.out HK2.out
      · have hd : decide ((t : Int) ≤ 20) = false := by simp; omega
        go_wp2_with (
          refine HFA.out.mono ?_
          rintro e w2 ⟨rfl, hr2, hk2⟩
          have HR2 := Lib.hid hr2
          have HK2 := Lib.hid hk2
          clear hr2 hk2)
        go_ret
        exact HEND.out _ HR2.out HK2.out
end Go.Proofs.YtgaofnmgdefdcaaGreatDoor.Hu

namespace Go.Proofs.YtgaofnmgdefdcaaGreatDoor.Bq
open Go.RowKit Go.Proofs.YtgaofnmgdefdcaaGreatDoor.Gen Go.Proofs.YtgaofnmgdefdcaaGreatDoor.Cl Go.Proofs.YtgaofnmgdefdcaaGreatDoor.Bp Go.Proofs.YtgaofnmgdefdcaaGreatDoor.Bf
open Go.Proofs.YtgaofnmgdefdcaaGreatDoor.Bw hiding At IsBw Puts At.keeps At.drew At.ne At.set IsBw.keeps IsBw.its stored bytes put
variable {m1 m2 : Value}

set_option maxHeartbeats 4000000 in
set_option maxRecDepth 100000 in
theorem put (g base : Nat) (v : Value) (l : List Nat) (n : Nat) (s : Int) (w : World) (h : IsBw m1 m2 base g v l w) (hl : l.length + 32 ≤ 8000000) (hn : n < 4294967296) :
    Calls Tryz.prog 39 #[.pointer (some ⟨g, 0, none⟩), .int .u32 n, .int .i64 s] w (Puts m1 m2 base g v (l ++ tb n (sz s)) w) := by
  obtain ⟨xs, last, o, h, ho, rfl⟩ := h
  have hs := sz_le s
  obtain ⟨A, c, rfl⟩ := h.form
  have h0 : w.cell? ⟨g, 0, none⟩ = some (.slice A xs.length c) := h.blk.cell 0
  have h1 : w.cell? ⟨g, 1, none⟩ = some (.int .u64 last) := h.blk.cell 1
  have h2 : w.cell? ⟨g, 2, none⟩ = some (.int .i64 o) := h.blk.cell 2
  have f1 : w.frozen? ⟨g, 1, none⟩ = false := h.blk.frozen 1
  have hfit := h.fit
  have H := Lib.hid h
  clear h
  go_enter Tryz.func39, Tryz.ntmps39
  go_wp2_with fail
  refine (near s _).mono ?_
  rintro e w1 ⟨rfl, rfl⟩
  generalize sz s = t at *
  have ht0 : (0 : Int) ≤ (t : Int) := by omega
  obtain ⟨q, hq⟩ : ∃ q, n % 2 ^ t = q := ⟨_, rfl⟩
  obtain ⟨L, hL⟩ : ∃ L, last * 2 ^ t % 18446744073709551616 = L := ⟨_, rfl⟩
  have hq1 : q < 4294967296 := by have := Nat.mod_le n (2 ^ t); omega
  have hL1 : L < 18446744073709551616 := by omega
  have hwn : IntKind.u64.wrap (n : Int) = (n : Int) := IntWalk.u64_in _ (by omega)
  have hwq : IntKind.u64.wrap (q : Int) = (q : Int) := IntWalk.u64_in _ (by omega)
  have hwl : IntKind.u64.wrap ((last : Int) * 2 ^ t) = (L : Int) := by rw [IntKind.wrap_u64, ← hL]; simp
  have hor : bits .or .u64 (L : Int) (q : Int) = ((push last n t : Nat) : Int) := by rw [u64_or_nat L q hL1 (by omega), ← hL, ← hq, push_or last n (by omega)]
  obtain ⟨P, hP⟩ : ∃ P, push last n t = P := ⟨_, rfl⟩
  rw [hP] at hor
  have HP := Lib.hid hP
  have HPL : Hid (P < 18446744073709551616) := by rw [← hP]; exact push_lt last n (by omega)
  have HQ := Lib.hid hq
  clear hP hq hL
  have HO := Lib.hid ho
  have HL := Lib.hid hl
  have HC2 := Lib.hid h2
  clear ho hl h2 h0
  go_upto_region 2 with fail
  go_cut [2] from 10 (fun sl wx => sl = .int .i64 t ∧ At m1 m2 base g (.slice A xs.length c) xs P o wx ∧ Keeps (Its g (.slice A xs.length c)) w1 wx)
  case first =>
    go_region_with ((go_at_call 66; refine (lowest_q n t q _ (by omega) hs HQ.out).mono ?_; rintro e w2 ⟨rfl, rfl⟩))
    all_goals go_wp2_with fail
    all_goals go_meet
    all_goals exact ⟨rfl, (H.out.set 1 _ HPL.out rfl).drew, ((Keeps.refl _ _).setCell (p := ⟨g, 1, none⟩) (.inl (.inl rfl)) _).drewN 1⟩
  case rest =>
    obtain ⟨rfl, hat, hk⟩ := hcut
    have HA := Lib.hid hat
    have HK := Lib.hid hk
    have c2 : wc.cell? ⟨g, 2, none⟩ = some (.int .i64 o) := hat.blk.cell 2
    have d2 : wc.frozen? ⟨g, 2, none⟩ = false := hat.blk.frozen 2
    have ho := HO.out
    clear hat hk h1 f1 hfit hq1 hL1 hwn hwq hwl hor HQ HC2 H
    have HA2 := Lib.hid (HA.out.set 2 (.int .i64 ((o : Int) + (t : Int))) HPL.out (o' := o + t) (by simp))
    have HK2 := Lib.hid (HK.out.setCell (p := ⟨g, 2, none⟩) (.inl (.inl rfl)) (.int .i64 ((o : Int) + (t : Int))))
    have HT : Hid (bitsOf xs ++ tb P (o + t) = bitsOf xs ++ tb last o ++ tb n t) := by
      show bitsOf xs ++ tb P (o + t) = bitsOf xs ++ tb last o ++ tb n t
      rw [← HP.out, push_tb (by omega), List.append_assoc]
    have HN : Hid (8 * xs.length + (o + t) ≤ 8000000) := by
      show 8 * xs.length + (o + t) ≤ 8000000
      have := HL.out
      rw [List.length_append, bitsOf_len, tb_len] at this
      omega
    have HD : Hid (o + t ≤ 39) := by show o + t ≤ 39; omega
    clear HA HK HP HO HL
    go_wp2
    generalize wc.setCell ⟨g, 2, none⟩ (.int .i64 ((o : Int) + (t : Int))) = W at *
    generalize bitsOf xs ++ tb last o ++ tb n t = l at *
    clear c2 d2
    obtain ⟨i0, hi0, hz0, hz1, hz2⟩ := info_parts u8_info
    go_loopw [] (fun wr => ∃ (A' : Option Addr) (xs' : List Int) (c' o' : Nat), At m1 m2 base g (.slice A' xs'.length c') xs' P o' wr ∧ bitsOf xs' ++ tb P o' = l ∧ 8 * xs'.length + o' ≤ 8000000 ∧ o' ≤ 39 ∧ Moves g (.slice A xs.length c) (.slice A' xs'.length c') w1 wr) (fun wr => (intOf ((wr.cell? ⟨g, 2, none⟩).getD undef)).toNat)
    case atStart => exact ⟨A, xs, c, o + t, HA2.out, HT.out, HN.out, HD.out, HK2.out, .inl rfl⟩
    case round =>
      obtain ⟨A', xs', c', o', hat, hbits, hlen, ho', hmv⟩ := hrel
      have c0 : wr.cell? ⟨g, 0, none⟩ = some (.slice A' xs'.length c') := hat.blk.cell 0
      have c1 : wr.cell? ⟨g, 1, none⟩ = some (.int .u64 P) := hat.blk.cell 1
      have c2 : wr.cell? ⟨g, 2, none⟩ = some (.int .i64 o') := hat.blk.cell 2
      have d0 : wr.frozen? ⟨g, 0, none⟩ = false := hat.blk.frozen 0
      have d2 : wr.frozen? ⟨g, 2, none⟩ = false := hat.blk.frozen 2
      have HA := Lib.hid hat
      have HB := Lib.hid hbits
      have HM := Lib.hid hmv
      clear hat hbits hmv HA2 HK2 HT HN HD
      by_cases h8 : 8 ≤ o'
      · obtain ⟨o2, rfl⟩ : ∃ o2, o' = o2 + 8 := ⟨o' - 8, by omega⟩
        obtain ⟨x, hx⟩ : ∃ x, P / 2 ^ o2 % 256 = x := ⟨_, rfl⟩
        have hw8 : IntKind.u8.wrap ((P : Int) / 2 ^ o2) = (x : Int) := by rw [IntKind.wrap_u8, ← hx]; simp
        have HX := Lib.hid hx
        have HXB : Hid (x < 256) := by show x < 256; omega
        have HA2 := Lib.hid (HA.out.set 2 (.int .i64 (o2 : Int)) HPL.out (o' := o2) (by simp))
        have HM2 := Lib.hid (HM.out.trans ⟨(Keeps.refl _ _).setCell (p := ⟨g, 2, none⟩) (.inl (.inl rfl)) (.int .i64 (o2 : Int)), .inl rfl⟩)
        have ho0 : (0 : Int) ≤ (o2 : Int) := by omega
        have HC := Lib.hid c2
        clear hx c0 c1 d0 HA HM
        go_wp2
        generalize wr.setCell ⟨g, 2, none⟩ (.int .i64 (o2 : Int)) = W2 at *
        clear c2 d2
        have c0 : W2.cell? ⟨g, 0, none⟩ = some (.slice A' xs'.length c') := HA2.out.blk.cell 0
        have c1 : W2.cell? ⟨g, 1, none⟩ = some (.int .u64 P) := HA2.out.blk.cell 1
        have c2 : W2.cell? ⟨g, 2, none⟩ = some (.int .i64 o2) := HA2.out.blk.cell 2
        have hnews : ∀ j u, [Value.int .u8 (x : Int)][j]? = some u → (W2.alloc (.cells #[.int .u8 (x : Int)] 5)).cell? ((⟨W2.heap.size, 0, none⟩ : Addr).add j) = some u := by
          intro j u hu
          rw [add_none, (Blk.new W2 5 #[.int .u8 (x : Int)]).cell]
          simpa using hu
        have HNW := Lib.hid hnews
        have e0 : (W2.alloc (.cells #[.int .u8 (x : Int)] 5)).cell? ⟨g, 0, none⟩ = some (.slice A' xs'.length c') := (HA2.out.blk.alloc _).cell 0
        have hxl : xs'.length ≤ 1000000 := by omega
        clear hnews HPL
        go_region_law ((refine step_append_lies _ (by rfl) _ _ _ (by rfl) base 5 i0 _ 1 1 Tryz.underlying29 hi0 hz0 hz1 hz2 rfl (by omega) (.slice A' xs'.length c') xs'.length (bv xs') (by rfl) (by exact HA2.out.own.alloc _) ⟨W2.heap.size, 0, none⟩ 1 1 [.int .u8 (x : Int)] (by rfl) rfl (by exact HNW.out) (by simp [Value.oneCell']) (by omega) (by simp only [maxLen]; omega) (by omega) (by have := HA2.out.size; simp; omega) _ rfl ?_
                        intro g3 cap3 w3 hown3 hgrow3 hat3 hlt3
                        have h7 : Blk w3 g 77 #[.slice A' xs'.length c', .int .u64 P, .int .i64 o2, m1, m2] := Blk.grown (by exact HA2.out.blk.alloc _) hgrow3 (fun e => HA2.out.ne _ e rfl)
                        have c3 : w3.cell? ⟨g, 0, none⟩ = some (.slice A' xs'.length c') := h7.cell 0
                        have d3 : w3.frozen? ⟨g, 0, none⟩ = false := h7.frozen 0
                        have H7 := Lib.hid h7
                        have HO3 := Lib.hid hown3
                        have HG3 := Lib.hid hgrow3
                        have HT3 := Lib.hid hat3
                        clear h7 hown3 hgrow3 hat3 hlt3))
        all_goals go_wp2
        all_goals
          have HR := stored HA2.out H7.out (x := x) (by simpa [bv_append, bv] using HO3.out) HXB.out (Keeps.grown (w1 := (W2.alloc (.cells #[.int .u8 (x : Int)] 5)).drew) (by exact ((Keeps.refl _ _).alloc _).drewN 1) HG3.out (fun k hk => .inl (.inr hk))) (by rcases HT3.out with h | h; exact .inl h.symm; exact .inr ⟨_, rfl, by rw [h]; simp⟩)
          refine ⟨⟨some ⟨g3, 0, none⟩, xs' ++ [(x : Int)], cap3, o2, by simpa using HR.1, by rw [bitsOf_snoc, Int.toNat_natCast, ← HX.out, List.append_assoc, ← shift_tb]; exact HB.out, by simp; omega, by omega, by simpa using HM2.out.trans HR.2⟩, ?_⟩
          have hm2 := HR.1.blk.cell 2
          have hm1 := HC.out
          rw [hm2, hm1]
          show ((o2 : Int)).toNat < (((o2 + 8 : Nat) : Int)).toNat
          omega
      · go_wp2
        go_end0
        exact ⟨rfl, _, ⟨xs', P, o', HA.out, by omega, HB.out.symm⟩, HM.out⟩
end Go.Proofs.YtgaofnmgdefdcaaGreatDoor.Bq

namespace Go.Proofs.YtgaofnmgdefdcaaGreatDoor.Bq
open Go.RowKit Go.Shelf Go.Sort Go.Proofs.YtgaofnmgdefdcaaGreatDoor.Gen Go.Proofs.YtgaofnmgdefdcaaGreatDoor.Mp Go.Proofs.YtgaofnmgdefdcaaGreatDoor.Hr Go.Proofs.YtgaofnmgdefdcaaGreatDoor.Hs Go.Proofs.YtgaofnmgdefdcaaGreatDoor.Hf Go.Proofs.YtgaofnmgdefdcaaGreatDoor.Hz Go.Proofs.YtgaofnmgdefdcaaGreatDoor.Ln Go.Proofs.YtgaofnmgdefdcaaGreatDoor.Hk Go.Proofs.YtgaofnmgdefdcaaGreatDoor.Bp
open Go.Proofs.YtgaofnmgdefdcaaGreatDoor.Hu hiding put_some
open Go.Proofs.YtgaofnmgdefdcaaGreatDoor.Bw hiding At IsBw Puts At.keeps At.drew At.ne At.set IsBw.keeps IsBw.its stored bytes put
variable {m1 m2 : Value}

/-- Put of a number that has a word. -/
theorem put_some (base p : Nat) (W : Ws) (x : Int) (z v : Nat) (bs g : Nat) (vw : Value) (l : List Nat) (w : World) (h : IsCode base w p W) (hx : (Lit.int .i64 x).wf = true) (hf : found W x = some (z, v)) (hz : z ≤ 32) (hv : v < 4294967296) (hw : IsBw m1 m2 bs g vw l w) (hl : l.length + 32 ≤ 8000000) :
    Calls Tryz.prog 38 #[.pointer (some ⟨p, 0, none⟩), .pointer (some ⟨g, 0, none⟩), .int .i64 x] w fun r w' => r = .returned (.bool true) ∧ ∃ v', IsBw m1 m2 bs g v' (l ++ tb v z) w' ∧ Moves g vw v' w w' := by
  have HRO := Lib.hid (wordOf_ base p W x w h hx)
  have e1 : wb W x = v := by simp [wb, hf]
  have e2 : wz W x = z := by simp [wz, hf]
  have e3 : (found W x).isSome = true := by simp [hf]
  rw [e1, e2, e3] at HRO
  have HW := Lib.hid hw
  have HSZ : Hid (Bf.sz (z : Int) = z) := by show Bf.sz (z : Int) = z; unfold Bf.sz; omega
  clear h e1 e2 e3 hf hw
  go_enter Tryz.func38, Tryz.ntmps38
  go_wp2_with fail
  refine HRO.out.mono ?_
  rintro e w1 ⟨rfl, hk⟩
  have HK1 := Lib.hid (hk.alloc (.cells #[.int .u32 (v : Int), .int .i64 (z : Int)] 129))
  have HPU := Lib.hid (put g bs vw l v (z : Int) _ (HW.out.keeps HK1.out (fun _ _ => id)) hl hv)
  clear hk
  go_wp2_with (
    refine HPU.out.mono ?_
    rintro e w2 ⟨rfl, v', hv', hm⟩
    have HV := Lib.hid hv'
    have HMV := Lib.hid hm
    clear hv' hm)
  go_ret
  refine ⟨rfl, v', ?_, ?_⟩
  · have h1 := HV.out
    rw [HSZ.out] at h1
    exact h1
  · have h1 := HMV.out
    refine ⟨(HK1.out.none_ (S := Its g vw)).trans h1.keeps, ?_⟩
    rcases h1.at_ with h2 | ⟨b, h2, h3⟩
    · exact .inl h2
    · exact .inr ⟨b, h2, Nat.le_trans HK1.out.size h3⟩
end Go.Proofs.YtgaofnmgdefdcaaGreatDoor.Bq

/- Put: bytes with their sum behind, in a row of its own. Besides: a sum of one part, of two; an append of bytes that may be nil. -/
import Derived.Test.YtbehchibgkgpbaaCrcSum
import Derived.Laws.AppendOwnNone
namespace Go.Proofs.Ytbehchibgkgpbaa.Cu
open Go.RowKit Go.Proofs.Ytbehchibgkgpbaa.Gen Go.Proofs.Ytbehchibgkgpbaa.Cp Go.Proofs.Ytbehchibgkgpbaa.Ct Go.Proofs.Ytbehchibgkgpbaa.Cs

theorem u8_info : (Try.prog.info? 5).map (fun i => (i.zero, i.size, i.bytes)) = some (some (.int .u8 0), 1, 1) := by kernel_rfl
/-- A row of its own: these bytes, and nothing that was there has turned. -/
def Own (base n : Nat) (xs : List Int) (w : World) (r : Ending) (w' : World) : Prop :=
  ∃ A c, r = .returned (.slice A n c) ∧ w'.ownsRow base 5 1 (.slice A n c) n (bv xs) ∧ Keeps (fun _ => False) w w'
/-- An append of bytes that may be nil. -/
theorem wpList_app {w : World} {ops : Array Oper} {rest : List Oper} {o : Oper} {a : Act} {Q : Exit → Act → World → Prop} (hgd : o.guard = none) (s x : Operand)
    (ho : o.op = .call { callee := .builtin .append, args := #[s, x], argTypes := #[22, 22] })
    (base : Nat) (v : Value) (n : Nat) (ys : List Int) (hs : a.eval s = v) (hown : w.ownsRow base 5 1 v n (bv ys))
    (A : Option Addr) (m c : Nat) (xs : List Int) (hx : a.eval x = .slice A m c) (hl : Lies w A xs) (hm : xs.length = m) (hc : A = none → c = 0)
    (h63 : n + m ≤ 10000000) (hbase : base ≤ w.heap.size)
    (h : ∀ v' w', w'.ownsRow base 5 1 v' (n + m) (bv (ys ++ xs)) → w.grownBy w' v.ownBlock → wpList Try.prog ops Q rest (a.put o.dst v') w') :
    wpList Try.prog ops Q (o :: rest) a w := by
  obtain ⟨i0, hi0, hz0, hz1, hz2⟩ := info_parts u8_info
  cases A with
  | none =>
    obtain rfl : xs = [] := by
      rcases hl with h1 | ⟨b, o, h1, _⟩
      · exact h1
      · cases h1
    obtain rfl := hc rfl
    simp at hm
    subst hm
    refine wpList_append_own_none hgd s x 22 ho base 5 i0 1 Try.underlying22 hi0 v n (bv ys) hs hown hx ?_
    refine h v w (by simpa using hown) ?_
    exact World.grownBy.refl _ _
  | some ad =>
    refine wpList_append_own_at w hgd s x 22 ho base 5 i0 _ 1 1 Try.underlying22 hi0 hz0 hz1 hz2 rfl (by omega) v n (bv ys) hs hown ad m c (bv xs) hx (by rw [bv_len]; omega) hl.news (bv_one _) (by simp only [maxLen]; omega) (by omega) hbase ?_
    intro v' w' h1 h2 _ _
    refine h v' w' ?_ h2
    rw [bv_append]
    exact h1
/-- A slice expression's and an argument's one part, laid in a new block. -/
theorem Parts.one {w : World} {A : Option Addr} {c : Nat} {xs : List Int} (hl : Lies w A xs) (hb : Byt xs) (hn : xs.length ≤ 1000000) : Parts (w.alloc (.cells #[.slice A xs.length c] 22)) w.heap.size [(A, c, xs)] := by
  refine ⟨Blk.new w 22 _, ?_, ?_, ?_, by simp⟩
  all_goals
    intro q hq
    simp at hq
    subst hq
  · exact hl.keeps (S := fun _ => False) ((Keeps.refl _ _).alloc _) (fun _ _ _ => id)
  · exact hb
  · exact hn
theorem sum_one (g k c q : Nat) (A : Option Addr) (xs : List Int) (w : World) (hg : Blk w g 37 (tabAt 256)) (hl : Lies w A xs) (hb : Byt xs) (hk : xs.length = k) (hn : k ≤ 1000000) (hq : sumOf (nat xs) = q) :
    Calls Try.prog 11 #[.pointer (some ⟨g, 0, none⟩), .slice (some ⟨w.heap.size, 0, none⟩) 1 1] (w.alloc (.cells #[.slice A k c] 22)) fun r w' => r = .returned (.int .u32 (q : Int)) ∧ w' = w.alloc (.cells #[.slice A k c] 22) := by
  subst hq
  subst hk
  have h := sum_ g w.heap.size 1 [(A, c, xs)] _ (hg.alloc _) (Parts.one hl hb hn) rfl
  simpa [flat] using h
/-- A sum's first bytes, the lowest first. -/
def wordAt (q i : Nat) : List Int := (List.range i).map fun j => ((q / 256 ^ j % 256 : Nat) : Int)
theorem wordAt_len (q i : Nat) : (wordAt q i).length = i := by simp [wordAt]
theorem wordAt_succ (q i : Nat) : wordAt q (i + 1) = wordAt q i ++ [((q / 256 ^ i % 256 : Nat) : Int)] := by simp [wordAt, List.range_succ]
theorem wordAt_byt (q i : Nat) : Byt (wordAt q i) := by
  intro x hx
  obtain ⟨j, _, rfl⟩ := List.mem_map.1 hx
  have := Nat.mod_lt (q / 256 ^ j) (show 0 < 256 by decide)
  omega
theorem put_none (v : Value) (w : World) : Calls Try.prog 10 #[.pointer none, v] w fun r w' => r = .returned (.slice none 0 0) ∧ w' = w := by
  go_enter Try.func10, Try.ntmps10
  go_wp2
  go_ret
  exact ⟨rfl, rfl⟩
theorem make_room (t : Nat) (ht : t ≤ 1000000) (w : World) : (Instr.makeSlice 22 (.int .i64 0) (.int .i64 (t : Int))).run Try.prog w = .ok (.slice (some ⟨w.heap.size, 0, none⟩) 0 t) (w.alloc (.cells (madeCells (Value.int .u8 0).cells (t * 1)) 5)) := by
  obtain ⟨i0, hi0, hz0, hz1, hz2⟩ := info_parts u8_info
  have h := run_make (P := Try.prog) w 22 5 i0 _ Try.underlying22 hi0 hz0 .i64 .i64 0 (t : Int) (by omega) (by omega) (by rw [hz2]; omega) (by omega)
  rw [hz1, Int.toNat_natCast] at h
  exact h
theorem room_own (w : World) (t base : Nat) (ht : t ≤ 1000000) (hb : base ≤ w.heap.size) : (w.alloc (.cells (madeCells (Value.int .u8 0).cells (t * 1)) 5)).ownsRow base 5 1 (.slice (some ⟨w.heap.size, 0, none⟩) 0 t) 0 (bv []) :=
  ⟨rfl, .inr ⟨_, _, _, rfl, hb, heap_alloc_new w _, Nat.zero_le _, by simp only [maxLen]; omega, by simp [madeCells], rfl⟩⟩
theorem put (g k c : Nat) (A : Option Addr) (xs : List Int) (w : World) (hg : Blk w g 37 (tabAt 256)) (hl : Lies w A xs) (hb : Byt xs) (hk : xs.length = k) (hn : k ≤ 100000) (hc : A = none → c = 0) :
    Calls Try.prog 10 #[.pointer (some ⟨g, 0, none⟩), .slice A k c] w (Own w.heap.size (k + 4) (xs ++ wordAt (sumOf (nat xs)) 4) w) := by
  obtain ⟨q, hq⟩ : ∃ q, sumOf (nat xs) = q := ⟨_, rfl⟩
  have hql : q < 4294967296 := by rw [← hq]; exact sum_lt _
  rw [hq]
  have HS := Lib.hid (sum_one g k c q A xs w hg hl hb hk (by omega) hq)
  have HG := Lib.hid hg
  have HL := Lib.hid hl
  have HX := Lib.hid hk
  have HC := Lib.hid hc
  have hmk : ∀ w, (Instr.makeSlice 22 (.int .i64 0) (.int .i64 ((k : Int) + 4))).run Try.prog w = .ok (.slice (some ⟨w.heap.size, 0, none⟩) 0 (k + 4)) (w.alloc (.cells (madeCells (Value.int .u8 0).cells ((k + 4) * 1)) 5)) := by
    intro w
    have h := make_room (k + 4) (by omega) w
    rw [show ((k + 4 : Nat) : Int) = (k : Int) + 4 by omega] at h
    exact h
  clear hg hl hb hk hq hc
  go_enter Try.func10, Try.ntmps10
  go_wp2_with fail
  refine HS.out.mono ?_
  rintro e w1 ⟨rfl, hw1⟩
  have HK1 : Hid (Keeps (fun _ => False) w w1) := by rw [hw1]; exact (Keeps.refl _ _).alloc _
  clear hw1 HS
  go_upto_region 5 with fail
  have hk2 := HK1.out.alloc (.cells (madeCells (Value.int .u8 0).cells ((k + 4) * 1)) 5)
  have ho2 := room_own w1 (k + 4) w.heap.size (by omega) HK1.out.size
  simp only [Nat.mul_one, Value.cells] at hk2 ho2
  have hb2 : w.heap.size ≤ w1.heap.size := HK1.out.size
  generalize w1.alloc (.cells (madeCells #[Value.int .u8 0] (k + 4)) 5) = w2 at *
  generalize hv2 : Value.slice (some ⟨w1.heap.size, 0, none⟩) 0 (k + 4) = v2 at *
  have hob : ∀ j, v2.ownBlock = some j → w.heap.size ≤ j := by
    intro j hj
    rw [← hv2] at hj
    simp [Value.ownBlock] at hj
    omega
  generalize hvb : Value.slice A k c = vb at *
  have HVB := Lib.hid hvb
  have HK2 := Lib.hid hk2
  have HO2 := Lib.hid ho2
  have HOB := Lib.hid hob
  clear hvb hk2 ho2 hv2 hob hb2
  go_wp2_with (
    at_builtin
    refine wpList_app rfl (.tmp 18) (.tmp 19) rfl w.heap.size v2 0 [] rfl HO2.out A k c xs HVB.out.symm
      (HL.out.keeps HK2.out (fun _ _ _ => id)) HX.out HC.out (by omega) HK2.out.size ?_
    intro v1 w3 hown1 hg1
    have hk3 := HK2.out.grown hg1 (fun j hj => .inr (HOB.out j hj))
    rw [List.nil_append, Nat.zero_add] at hown1
    obtain ⟨A3, c3, hv3, _⟩ := own_form hown1
    rw [hv3] at hown1 ⊢
    have HV3 := Lib.hid hown1
    have HK3 := Lib.hid hk3
    clear hown1 hg1 hk3 hv3)
  clear HVB HK2 HO2 HOB HL HC HG HK1 hmk
  obtain ⟨i0, hi0, hz0, hz1, hz2⟩ := info_parts u8_info
  go_loopw [6, 21] (fun all i wr => ∃ (d : Nat) (A2 : Option Addr) (c2 : Nat), d ≤ 4 ∧ all = .slice A2 (k + d) c2 ∧ i = .int .i64 (d : Int) ∧ wr.ownsRow w.heap.size 5 1 (.slice A2 (k + d) c2) (k + d) (bv (xs ++ wordAt q d)) ∧ Keeps (fun _ => False) w wr) (fun _ i _ => 4 - (intOf i).toNat)
  case atStart => exact ⟨0, A3, c3, by omega, rfl, rfl, by simpa [wordAt] using HV3.out, HK3.out⟩
  case round =>
    obtain ⟨d, A2, c2, hd, rfl, rfl, hv, hk⟩ := hrel
    have HV := Lib.hid hv
    have HK := Lib.hid hk
    clear hv hk
    by_cases hlt : d < 4
    · have HB := fun w => Ct.byteOf q d w hql hlt
      have HW := Lib.hid (wordAt_succ q d)
      obtain ⟨y, hy⟩ : ∃ y, y = q / 256 ^ d % 256 := ⟨_, rfl⟩
      rw [← hy] at HB HW
      have HB2 := Lib.hid HB
      clear HB hy
      go_wp2_with fail
      refine (HB2.out _).mono ?_
      rintro e w4 ⟨rfl, rfl⟩
      have hal := HK.out.alloc (.cells #[Value.int .u8 (y : Int)] 5)
      have HVA := Lib.hid (own_keeps HV.out ((Keeps.refl (fun _ => False) _).alloc (.cells #[Value.int .u8 (y : Int)] 5)) (fun _ _ => id))
      have HKA := Lib.hid hal
      have HNW := Lib.hid (cell_one_new w4 (.int .u8 (y : Int)) 5)
      clear hal
      go_wp2_with (
        at_builtin
        refine wpList_append_own_at _ rfl (.tmp 24) (.tmp 28) _ rfl w.heap.size 5 i0 _ 1 1 Try.underlying22 hi0 hz0 hz1 hz2 rfl (by omega) (.slice A2 (k + d) c2) (k + d) (bv (xs ++ wordAt q d)) rfl
          HVA.out ⟨w4.heap.size, 0, none⟩ 1 1 [.int .u8 (y : Int)] rfl rfl HNW.out (by simp [Value.oneCell']) (by simp only [maxLen]; omega) (by omega) HKA.out.size ?_
        intro v1 w5 hown1 hg1 hnil1 hat1
        have HK5 := Lib.hid (HKA.out.grown hg1 (fun j hj => .inr (HVA.out.lt j hj).1))
        have HV5 := Lib.hid hown1
        obtain ⟨A3, c3, rfl, _⟩ := own_form hown1
        clear hown1 hg1 hnil1 hat1)
      refine ⟨⟨d + 1, A3, c3, by omega, rfl, by go_num, ?_, HK5.out⟩, by simp [intOf]; omega⟩
      have h5 := HV5.out
      rw [HW.out, ← List.append_assoc, bv_append]
      exact h5
    · obtain rfl : d = 4 := by omega
      go_wp2
      go_ret
      exact ⟨A2, c2, rfl, HV.out, HK.out⟩
end Go.Proofs.Ytbehchibgkgpbaa.Cu

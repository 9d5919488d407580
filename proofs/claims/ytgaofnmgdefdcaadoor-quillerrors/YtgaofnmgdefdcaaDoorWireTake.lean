/- What wire's Reader takes as many bytes at once: take, Bytes, Until; bytes.IndexByte. -/
import Derived.Test.YtgaofnmgdefdcaaDoorJItfNumWireRd
import Derived.Deep.RegionHeld3
import Derived.Shelf.Bytes.SlIndexAt
namespace Go.Proofs.YtgaofnmgdefdcaaDoor.Wr
open Go.RowKit Go.Proofs.YtgaofnmgdefdcaaDoor.Gen

theorem size_u8 (w : World) : (sizeOf 5).run Tryd.prog w = .ok 1 w := by
  obtain ⟨i0, hi0, hz0, hz1, hz2⟩ := info_parts u8_info
  simp [sizeOf, typeInfo, hi0, hz1]

def RS.many (s : RS) (n : Int) : List Int × RS :=
  if s.e = 0 then (if 0 ≤ n ∧ n ≤ (s.xs.length : Int) - s.k then ((s.xs.drop s.k).take n.toNat, { s with k := s.k + n.toNat }) else ([], { s with e := 3 })) else ([], s)

set_option maxRecDepth 100000 in
/-- bytes.IndexByte, as the model's entry has it. -/
theorem index (A : Option Addr) (n c : Nat) (xs : List Int) (cv : Int) (w : World) (hx : xs.length = n) (hl : Lies w A xs) :
    Calls Tryd.prog 42 #[.slice A n c, .int .u8 cv] w fun r w' => r = .returned (.int .i64 (Lib.indexByte (Lib.bytesOf xs) cv.toNat.toUInt8)) ∧ w = w' := by
  have hrun : (Extern.BytealgIndexByte.indexByte #[.slice A n c, .int .u8 cv]).run Tryd.prog w = .ok (.int .i64 (Lib.indexByte (Lib.bytesOf xs) cv.toNat.toUInt8)) w := by
    rcases A with _ | ad
    · have hx0 : xs = [] := by
        rcases hl with h | ⟨b, o, h, _⟩
        · exact h
        · cases h
      subst hx0
      exact Lib.run_indexByteNil w n c cv
    · exact Lib.run_indexByteAt w ad n c xs hx (fun i hi => hl.news i _ (bv_at (by omega))) cv
  have HR := Lib.hid hrun
  clear hrun hl hx
  go_enter Tryd.func42, Tryd.ntmps42
  go_wp2
  rw [run_callFunc_extern Tryd.func58 (by kernel_rfl) (by kernel_rfl) (by kernel_rfl) (e := Extern.BytealgIndexByte.indexByte) (by kernel_rfl), HR.out]
  simp only [Result.andThen]
  rw [Oper.upon_value]
  go_wp2
  go_ret
  exact ⟨rfl, rfl⟩

theorem index_eq (c : Int) (hc : 0 ≤ c ∧ c < 256) : ∀ xs : List Int, (∀ x ∈ xs, 0 ≤ x ∧ x < 256) →
    Lib.indexByte (Lib.bytesOf xs) c.toNat.toUInt8 = if xs.findIdx (· == c) < xs.length then (xs.findIdx (· == c) : Int) else -1
  | [], _ => rfl
  | x :: l, h => by
    have ih := index_eq c hc l (fun y hy => h y (List.mem_cons_of_mem _ hy))
    have hx := h x List.mem_cons_self
    have ht : (UInt8.ofNat x.toNat == c.toNat.toUInt8) = (x == c) := by
      rw [Bool.eq_iff_iff]
      simp only [beq_iff_eq]
      constructor
      · intro he
        have := congrArg UInt8.toNat he
        simp [Nat.toUInt8] at this
        omega
      · rintro rfl
        rfl
    simp only [Lib.bytesOf, List.map_cons, Lib.indexByte, ht, List.findIdx_cons, List.length_cons] at ih ⊢
    rw [ih]
    by_cases he : (x == c) = true
    · simp [he]
    · simp only [he]
      by_cases hf : l.findIdx (· == c) < l.length
      · simp [hf]
      · simp [hf]

def RS.upto (s : RS) (c : Int) : List Int × RS :=
  if s.e = 0 then (if (s.xs.drop s.k).findIdx (· == c) < (s.xs.drop s.k).length then ((s.xs.drop s.k).take ((s.xs.drop s.k).findIdx (· == c)), { s with k := s.k + (s.xs.drop s.k).findIdx (· == c) + 1 }) else ([], { s with e := 3 })) else ([], s)


end Go.Proofs.YtgaofnmgdefdcaaDoor.Wr

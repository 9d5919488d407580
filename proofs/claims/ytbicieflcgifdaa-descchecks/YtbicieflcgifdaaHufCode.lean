/- Words as keys of a map, and as its elements; a code in memory: words of numbers, numbers of words. -/
import Derived.Test.YtbicieflcgifdaaHufChk
import Derived.DeepKeys4
namespace Go.Proofs.Ytbicieflcgifdaa.Hk
open Go.RowKit Go.Shelf Go.Sort Go.Proofs.Ytbicieflcgifdaa.Gen Go.Proofs.Ytbicieflcgifdaa.Mp Go.Proofs.Ytbicieflcgifdaa.Hr Go.Proofs.Ytbicieflcgifdaa.Hp Go.Proofs.Ytbicieflcgifdaa.Hg Go.Proofs.Ytbicieflcgifdaa.So Go.Proofs.Ytbicieflcgifdaa.Hs Go.Proofs.Ytbicieflcgifdaa.Hf Go.Proofs.Ytbicieflcgifdaa.Hz Go.Proofs.Ytbicieflcgifdaa.St Go.Proofs.Ytbicieflcgifdaa.Ln Go.Proofs.Ytbicieflcgifdaa.Hw Go.Proofs.Ytbicieflcgifdaa.Ss Go.Proofs.Ytbicieflcgifdaa.Hn

/-- A word of so many bits, in memory; as a key. -/
def wv (b z : Nat) : Value := .agg #[.int .u32 (b : Int), .int .i64 (z : Int)]
def wk (b z : Nat) : Lit := .string (keyBytes [.int .u32 (b : Int), .int .i64 (z : Int)])
theorem laidOut : laidOutB Try.prog = true := by kernel_rfl
theorem word_keyed : Go.Maps.Keyed Try.prog 114 := Go.Maps.Keyed.of_law (deep_law_laid laidOut (m := 2) (by omega) (of_decide_eq_true (by kernel_rfl)) (by kernel_rfl) (by rw [Try.underlying114]))
theorem word_key {b z : Nat} (hb : b < 4294967296) (hz : z < 9223372036854775808) : keyOf Try.prog 114 (wv b z) = some (wk b z) := by
  have h1 : (Lit.int .u32 (b : Int)).wf = true := by
    have hm : IntKind.u32.min = 0 ∧ IntKind.u32.max = 4294967295 := by decide
    simp [Lit.wf, hm.1, hm.2]
    omega
  have h2 : (Lit.int .i64 (z : Int)).wf = true := by
    have hm : IntKind.i64.min = -9223372036854775808 ∧ IntKind.i64.max = 9223372036854775807 := by decide
    simp [Lit.wf, hm.1, hm.2]
    omega
  have hk : Try.prog.keyType 114 = true := by kernel_rfl
  have hc : Try.prog.cellsOf 114 = 2 := by kernel_rfl
  have hc1 : Try.prog.cellsOf 56 = 1 := by kernel_rfl
  have hc2 : Try.prog.cellsOf 3 = 1 := by kernel_rfl
  have hn : ∃ k, Try.prog.types.size + 1 = k + 2 := ⟨Try.prog.types.size - 1, by have : (1 : Nat) ≤ Try.prog.types.size := of_decide_eq_true (by kernel_rfl); omega⟩
  obtain ⟨k, hn⟩ := hn
  unfold keyOf
  rw [hn]
  simp [Try.underlying114, Try.underlying56, Try.underlying3, hk, hc, hc1, hc2, wv, wk, Value.formed, Program.keyLits, Value.cells, h1, h2]
theorem wk_inj {b z b' z' : Nat} (hb : b < 4294967296) (hz : z < 9223372036854775808) (hb' : b' < 4294967296) (hz' : z' < 9223372036854775808) (h : wk b z = wk b' z') : b = b' ∧ z = z' := by
  have h1 := word_keyed.inj (word_key hb hz) (by rw [h]; exact word_key hb' hz')
  unfold wv at h1
  injection h1 with h1
  simp at h1
  omega
end Go.Proofs.Ytbicieflcgifdaa.Hk

/- Words as keys of a map, and as its elements; a code in memory: words of numbers, numbers of words. -/
import Derived.Test.YtaamnbminmcbpaaHufChk
import Derived.DeepKeys4
namespace Go.Proofs.Ytaamnbminmcbpaa.Hk
open Go.RowKit Go.Shelf Go.Sort Go.Proofs.Ytaamnbminmcbpaa.Gen Go.Proofs.Ytaamnbminmcbpaa.Mp Go.Proofs.Ytaamnbminmcbpaa.Hr Go.Proofs.Ytaamnbminmcbpaa.Hp Go.Proofs.Ytaamnbminmcbpaa.Hg Go.Proofs.Ytaamnbminmcbpaa.So Go.Proofs.Ytaamnbminmcbpaa.Hs Go.Proofs.Ytaamnbminmcbpaa.Hf Go.Proofs.Ytaamnbminmcbpaa.Hz Go.Proofs.Ytaamnbminmcbpaa.St Go.Proofs.Ytaamnbminmcbpaa.Ln Go.Proofs.Ytaamnbminmcbpaa.Hw Go.Proofs.Ytaamnbminmcbpaa.Ss Go.Proofs.Ytaamnbminmcbpaa.Hn

/-- A word of so many bits, in memory; as a key. -/
def wv (b z : Nat) : Value := .agg #[.int .u32 (b : Int), .int .i64 (z : Int)]
def wk (b z : Nat) : Lit := .string (keyBytes [.int .u32 (b : Int), .int .i64 (z : Int)])
theorem laidOut : laidOutB Try.prog = true := by kernel_rfl
theorem word_keyed : Go.Maps.Keyed Try.prog 77 := Go.Maps.Keyed.of_law (deep_law_laid laidOut (m := 2) (by omega) (of_decide_eq_true (by kernel_rfl)) (by kernel_rfl) (by rw [Try.underlying77]))
theorem word_key {b z : Nat} (hb : b < 4294967296) (hz : z < 9223372036854775808) : keyOf Try.prog 77 (wv b z) = some (wk b z) := by
  have h1 : (Lit.int .u32 (b : Int)).wf = true := by
    have hm : IntKind.u32.min = 0 ∧ IntKind.u32.max = 4294967295 := by decide
    simp [Lit.wf, hm.1, hm.2]
    omega
  have h2 : (Lit.int .i64 (z : Int)).wf = true := by
    have hm : IntKind.i64.min = -9223372036854775808 ∧ IntKind.i64.max = 9223372036854775807 := by decide
    simp [Lit.wf, hm.1, hm.2]
    omega
  have hk : Try.prog.keyType 77 = true := by kernel_rfl
  have hc : Try.prog.cellsOf 77 = 2 := by kernel_rfl
  have hc1 : Try.prog.cellsOf 75 = 1 := by kernel_rfl
  have hc2 : Try.prog.cellsOf 3 = 1 := by kernel_rfl
  have hn : ∃ k, Try.prog.types.size + 1 = k + 2 := ⟨Try.prog.types.size - 1, by have : (1 : Nat) ≤ Try.prog.types.size := of_decide_eq_true (by kernel_rfl); omega⟩
  obtain ⟨k, hn⟩ := hn
  unfold keyOf
  rw [hn]
  simp [Try.underlying77, Try.underlying75, Try.underlying3, hk, hc, hc1, hc2, wv, wk, Value.formed, Program.keyLits, Value.cells, h1, h2]
theorem wk_inj {b z b' z' : Nat} (hb : b < 4294967296) (hz : z < 9223372036854775808) (hb' : b' < 4294967296) (hz' : z' < 9223372036854775808) (h : wk b z = wk b' z') : b = b' ∧ z = z' := by
  have h1 := word_keyed.inj (word_key hb hz) (by rw [h]; exact word_key hb' hz')
  unfold wv at h1
  injection h1 with h1
  simp at h1
  omega
end Go.Proofs.Ytaamnbminmcbpaa.Hk

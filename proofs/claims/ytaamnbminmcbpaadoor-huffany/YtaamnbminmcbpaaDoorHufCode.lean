/- Words as keys of a map, and as its elements; a code in memory: words of numbers, numbers of words. -/
import Derived.Test.YtaamnbminmcbpaaDoorHufChk
import Derived.DeepKeys4
namespace Go.Proofs.YtaamnbminmcbpaaDoor.Hk
open Go.RowKit Go.Shelf Go.Sort Go.Proofs.YtaamnbminmcbpaaDoor.Gen Go.Proofs.YtaamnbminmcbpaaDoor.Mp Go.Proofs.YtaamnbminmcbpaaDoor.Hr Go.Proofs.YtaamnbminmcbpaaDoor.Hp Go.Proofs.YtaamnbminmcbpaaDoor.Hg Go.Proofs.YtaamnbminmcbpaaDoor.So Go.Proofs.YtaamnbminmcbpaaDoor.Hs Go.Proofs.YtaamnbminmcbpaaDoor.Hf Go.Proofs.YtaamnbminmcbpaaDoor.Hz Go.Proofs.YtaamnbminmcbpaaDoor.St Go.Proofs.YtaamnbminmcbpaaDoor.Ln Go.Proofs.YtaamnbminmcbpaaDoor.Hw Go.Proofs.YtaamnbminmcbpaaDoor.Ss Go.Proofs.YtaamnbminmcbpaaDoor.Hn

/-- A word of so many bits, in memory; as a key. -/
def wv (b z : Nat) : Value := .agg #[.int .u32 (b : Int), .int .i64 (z : Int)]
def wk (b z : Nat) : Lit := .string (keyBytes [.int .u32 (b : Int), .int .i64 (z : Int)])
theorem laidOut : laidOutB Tryd.prog = true := by kernel_rfl
theorem word_keyed : Go.Maps.Keyed Tryd.prog 57 := Go.Maps.Keyed.of_law (deep_law_laid laidOut (m := 2) (by omega) (of_decide_eq_true (by kernel_rfl)) (by kernel_rfl) (by rw [Tryd.underlying57]))
theorem word_key {b z : Nat} (hb : b < 4294967296) (hz : z < 9223372036854775808) : keyOf Tryd.prog 57 (wv b z) = some (wk b z) := by
  have h1 : (Lit.int .u32 (b : Int)).wf = true := by
    have hm : IntKind.u32.min = 0 ∧ IntKind.u32.max = 4294967295 := by decide
    simp [Lit.wf, hm.1, hm.2]
    omega
  have h2 : (Lit.int .i64 (z : Int)).wf = true := by
    have hm : IntKind.i64.min = -9223372036854775808 ∧ IntKind.i64.max = 9223372036854775807 := by decide
    simp [Lit.wf, hm.1, hm.2]
    omega
  have hk : Tryd.prog.keyType 57 = true := by kernel_rfl
  have hc : Tryd.prog.cellsOf 57 = 2 := by kernel_rfl
  have hc1 : Tryd.prog.cellsOf 55 = 1 := by kernel_rfl
  have hc2 : Tryd.prog.cellsOf 3 = 1 := by kernel_rfl
  have hn : ∃ k, Tryd.prog.types.size + 1 = k + 2 := ⟨Tryd.prog.types.size - 1, by have : (1 : Nat) ≤ Tryd.prog.types.size := of_decide_eq_true (by kernel_rfl); omega⟩
  obtain ⟨k, hn⟩ := hn
  unfold keyOf
  rw [hn]
  simp [Tryd.underlying57, Tryd.underlying55, Tryd.underlying3, hk, hc, hc1, hc2, wv, wk, Value.formed, Program.keyLits, Value.cells, h1, h2]
theorem wk_inj {b z b' z' : Nat} (hb : b < 4294967296) (hz : z < 9223372036854775808) (hb' : b' < 4294967296) (hz' : z' < 9223372036854775808) (h : wk b z = wk b' z') : b = b' ∧ z = z' := by
  have h1 := word_keyed.inj (word_key hb hz) (by rw [h]; exact word_key hb' hz')
  unfold wv at h1
  injection h1 with h1
  simp at h1
  omega
end Go.Proofs.YtaamnbminmcbpaaDoor.Hk

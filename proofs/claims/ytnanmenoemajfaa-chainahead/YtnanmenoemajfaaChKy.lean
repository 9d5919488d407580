/- Bytes, and pairs of bytes, as keys of a map; counts of pairs; a quarter out of four. -/
import Derived.Test.YtnanmenoemajfaaChMp
import Derived.Test.YtnanmenoemajfaaChQ
namespace Go.Proofs.Ytnanmenoemajfaa.Ck
open Go.RowKit Go.Proofs.Ytnanmenoemajfaa.Gen Go.Proofs.Ytnanmenoemajfaa.Wr Go.Proofs.Ytnanmenoemajfaa.It Go.Proofs.Ytnanmenoemajfaa.Ch Go.Proofs.Ytnanmenoemajfaa.Cm Go.Proofs.Ytnanmenoemajfaa.Cq

/-- A byte as a key. -/
def bkv (i : Nat) : Value := .int .u8 (i : Int)
def bkl (i : Nat) : Lit := .int .u8 (i : Int)
theorem wf_u8 {x : Nat} (h : x < 256) : (Lit.int .u8 (x : Int)).wf = true := by
  have hm : IntKind.u8.min = 0 ∧ IntKind.u8.max = 255 := by decide
  simp [Lit.wf, hm.1, hm.2]
  omega
theorem byte_ks : Ks Try.prog 5 256 bkv bkl where
  keyed := Go.Maps.int_keyed Try.underlying5
  ok i hi := Go.Maps.keyOf_int_mk Try.underlying5 (wf_u8 hi)
  inj i j _ _ h := by unfold bkv at h; injection h with _ h; omega
/-- A pair of bytes as a key. -/
def pkv (i : Nat) : Value := .agg #[.int .u8 ((i / 256 : Nat) : Int), .int .u8 ((i % 256 : Nat) : Int)]
def pkl (i : Nat) : Lit := .string (keyBytes [.int .u8 ((i / 256 : Nat) : Int), .int .u8 ((i % 256 : Nat) : Int)])
theorem pkv_at {x y : Nat} (hy : y < 256) : pkv (256 * x + y) = .agg #[.int .u8 (x : Int), .int .u8 (y : Int)] := by
  unfold pkv
  rw [show (256 * x + y) / 256 = x by omega, show (256 * x + y) % 256 = y by omega]
theorem laidOut : laidOutB Try.prog = true := by kernel_rfl
theorem pair_law : Go.WideMaps.KeyLaw Try.prog 75 := deep_law_laid laidOut (m := 2) (by omega) (of_decide_eq_true (by kernel_rfl)) (by kernel_rfl) (by rw [Try.underlying75])
theorem pair_key {x y : Nat} (hx : x < 256) (hy : y < 256) : keyOf Try.prog 75 (.agg #[.int .u8 (x : Int), .int .u8 (y : Int)]) = some (.string (keyBytes [.int .u8 (x : Int), .int .u8 (y : Int)])) := by
  have h1 := wf_u8 hx
  have h2 := wf_u8 hy
  have hk : Try.prog.keyType 75 = true := by kernel_rfl
  have hc : Try.prog.cellsOf 75 = 2 := by kernel_rfl
  have hc1 : Try.prog.cellsOf 5 = 1 := by kernel_rfl
  have hn : ∃ k, Try.prog.types.size + 1 = k + 2 := ⟨Try.prog.types.size - 1, by have : (1 : Nat) ≤ Try.prog.types.size := of_decide_eq_true (by kernel_rfl); omega⟩
  obtain ⟨k, hn⟩ := hn
  unfold keyOf
  rw [hn]
  simp [Try.underlying75, Try.underlying5, hk, hc, hc1, Value.formed, Program.keyLits, Value.cells, h1, h2, show List.range 2 = [0, 1] from rfl]
theorem pair_ks : Ks Try.prog 75 65536 pkv pkl where
  keyed := Go.Maps.Keyed.of_law pair_law
  ok i hi := pair_key (by omega) (by omega)
  inj i j _ _ h := by
    unfold pkv at h
    injection h with h
    simp at h
    omega
theorem zero_int (w : World) : (zeroValue 3).run Try.prog w = .ok (.int .i64 0) w := by kernel_rfl
/-- How often a pair comes. -/
def cntV (L : List Nat) (i : Nat) : Option Value := if L.count i = 0 then none else some (.int .i64 ((L.count i : Nat) : Int))
theorem cntV_nil : cntV [] = fun _ => none := by
  funext i
  simp [cntV]
theorem cntV_put (L : List Nat) (i : Nat) : putF (cntV L) i (.int .i64 (((L.count i : Nat) : Int) + 1)) = cntV (L ++ [i]) := by
  funext j
  unfold putF cntV
  rw [List.count_append]
  by_cases h : j = i
  · subst h
    rw [if_pos rfl]
    simp
  · rw [if_neg h]
    have : List.count j [i] = 0 := by rw [List.count_eq_zero]; simpa using h
    rw [this, Nat.add_zero]
/-- What a look-up answers. -/
theorem cnt_look {w : World} {b : Nat} {L : List Nat} {t : TypeId} (h : IsF Try.prog 75 65536 pkl w b (cntV L)) (ht : Try.prog.underlying t = some (.map 75 3)) {i : Nat} (hi : i < 65536) :
    (Instr.lookup t (.map (some b)) (pkv i) false).run Try.prog w = .ok (.int .i64 ((L.count i : Nat) : Int)) w := by
  obtain ⟨l1, l2⟩ := h.look pair_ks ht (zero_int w) hi
  by_cases h0 : L.count i = 0
  · rw [h0]
    exact (l2 (by rw [cntV, if_pos h0])).1
  · exact (l1 _ (by rw [cntV, if_neg h0])).1
theorem run_idxq (cs : Array Value) (k : IntKind) (j : Nat) (v : Value) (hj : j < 4) (hv : cs[j]? = some v) (w : World) :
    (Instr.index 79 (.agg cs) (.int k (j : Int))).run Try.prog w = .ok v w := by
  have ht : Try.prog.underlying 79 = some (.array 4 22) := Try.underlying79
  have h1 : (0 : Int) ≤ (j : Int) ∧ (j : Int) < ((4 : Nat) : Int) := ⟨by omega, by omega⟩
  have hag : (isAgg 22).run Try.prog w = .ok false w := by simp [isAgg, Try.underlying22, go_sem]
  have hsz : (sizeOf 22).run Try.prog w = .ok 1 w := by simp [go_sem]
  simp [Instr.index, asIntOf, run_underlying ht, h1.1, part, hag, hsz, hv, Result.andThen]
  intro h; omega
end Go.Proofs.Ytnanmenoemajfaa.Ck

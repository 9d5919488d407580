/- How often each byte comes: freq.Of; the answers' own Counts, in different amounts. -/
import Derived.Test.YtnanmenoemajfaaFrqSc
namespace Go.Proofs.Ytnanmenoemajfaa.Fq
open Go.RowKit Go.Proofs.Ytnanmenoemajfaa.Gen
set_option maxRecDepth 100000

/-- The counts of the first d bytes, of which the i-th counts am i. -/
def cnt (xs : List Int) (am : Nat → Int) : Nat → List Int
  | 0 => zs
  | d + 1 => (cnt xs am d).set (xs.getD d 0).toNat ((cnt xs am d).getD (xs.getD d 0).toNat 0 + am d)
theorem cnt_len (xs : List Int) (am : Nat → Int) : ∀ d, (cnt xs am d).length = 256
  | 0 => zs_len
  | d + 1 => by rw [cnt, List.length_set]; exact cnt_len xs am d
theorem cnt_in (xs : List Int) (am : Nat → Int) (ha : ∀ i, 0 ≤ am i ∧ am i ≤ 1048560) : ∀ d, ∀ x ∈ cnt xs am d, 0 ≤ x ∧ x ≤ 1048560 * (d : Int)
  | 0, x, hx => by
    rw [cnt, zs] at hx
    have := List.eq_of_mem_replicate hx
    omega
  | d + 1, x, hx => by
    have ih := cnt_in xs am ha d
    have h2 := ha d
    rcases mem_set hx with hx | rfl
    · have := ih x hx; omega
    · by_cases hl : (xs.getD d 0).toNat < (cnt xs am d).length
      · have := ih _ (getD_mem hl); omega
      · rw [List.getD, List.getElem?_eq_none (by omega)]
        simp only [Option.getD_none]
        omega
theorem cnt_at (xs : List Int) (am : Nat → Int) (ha : ∀ i, 0 ≤ am i ∧ am i ≤ 1048560) (d j : Nat) : 0 ≤ (cnt xs am d).getD j 0 ∧ (cnt xs am d).getD j 0 ≤ 1048560 * (d : Int) := by
  by_cases hl : j < (cnt xs am d).length
  · exact cnt_in xs am ha d _ (getD_mem hl)
  · rw [List.getD, List.getElem?_eq_none (by omega)]
    simp only [Option.getD_none]
    omega
theorem cnt_inR (xs : List Int) (am : Nat → Int) (ha : ∀ i, 0 ≤ am i ∧ am i ≤ 1048560) (d : Nat) (hd : d ≤ 300) : InR (cnt xs am d) := fun x hx => by
  have := cnt_in xs am ha d x hx
  omega
/-- One more byte is counted. -/
theorem cnt_step {xs : List Int} {am : Nat → Int} {d j : Nat} {y : Int} {w : World} {g : Nat} (hj : (xs.getD d 0).toNat = j) (hy : (cnt xs am d).getD j 0 + am d = y) (hb : Blk w g 64 (vs (cnt xs am d))) : Blk (w.setCell ⟨g, j, none⟩ (.int .i64 y)) g 64 (vs (cnt xs am (d + 1))) := by
  have := hb.setCell j (.int .i64 y)
  rw [vs_set, ← hy, ← hj] at this
  rw [← hy, ← hj]
  exact this

/-- A row of numbers of 16 bits that came in, or none. -/
def More (w : World) (A : Option Addr) (m : Nat) (ms : List Int) : Prop :=
  ∀ i, i < m → ∃ b o, A = some ⟨b, o, none⟩ ∧ b < w.heap.size ∧ w.cell? ⟨b, o + i, none⟩ = some (.int .u16 (ms.getD i 0)) ∧ 0 ≤ ms.getD i 0 ∧ ms.getD i 0 < 65536
theorem More.keeps {w w1 : World} {A : Option Addr} {m : Nat} {ms : List Int} (h : More w A m ms) (k : Keeps (fun _ => False) w w1) : More w1 A m ms := fun i hi => by
  obtain ⟨b, o, h1, h2, h3, h4⟩ := h i hi
  exact ⟨b, o, h1, Nat.lt_of_lt_of_le h2 k.size, (k.cell (p := ⟨b, o + i, none⟩) h2 id).trans h3, h4⟩
theorem More.none_ (w : World) : More w none 0 [] := fun i hi => by omega
theorem row_more {w : World} {a : Option Addr} {len cap : Nat} {zs : List Int}
    (h : (a = none ∧ len = 0 ∧ cap = 0 ∧ zs = []) ∨ ∃ x, a = some x ∧ len ≤ cap ∧ cap ≤ maxLen ∧ zs.length = cap ∧ (∀ i, i < zs.length → w.cell? (x.add i) = some (.int .u16 (zs.getD i 0))) ∧ ∀ n ∈ zs, (Lit.int .u16 n).wf = true) : More w a len zs := by
  intro i hi
  obtain ⟨b, o, x, h1, h2, h3, h4, h5⟩ := (row_at h).2 i hi
  have hx : zs.getD i 0 = x := by rw [List.getD, h4]; rfl
  have hm : IntKind.u16.min = 0 ∧ IntKind.u16.max = 65535 := by decide
  simp only [Lit.wf, hm.1, hm.2, Bool.and_eq_true, decide_eq_true_eq] at h5
  exact ⟨b, o, h1, h2, by rw [hx]; exact h3, by omega, by omega⟩
/-- How much the i-th byte counts. -/
def am (ms : List Int) (m i : Nat) : Int := if i < m then ms.getD i 0 * 16 else 1
theorem am_in {w : World} {A : Option Addr} {m : Nat} {ms : List Int} (h : More w A m ms) (i : Nat) : 0 ≤ am ms m i ∧ am ms m i ≤ 1048560 := by
  unfold am
  split
  · next hi => obtain ⟨_, _, _, _, _, h4, h5⟩ := h i hi; omega
  · omega
theorem am_none : am [] 0 = fun _ => 1 := by funext i; simp [am]
end Go.Proofs.Ytnanmenoemajfaa.Fq

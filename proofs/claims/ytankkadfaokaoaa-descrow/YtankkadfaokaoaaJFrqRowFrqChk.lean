/- Rows of numbers, whole: what lies in an array of 256; which of them is the greatest, the first of such. -/
/- Whether a table may be one. -/
import Derived.Test.YtankkadfaokaoaaProg
import Derived.Test.YtankkadfaokaoaaGen
import Derived.WalkKit
import Derived.WalkSpells
import Derived.WalkLawsBesides
import Derived.Lib.Hide
import Derived.Deep.WholeRow
import Derived.Deep.CutRange
import Derived.Deep.RegionHeld3
import Derived.Deep.MidRow

namespace Go.Proofs.Ytankkadfaokaoaa.Fq
open Go.RowKit Go.Proofs.Ytankkadfaokaoaa.Gen
set_option maxRecDepth 100000

/-- Numbers as cells. -/
def vs (l : List Int) : Array Value := (l.map (Value.int .i64)).toArray
theorem vs_size (l : List Int) : (vs l).size = l.length := by simp [vs]
theorem vs_get {l : List Int} {j : Nat} (h : j < l.length) : (vs l)[j]? = some (.int .i64 (l.getD j 0)) := by
  simp [vs, List.getElem?_eq_getElem h, List.getD]
theorem vs_set (l : List Int) (j : Nat) (x : Int) : (vs l).setIfInBounds j (.int .i64 x) = vs (l.set j x) := by
  simp [vs, List.map_set]
theorem vs_one (l : List Int) : (vs l).all (·.oneCell') = true := by
  simp [vs, Value.oneCell']
theorem vs_inj {a b : List Int} (h : vs a = vs b) : a = b := by
  have h1 : a.map (Value.int .i64) = b.map (Value.int .i64) := by
    have := congrArg Array.toList h
    simpa [vs] using this
  exact List.map_inj_right (fun x y hxy => by injection hxy) |>.1 h1
theorem vs_rep (n : Nat) : Array.replicate n (Value.int .i64 0) = vs (List.replicate n 0) := by
  simp [vs]
/-- A whole row is loaded; stored. -/
theorem ld_row {ops : Array Oper} {rest : List Oper} {dst : Option Tmp} {ty ty' e : TypeId} {n : Nat} {x : Operand} {pos : String} {after : Array Edge} {a : Act} {w : World} {Q : Exit → Act → World → Prop} {g : Nat} {t : TypeId} {cs : Array Value}
    (hb : Blk w g t cs) (hu : Try.prog.underlying ty = some (.array n e)) (hi : (Try.prog.info? ty).map (·.size) = some cs.size)
    (hx : a.eval x = .pointer (some ⟨g, 0, none⟩)) (h : wpList Try.prog ops Q rest (a.put dst (.agg cs)) w) :
    wpList Try.prog ops Q ({ dst := dst, op := .load ty x, type := ty', pos := pos, after := after, guard := none } :: rest) a w :=
  wpList_load_row rfl ty x rfl g hx t cs (0, 0) _ hb hu rfl hi h
theorem ld_row_g {ops : Array Oper} {rest : List Oper} {dst : Option Tmp} {ty ty' e : TypeId} {n : Nat} {x : Operand} {pos : String} {after : Array Edge} {gd : Option (Nat × Bool)} {a : Act} {w : World} {Q : Exit → Act → World → Prop} {g : Nat} {t : TypeId} {cs : Array Value}
    (hb : Blk w g t cs) (hu : Try.prog.underlying ty = some (.array n e)) (hi : (Try.prog.info? ty).map (·.size) = some cs.size)
    (hw : Region.wanted { dst := dst, op := .load ty x, type := ty', pos := pos, after := after, guard := gd } (yielded ops a.tmps) = true)
    (hx : a.eval x = .pointer (some ⟨g, 0, none⟩)) (h : wpList Try.prog ops Q rest (a.put dst (.agg cs)) w) :
    wpList Try.prog ops Q ({ dst := dst, op := .load ty x, type := ty', pos := pos, after := after, guard := gd } :: rest) a w :=
  wpList_step fun _ hK => by
    rw [if_pos hw]
    exact wp_load_row ty x rfl g hx t cs (0, 0) _ hb hu rfl hi (hK _ _ h)
theorem st_row {ops : Array Oper} {rest : List Oper} {dst : Option Tmp} {ty ty' : TypeId} {x y : Operand} {pos : String} {after : Array Edge} {a : Act} {w : World} {Q : Exit → Act → World → Prop} {g : Nat} {t : TypeId} {old cs : Array Value}
    (hb : Blk w g t old) (hi : (Try.prog.info? ty).map (·.size) = some cs.size) (ho : old.size = cs.size) (h1 : cs.all (·.oneCell') = true)
    (hx : a.eval x = .pointer (some ⟨g, 0, none⟩)) (hy : a.eval y = .agg cs) (h : wpList Try.prog ops Q rest (a.put dst undef) (w.setRow g cs)) :
    wpList Try.prog ops Q ({ dst := dst, op := .store ty x y, type := ty', pos := pos, after := after, guard := none } :: rest) a w :=
  wpList_store_row rfl ty x y rfl g cs hx hy t old hb hi ho h1 h

theorem run_idx (t : TypeId) (n : Nat) (ht : Try.prog.underlying t = some (.array n 3)) (cs : Array Value) (k : IntKind) (j : Nat) (v : Value) (hj : j < n) (hv : cs[j]? = some v) (w : World) :
    (Instr.index t (.agg cs) (.int k (j : Int))).run Try.prog w = .ok v w := by
  have h1 : (0 : Int) ≤ (j : Int) ∧ (j : Int) < (n : Int) := ⟨by omega, by omega⟩
  have hag : (isAgg 3).run Try.prog w = .ok false w := by simp [isAgg, Try.underlying3, go_sem]
  have hsz : (sizeOf 3).run Try.prog w = .ok 1 w := by simp [go_sem]
  simp [Instr.index, asIntOf, run_underlying ht, h1.1, h1.2, part, hag, hsz, hv, Result.andThen]
  intro h; omega

/-- The greatest of the first d, the first of such. -/
def gre (l : List Int) : Nat → Nat
  | 0 => 0
  | d + 1 => if l.getD (gre l d) 0 < l.getD d 0 then d else gre l d
theorem gre_lt (l : List Int) : ∀ {d : Nat}, 0 < d → gre l d < d
  | 0, h => by omega
  | d + 1, _ => by
    unfold gre
    split
    · omega
    · rcases Nat.eq_zero_or_pos d with rfl | hd
      · simp [gre]
      · have := gre_lt l hd
        omega
end Go.Proofs.Ytankkadfaokaoaa.Fq

namespace Go.Proofs.Ytankkadfaokaoaa.Fq
open Go.RowKit Go.Proofs.Ytankkadfaokaoaa.Gen

/-- No part out of range. -/
def Fine (l : List Int) : Prop := ∀ x ∈ l, 0 ≤ x ∧ x ≤ 4096
instance (l : List Int) : Decidable (Fine l) := List.decidableBAll _ l
def chk (l : List Int) : Int := if Fine l then (if l.sum = 4096 then 0 else 8) else 2
theorem take_next {l : List Int} {d : Nat} (h : d < l.length) : l.take (d + 1) = l.take d ++ [l.getD d 0] := by
  rw [List.take_add_one, List.getElem?_eq_getElem h, List.getD, List.getElem?_eq_getElem h]
  simp
theorem sum_snoc (l : List Int) (x : Int) : (l ++ [x]).sum = l.sum + x := by simp
theorem sum_next {l : List Int} {d : Nat} (h : d < l.length) : (l.take (d + 1)).sum = (l.take d).sum + l.getD d 0 := by rw [take_next h, sum_snoc]
theorem Fine.next {l : List Int} {d : Nat} (h : d < l.length) (hf : Fine (l.take d)) (hx : 0 ≤ l.getD d 0 ∧ l.getD d 0 ≤ 4096) : Fine (l.take (d + 1)) := by
  rw [take_next h]
  intro x hm
  rcases List.mem_append.1 hm with hm | hm
  · exact hf x hm
  · simp only [List.mem_singleton] at hm; rw [hm]; exact hx
theorem Fine.sum : ∀ {l : List Int}, Fine l → 0 ≤ l.sum ∧ l.sum ≤ 4096 * l.length
  | [], _ => by simp
  | a :: r, h => by
    have h1 := h a (by simp)
    have h2 := Fine.sum (l := r) fun x hx => h x (by simp [hx])
    simp only [List.sum_cons, List.length_cons]
    omega
theorem not_fine {l : List Int} {d : Nat} (h : d < l.length) (hx : ¬ (0 ≤ l.getD d 0 ∧ l.getD d 0 ≤ 4096)) : ¬ Fine l := by
  intro hf
  apply hx
  rw [List.getD, List.getElem?_eq_getElem h]
  exact hf _ (List.getElem_mem h)

end Go.Proofs.Ytankkadfaokaoaa.Fq

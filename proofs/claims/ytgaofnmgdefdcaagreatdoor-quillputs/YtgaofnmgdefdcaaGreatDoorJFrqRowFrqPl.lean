/- Rows of numbers, whole: what lies in an array of 256; which of them is the greatest, the first of such. -/
/- Whether a table may be one. -/
/- Counts as parts of 4096, as plain data: what is left over goes to the greatest count; what is too much is lost by the greatest part, again and again. -/
import Derived.Test.YtgaofnmgdefdcaaGreatDoorProg
import Derived.Test.YtgaofnmgdefdcaaGreatDoorJGenBitPlain
import Derived.WalkKit
import Derived.WalkSpells
import Derived.WalkLawsBesides
import Derived.Lib.Hide
import Derived.Deep.WholeRow
import Derived.Deep.CutRange
import Derived.Deep.RegionHeld3
import Derived.Deep.MidRow

namespace Go.Proofs.YtgaofnmgdefdcaaGreatDoor.Fq
open Go.RowKit Go.Proofs.YtgaofnmgdefdcaaGreatDoor.Gen
set_option maxRecDepth 100000

/-- Numbers as cells. -/
def vs (l : List Int) : Array Value := (l.map (Value.int .i64)).toArray
theorem vs_size (l : List Int) : (vs l).size = l.length := by simp [vs]
theorem vs_get {l : List Int} {j : Nat} (h : j < l.length) : (vs l)[j]? = some (.int .i64 (l.getD j 0)) := by
  simp [vs, List.getElem?_eq_getElem h, List.getD]
theorem vs_set (l : List Int) (j : Nat) (x : Int) : (vs l).setIfInBounds j (.int .i64 x) = vs (l.set j x) := by
  simp [vs, List.map_set]
theorem vs_one (l : List Int) : (vs l).all (·.oneCell') = true := by
  simp [vs, Value.oneCell']
theorem vs_inj {a b : List Int} (h : vs a = vs b) : a = b := by
  have h1 : a.map (Value.int .i64) = b.map (Value.int .i64) := by
    have := congrArg Array.toList h
    simpa [vs] using this
  exact List.map_inj_right (fun x y hxy => by injection hxy) |>.1 h1
theorem vs_rep (n : Nat) : Array.replicate n (Value.int .i64 0) = vs (List.replicate n 0) := by
  simp [vs]
/-- A whole row is loaded; stored. -/
theorem ld_row {ops : Array Oper} {rest : List Oper} {dst : Option Tmp} {ty ty' e : TypeId} {n : Nat} {x : Operand} {pos : String} {after : Array Edge} {a : Act} {w : World} {Q : Exit → Act → World → Prop} {g : Nat} {t : TypeId} {cs : Array Value}
    (hb : Blk w g t cs) (hu : Tryz.prog.underlying ty = some (.array n e)) (hi : (Tryz.prog.info? ty).map (·.size) = some cs.size)
    (hx : a.eval x = .pointer (some ⟨g, 0, none⟩)) (h : wpList Tryz.prog ops Q rest (a.put dst (.agg cs)) w) :
    wpList Tryz.prog ops Q ({ dst := dst, op := .load ty x, type := ty', pos := pos, after := after, guard := none } :: rest) a w :=
  wpList_load_row rfl ty x rfl g hx t cs (0, 0) _ hb hu rfl hi h
theorem ld_row_g {ops : Array Oper} {rest : List Oper} {dst : Option Tmp} {ty ty' e : TypeId} {n : Nat} {x : Operand} {pos : String} {after : Array Edge} {gd : Option (Nat × Bool)} {a : Act} {w : World} {Q : Exit → Act → World → Prop} {g : Nat} {t : TypeId} {cs : Array Value}
    (hb : Blk w g t cs) (hu : Tryz.prog.underlying ty = some (.array n e)) (hi : (Tryz.prog.info? ty).map (·.size) = some cs.size)
    (hw : Region.wanted { dst := dst, op := .load ty x, type := ty', pos := pos, after := after, guard := gd } (yielded ops a.tmps) = true)
    (hx : a.eval x = .pointer (some ⟨g, 0, none⟩)) (h : wpList Tryz.prog ops Q rest (a.put dst (.agg cs)) w) :
    wpList Tryz.prog ops Q ({ dst := dst, op := .load ty x, type := ty', pos := pos, after := after, guard := gd } :: rest) a w :=
  wpList_step fun _ hK => by
    rw [if_pos hw]
    exact wp_load_row ty x rfl g hx t cs (0, 0) _ hb hu rfl hi (hK _ _ h)
theorem st_row {ops : Array Oper} {rest : List Oper} {dst : Option Tmp} {ty ty' : TypeId} {x y : Operand} {pos : String} {after : Array Edge} {a : Act} {w : World} {Q : Exit → Act → World → Prop} {g : Nat} {t : TypeId} {old cs : Array Value}
    (hb : Blk w g t old) (hi : (Tryz.prog.info? ty).map (·.size) = some cs.size) (ho : old.size = cs.size) (h1 : cs.all (·.oneCell') = true)
    (hx : a.eval x = .pointer (some ⟨g, 0, none⟩)) (hy : a.eval y = .agg cs) (h : wpList Tryz.prog ops Q rest (a.put dst undef) (w.setRow g cs)) :
    wpList Tryz.prog ops Q ({ dst := dst, op := .store ty x y, type := ty', pos := pos, after := after, guard := none } :: rest) a w :=
  wpList_store_row rfl ty x y rfl g cs hx hy t old hb hi ho h1 h

theorem run_idx (t : TypeId) (n : Nat) (ht : Tryz.prog.underlying t = some (.array n 3)) (cs : Array Value) (k : IntKind) (j : Nat) (v : Value) (hj : j < n) (hv : cs[j]? = some v) (w : World) :
    (Instr.index t (.agg cs) (.int k (j : Int))).run Tryz.prog w = .ok v w := by
  have h1 : (0 : Int) ≤ (j : Int) ∧ (j : Int) < (n : Int) := ⟨by omega, by omega⟩
  have hag : (isAgg 3).run Tryz.prog w = .ok false w := by simp [isAgg, Tryz.underlying3, go_sem]
  have hsz : (sizeOf 3).run Tryz.prog w = .ok 1 w := by simp [go_sem]
  simp [Instr.index, asIntOf, run_underlying ht, h1.1, h1.2, part, hag, hsz, hv, Result.andThen]
  intro h; omega

/-- The greatest of the first d, the first of such. -/
def gre (l : List Int) : Nat → Nat
  | 0 => 0
  | d + 1 => if l.getD (gre l d) 0 < l.getD d 0 then d else gre l d
theorem gre_lt (l : List Int) : ∀ {d : Nat}, 0 < d → gre l d < d
  | 0, h => by omega
  | d + 1, _ => by
    unfold gre
    split
    · omega
    · rcases Nat.eq_zero_or_pos d with rfl | hd
      · simp [gre]
      · have := gre_lt l hd
        omega
end Go.Proofs.YtgaofnmgdefdcaaGreatDoor.Fq

namespace Go.Proofs.YtgaofnmgdefdcaaGreatDoor.Fq
open Go.RowKit Go.Proofs.YtgaofnmgdefdcaaGreatDoor.Gen

/-- No part out of range. -/
def Fine (l : List Int) : Prop := ∀ x ∈ l, 0 ≤ x ∧ x ≤ 4096
instance (l : List Int) : Decidable (Fine l) := List.decidableBAll _ l
def chk (l : List Int) : Int := if Fine l then (if l.sum = 4096 then 0 else 8) else 2
theorem take_next {l : List Int} {d : Nat} (h : d < l.length) : l.take (d + 1) = l.take d ++ [l.getD d 0] := by
  rw [List.take_add_one, List.getElem?_eq_getElem h, List.getD, List.getElem?_eq_getElem h]
  simp
theorem sum_snoc (l : List Int) (x : Int) : (l ++ [x]).sum = l.sum + x := by simp
theorem sum_next {l : List Int} {d : Nat} (h : d < l.length) : (l.take (d + 1)).sum = (l.take d).sum + l.getD d 0 := by rw [take_next h, sum_snoc]
theorem Fine.next {l : List Int} {d : Nat} (h : d < l.length) (hf : Fine (l.take d)) (hx : 0 ≤ l.getD d 0 ∧ l.getD d 0 ≤ 4096) : Fine (l.take (d + 1)) := by
  rw [take_next h]
  intro x hm
  rcases List.mem_append.1 hm with hm | hm
  · exact hf x hm
  · simp only [List.mem_singleton] at hm; rw [hm]; exact hx
theorem Fine.sum : ∀ {l : List Int}, Fine l → 0 ≤ l.sum ∧ l.sum ≤ 4096 * l.length
  | [], _ => by simp
  | a :: r, h => by
    have h1 := h a (by simp)
    have h2 := Fine.sum (l := r) fun x hx => h x (by simp [hx])
    simp only [List.sum_cons, List.length_cons]
    omega
theorem not_fine {l : List Int} {d : Nat} (h : d < l.length) (hx : ¬ (0 ≤ l.getD d 0 ∧ l.getD d 0 ≤ 4096)) : ¬ Fine l := by
  intro hf
  apply hx
  rw [List.getD, List.getElem?_eq_getElem h]
  exact hf _ (List.getElem_mem h)

end Go.Proofs.YtgaofnmgdefdcaaGreatDoor.Fq

namespace Go.Proofs.YtgaofnmgdefdcaaGreatDoor.Fq

/-- One count's parts. -/
def part1 (sum n : Int) : Int := if 0 < n then max (n * 4096 / sum) 1 else 0
/-- Counts that may be. -/
def InR (l : List Int) : Prop := ∀ x ∈ l, 0 ≤ x ∧ x ≤ 2147483647
instance (l : List Int) : Decidable (InR l) := List.decidableBAll _ l
def dec1 (l : List Int) : List Int := l.set (gre l 256) (l.getD (gre l 256) 0 - 1)
def lose (l : List Int) : Nat → List Int
  | 0 => l
  | j + 1 => dec1 (lose l j)
def pts (c : List Int) : List Int := c.map (part1 c.sum)
def scal (c : List Int) : List Int :=
  if 0 < 4096 - (pts c).sum then (pts c).set (gre c 256) ((pts c).getD (gre c 256) 0 + (4096 - (pts c).sum)) else lose (pts c) ((pts c).sum - 4096).toNat

theorem InR.next {l : List Int} {d : Nat} (h : d < l.length) (hf : InR (l.take d)) (hx : 0 ≤ l.getD d 0 ∧ l.getD d 0 ≤ 2147483647) : InR (l.take (d + 1)) := by
  rw [take_next h]
  intro x hm
  rcases List.mem_append.1 hm with hm | hm
  · exact hf x hm
  · simp only [List.mem_singleton] at hm; rw [hm]; exact hx
theorem InR.sum : ∀ {l : List Int}, InR l → 0 ≤ l.sum ∧ l.sum ≤ 2147483647 * l.length
  | [], _ => by simp
  | a :: r, h => by
    have h1 := h a (by simp)
    have h2 := InR.sum (l := r) fun x hx => h x (by simp [hx])
    simp only [List.sum_cons, List.length_cons]
    omega
theorem InR.mem_le : ∀ {l : List Int}, InR l → ∀ x ∈ l, x ≤ l.sum
  | [], _, x, hx => by simp at hx
  | a :: r, h, x, hx => by
    have h1 := h a (by simp)
    have hr : InR r := fun x hx => h x (by simp [hx])
    have h2 := hr.sum
    simp only [List.sum_cons]
    rcases List.mem_cons.1 hx with rfl | hx
    · omega
    · have := InR.mem_le hr x hx; omega
theorem not_inR {l : List Int} {d : Nat} (h : d < l.length) (hx : ¬ (0 ≤ l.getD d 0 ∧ l.getD d 0 ≤ 2147483647)) : ¬ InR l := by
  intro hf
  apply hx
  rw [List.getD, List.getElem?_eq_getElem h]
  exact hf _ (List.getElem_mem h)
theorem getD_mem {l : List Int} {d : Nat} (h : d < l.length) : l.getD d 0 ∈ l := by
  rw [List.getD, List.getElem?_eq_getElem h]; exact List.getElem_mem h
theorem part1_in {s n : Int} (hn : n ≤ s) : 0 ≤ part1 s n ∧ part1 s n ≤ 4096 := by
  unfold part1
  split
  · have h1 : 0 ≤ n * 4096 / s := Int.ediv_nonneg (by omega) (by omega)
    have h2 : n * 4096 / s ≤ 4096 := by
      apply Int.ediv_le_of_le_mul (by omega)
      omega
    omega
  · omega
theorem pts_len (c : List Int) : (pts c).length = c.length := by simp [pts]
theorem pts_get (c : List Int) {d : Nat} (h : d < c.length) : (pts c).getD d 0 = part1 c.sum (c.getD d 0) := by
  simp [pts, List.getD, List.getElem?_eq_getElem h]
theorem pts_fine {c : List Int} (h : InR c) : Fine (pts c) := by
  intro x hx
  simp only [pts, List.mem_map] at hx
  obtain ⟨n, hn, rfl⟩ := hx
  exact part1_in (h.mem_le n hn)
/-- When d of them are laid. -/
def laid (p : List Int) (d : Nat) : List Int := p.take d ++ List.replicate (256 - d) 0
theorem laid_len {p : List Int} {d : Nat} (hp : p.length = 256) (hd : d ≤ 256) : (laid p d).length = 256 := by simp [laid, hp]; omega
theorem laid_zero (p : List Int) : laid p 0 = List.replicate 256 0 := by rw [laid, List.take_zero, List.nil_append, Nat.sub_zero]
theorem laid_all {p : List Int} (hp : p.length = 256) : laid p 256 = p := by rw [laid, List.take_of_length_le (Nat.le_of_eq hp), Nat.sub_self, List.replicate_zero, List.append_nil]
theorem laid_at {p : List Int} {d : Nat} (hp : p.length = 256) (hd : d < 256) : (laid p d).getD d 0 = 0 := by
  have hlen : (p.take d).length = d := by simp; omega
  rw [laid, List.getD, List.getElem?_append_right (by omega), hlen, Nat.sub_self, List.getElem?_replicate, if_pos (by omega)]
  rfl
theorem laid_set {p : List Int} {d : Nat} (hp : p.length = 256) (hd : d < 256) : (laid p d).set d (p.getD d 0) = laid p (d + 1) := by
  have hlen : (p.take d).length = d := by simp; omega
  rw [laid, laid, take_next (by omega), List.set_append_right _ _ (by omega), hlen, Nat.sub_self, show 256 - d = (256 - (d + 1)) + 1 by omega, List.replicate_succ, List.set_cons_zero, List.append_assoc]
  rfl
theorem laid_same {p : List Int} {d : Nat} (hp : p.length = 256) (hd : d < 256) (h0 : p.getD d 0 = 0) : laid p d = laid p (d + 1) := by
  have hlen : (p.take d).length = d := by simp; omega
  rw [laid, laid, take_next (by omega), h0, show 256 - d = (256 - (d + 1)) + 1 by omega, List.replicate_succ, List.append_assoc]
  rfl

theorem gre_max (l : List Int) : ∀ (d j : Nat), j < d → l.getD j 0 ≤ l.getD (gre l d) 0
  | 0, j, h => by omega
  | d + 1, j, h => by
    unfold gre
    by_cases hj : j = d
    · subst hj
      split <;> omega
    · have := gre_max l d j (by omega)
      split <;> omega
theorem sum_set : ∀ (l : List Int) (j : Nat) (x : Int), j < l.length → (l.set j x).sum = l.sum - l.getD j 0 + x
  | [], j, x, h => by simp at h
  | a :: r, 0, x, h => by simp; omega
  | a :: r, j + 1, x, h => by
    have := sum_set r j x (by simpa using h)
    simp only [List.set_cons_succ, List.sum_cons, this, List.getD_cons_succ]
    omega
theorem sum_le : ∀ {l : List Int} {m : Int}, (∀ x ∈ l, x ≤ m) → l.sum ≤ m * l.length
  | [], m, _ => by simp
  | a :: r, m, h => by
    have h1 := h a (by simp)
    have h2 := sum_le (l := r) (m := m) fun x hx => h x (by simp [hx])
    simp only [List.sum_cons, List.length_cons]
    push_cast
    rw [Int.mul_add]
    omega
theorem gre_pos {l : List Int} (hl : l.length = 256) (h : 0 < l.sum) : 0 < l.getD (gre l 256) 0 := by
  rcases Int.lt_or_le 0 (l.getD (gre l 256) 0) with h1 | h1
  · exact h1
  · exfalso
    have := sum_le (l := l) (m := 0) (fun x hx => by
      obtain ⟨j, hj, rfl⟩ := List.getElem_of_mem hx
      have h2 := gre_max l 256 j (by omega)
      rw [List.getD, List.getElem?_eq_getElem hj] at h2
      simp only [Option.getD_some] at h2
      omega)
    omega
theorem mem_set {l : List Int} {j : Nat} {x y : Int} (h : y ∈ l.set j x) : y ∈ l ∨ y = x := List.mem_or_eq_of_mem_set h
theorem dec1_ok {l : List Int} (hl : l.length = 256) (hf : Fine l) (h : 0 < l.sum) : (dec1 l).length = 256 ∧ Fine (dec1 l) ∧ (dec1 l).sum = l.sum - 1 := by
  have hg : gre l 256 < 256 := gre_lt l (by omega)
  have hp := gre_pos hl h
  have hm := hf _ (getD_mem (l := l) (d := gre l 256) (by omega))
  refine ⟨by simp [dec1, hl], fun x hx => ?_, ?_⟩
  · rcases mem_set hx with hx | rfl
    · exact hf x hx
    · omega
  · rw [dec1, sum_set _ _ _ (by omega)]
    omega
theorem lose_ok {l : List Int} (hl : l.length = 256) (hf : Fine l) : ∀ {j : Nat}, (j : Int) ≤ l.sum - 4096 → (lose l j).length = 256 ∧ Fine (lose l j) ∧ (lose l j).sum = l.sum - j
  | 0, _ => ⟨hl, hf, by simp [lose]⟩
  | j + 1, h => by
    obtain ⟨h1, h2, h3⟩ := lose_ok hl hf (j := j) (by omega)
    obtain ⟨h4, h5, h6⟩ := dec1_ok h1 h2 (by omega)
    exact ⟨h4, h5, by rw [lose, h6, h3]; omega⟩
theorem fine_of {l : List Int} (h0 : ∀ x ∈ l, 0 ≤ x) (hs : l.sum = 4096) : Fine l := by
  have hle : ∀ (l : List Int), (∀ x ∈ l, 0 ≤ x) → 0 ≤ l.sum ∧ ∀ x ∈ l, x ≤ l.sum := by
    intro l
    induction l with
    | nil => intro _; simp
    | cons a r ih =>
      intro h
      obtain ⟨h1, h2⟩ := ih fun x hx => h x (by simp [hx])
      have ha := h a (by simp)
      simp only [List.sum_cons]
      refine ⟨by omega, fun x hx => ?_⟩
      rcases List.mem_cons.1 hx with rfl | hx
      · omega
      · have := h2 x hx; omega
  intro x hx
  have := (hle l h0).2 x hx
  exact ⟨h0 x hx, by omega⟩
/-- What the parts are in all. -/
theorem scal_ok {c : List Int} (hc : c.length = 256) (hr : InR c) : (scal c).length = 256 ∧ Fine (scal c) ∧ (scal c).sum = 4096 := by
  have hl : (pts c).length = 256 := by rw [pts_len, hc]
  have hf := pts_fine hr
  unfold scal
  split
  · next h =>
    have hg : gre c 256 < 256 := gre_lt c (by omega)
    have hs : ((pts c).set (gre c 256) ((pts c).getD (gre c 256) 0 + (4096 - (pts c).sum))).sum = 4096 := by
      rw [sum_set _ _ _ (by omega)]; omega
    refine ⟨by simp [hl], fine_of (fun x hx => ?_) hs, hs⟩
    rcases mem_set hx with hx | rfl
    · exact (hf x hx).1
    · have := hf _ (getD_mem (l := pts c) (d := gre c 256) (by omega)); omega
  · next h =>
    obtain ⟨h1, h2, h3⟩ := lose_ok hl hf (j := ((pts c).sum - 4096).toNat) (by omega)
    exact ⟨h1, h2, by rw [h3]; omega⟩
end Go.Proofs.YtgaofnmgdefdcaaGreatDoor.Fq

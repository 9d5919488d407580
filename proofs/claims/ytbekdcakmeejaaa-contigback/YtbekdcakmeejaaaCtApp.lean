/- Appends of bytes that may be nil, at a step of a region that draws its order; what lies ahead of a place. No conditions beyond those that each law names. -/
import Derived.Test.YtbekdcakmeejaaaClone
import Derived.Test.YtbekdcakmeejaaaCtPl
import Derived.Lib.AppendStr
import Derived.Laws.AppendOwnNone
import Derived.Laws.BitsAllLaws
import Derived.Deep.AppendLies
import Derived.Deep.RegionLaw
namespace Go.Proofs.Ytbekdcakmeejaaa.Ca
open Go.RowKit Go.Proofs.Ytbekdcakmeejaaa.Gen Go.Proofs.Ytbekdcakmeejaaa.Cl Go.Proofs.Ytbekdcakmeejaaa.Ct

theorem run_app_none (base n c : Nat) (ty : TypeId) (v : Value) (ys : List Int) (w : World) (hown : w.ownsRow base 5 1 v n (bv ys)) :
    (Builtin.append_ #[31, 31] ty #[v, .slice none 0 c]).run Try.prog w = .ok v w := by
  obtain ⟨i0, hi0, hz0, hz1, hz2⟩ := info_parts u8_info
  have ht : Try.prog.underlying 31 = some (.slice 5) := Try.underlying31
  rcases hown.2 with ⟨rfl, rfl⟩ | ⟨g, cap, cur, rfl, _, _, hnc, _⟩
  · simp [Builtin.append_, run_underlying ht, sizeOf, typeInfo, hi0, Builtin.lenOf, Builtin.firstCells]
  · simp [Builtin.append_, run_underlying ht, sizeOf, typeInfo, hi0, Builtin.lenOf, Builtin.firstCells, hnc, storeCells]
/-- Bytes that may be nil, behind a row of one's own. -/
theorem run_app (base n m c : Nat) (ty : TypeId) (v : Value) (ys xs : List Int) (A : Option Addr) (w : World) (hown : w.ownsRow base 5 1 v n (bv ys)) (hl : Lies w A xs) (hm : xs.length = m) (h63 : n + m ≤ 10000000) (hbase : base ≤ w.heap.size) :
    ∃ v' w', (Builtin.append_ #[31, 31] ty #[v, .slice A m c]).run Try.prog w = .ok v' w' ∧ w'.ownsRow base 5 1 v' (n + m) (bv (ys ++ xs)) ∧ w.grownBy w' v.ownBlock ∧ (v'.ownBlock = v.ownBlock ∨ v'.ownBlock = some w.heap.size) := by
  obtain ⟨i0, hi0, hz0, hz1, hz2⟩ := info_parts u8_info
  cases A with
  | none =>
    obtain rfl : xs = [] := by
      rcases hl with h1 | ⟨b, o, h1, _⟩
      · exact h1
      · cases h1
    simp at hm
    subst hm
    exact ⟨v, w, run_app_none base n c ty v ys w hown, by simpa using hown, World.grownBy.refl _ _, .inl rfl⟩
  | some ad =>
    obtain ⟨v', w', h1, h2, h3, _, h5⟩ := run_append_own_at (P := Try.prog) w base 31 ty 5 i0 _ 1 1 Try.underlying31 hi0 hz0 hz1 hz2 rfl (by omega) v n (bv ys) hown ad m c (bv xs) (by rw [bv_len]; omega) hl.news (bv_one _) (by simp only [maxLen]; omega) (by omega) hbase
    exact ⟨v', w', h1, by rw [bv_append]; exact h2, h3, h5⟩
theorem wp_app {o : Oper} {a : Act} {w : World} {K : Act → World → Prop} {Q : Exit → Act → World → Prop} (s x : Operand)
    (ho : o.op = .call { callee := .builtin .append, args := #[s, x], argTypes := #[31, 31] })
    (base n m c : Nat) (v : Value) (ys xs : List Int) (A : Option Addr) (hs : a.eval s = v) (hown : w.ownsRow base 5 1 v n (bv ys)) (hx : a.eval x = .slice A m c) (hl : Lies w A xs) (hm : xs.length = m) (h63 : n + m ≤ 10000000) (hbase : base ≤ w.heap.size)
    (h : ∀ v' w', w'.ownsRow base 5 1 v' (n + m) (bv (ys ++ xs)) → w.grownBy w' v.ownBlock → (v'.ownBlock = v.ownBlock ∨ v'.ownBlock = some w.heap.size) → K (a.put o.dst v') w') : o.wp Try.prog a w K Q := by
  obtain ⟨v', w', hr, h2, h3, h4⟩ := run_app base n m c o.type v ys xs A w hown hl hm h63 hbase
  unfold Oper.wp execOp
  simp only [ho, resolve, invoke, builtin, Sem.run_bind, Sem.run_pure, Result.andThen_ok, List.map_toArray, List.map_cons, List.map_nil, hs, hx, hr]
  exact h v' w' h2 h3 h4
theorem step_app {ops : Array Oper} {o : Oper} {a : Act} {w : World} {K : Act → World → Prop} {Q : Exit → Act → World → Prop} {E : Prop} (hgd : o.guard = none) (s x : Operand)
    (ho : o.op = .call { callee := .builtin .append, args := #[s, x], argTypes := #[31, 31] })
    (base n m c : Nat) (v : Value) (ys xs : List Int) (A : Option Addr) (hs : a.eval s = v) (hown : w.ownsRow base 5 1 v n (bv ys)) (hx : a.eval x = .slice A m c) (hl : Lies w A xs) (hm : xs.length = m) (h63 : n + m ≤ 10000000) (hbase : base ≤ w.heap.size)
    (h : ∀ v' w', w'.ownsRow base 5 1 v' (n + m) (bv (ys ++ xs)) → w.grownBy w' v.ownBlock → (v'.ownBlock = v.ownBlock ∨ v'.ownBlock = some w.heap.size) → K (a.put o.dst v') w') :
    if Region.wanted o (yielded ops a.tmps) = true then Oper.wp Try.prog o a w K Q else E := by
  have hw : Region.wanted o (yielded ops a.tmps) = true := by simp [Region.wanted, hgd]
  rw [if_pos hw]
  exact wp_app s x ho base n m c v ys xs A hs hown hx hl hm h63 hbase h
theorem wpList_app {ops : Array Oper} {rest : List Oper} {o : Oper} {a : Act} {w : World} {Q : Exit → Act → World → Prop} (hgd : o.guard = none) (s x : Operand)
    (ho : o.op = .call { callee := .builtin .append, args := #[s, x], argTypes := #[31, 31] })
    (base n m c : Nat) (v : Value) (ys xs : List Int) (A : Option Addr) (hs : a.eval s = v) (hown : w.ownsRow base 5 1 v n (bv ys)) (hx : a.eval x = .slice A m c) (hl : Lies w A xs) (hm : xs.length = m) (h63 : n + m ≤ 10000000) (hbase : base ≤ w.heap.size)
    (h : ∀ v' w', w'.ownsRow base 5 1 v' (n + m) (bv (ys ++ xs)) → w.grownBy w' v.ownBlock → (v'.ownBlock = v.ownBlock ∨ v'.ownBlock = some w.heap.size) → wpList Try.prog ops Q rest (a.put o.dst v') w') :
    wpList Try.prog ops Q (o :: rest) a w :=
  wpList_plain hgd fun _ hK => wp_app s x ho base n m c v ys xs A hs hown hx hl hm h63 hbase fun v' w' h2 h3 h4 => hK _ _ (h v' w' h2 h3 h4)
/-- An empty row of one's own. -/
theorem own_empty (w : World) (base : Nat) (hb : base ≤ w.heap.size) : (w.alloc (.cells #[] 5)).ownsRow base 5 1 (.slice (some ⟨w.heap.size, 0, none⟩) 0 0) 0 (bv []) :=
  ⟨rfl, .inr ⟨w.heap.size, 0, #[], rfl, hb, heap_alloc_new w _, Nat.le_refl _, by simp [maxLen], rfl, rfl⟩⟩
theorem lies_take {w : World} {A : Option Addr} {xs : List Int} (h : Lies w A xs) (j : Nat) : Lies w A (xs.take j) := by
  rcases h with rfl | ⟨b, o, rfl, hb, hc⟩
  · exact .inl (by simp)
  · refine .inr ⟨b, o, rfl, hb, fun i hi => ?_⟩
    simp only [List.length_take] at hi
    rw [hc i (by omega)]
    congr 2
    simp only [List.getD_eq_getElem?_getD]
    rw [List.getElem?_take_of_lt (by omega)]
theorem own_set {w : World} {base g n c j : Nat} {zs : List Int} (h : w.ownsRow base 5 1 (.slice (some ⟨g, 0, none⟩) n c) n (bv zs)) (y : Int) :
    (w.setCell ⟨g, j, none⟩ (.int .u8 y)).ownsRow base 5 1 (.slice (some ⟨g, 0, none⟩) n c) n (bv (zs.set j y)) := by
  obtain ⟨hl, h⟩ := h
  rcases h with ⟨h, _⟩ | ⟨g', cap, cur, hv, hb, hh, h1, h2, h3, h4⟩
  · cases h
  · injection hv with hv _ hc
    injection hv with hv
    injection hv with hv
    subst hv
    subst hc
    refine ⟨by simpa [bv] using hl, .inr ⟨g, c, cur.setIfInBounds j (.int .u8 y), rfl, hb, (show Blk w g 5 cur from hh).setCell j _, h1, h2, by simpa using h3, ?_⟩⟩
    rw [Nat.mul_one] at h4 ⊢
    rw [Array.toList_setIfInBounds, List.take_set, h4]
    simp [bv, List.map_set]
theorem own_cell {w : World} {base n c j : Nat} {A : Option Addr} {zs : List Int} (h : w.ownsRow base 5 1 (.slice A n c) n (bv zs)) (hj : j < n) :
    ∃ g, A = some ⟨g, 0, none⟩ ∧ w.cell? ⟨g, j, none⟩ = some (.int .u8 (zs.getD j 0)) ∧ w.frozen? ⟨g, j, none⟩ = false ∧ base ≤ g ∧ g < w.heap.size := by
  have hl := h.1
  rw [bv_len, Nat.mul_one] at hl
  rcases h.2 with ⟨h, hn⟩ | ⟨g, cap, cur, hv, hb', hh, _⟩
  · omega
  · injection hv with hv _ _
    subst hv
    have hlt := (show Blk w g 5 cur from hh).lt
    have hc := h.cells (g := g) rfl j _ (bv_at (by omega))
    rw [add_none, Nat.zero_add] at hc
    exact ⟨g, rfl, hc, (show Blk w g 5 cur from hh).frozen j, hb', hlt⟩
theorem size_u8 (w : World) : (sizeOf 5).run Try.prog w = .ok 1 w := by
  obtain ⟨i0, hi0, hz0, hz1, hz2⟩ := info_parts u8_info
  simp [sizeOf, typeInfo, hi0, hz1]
/-- A string's bytes, behind a row of one's own. -/
theorem wpList_apps {ops : Array Oper} {rest : List Oper} {o : Oper} {a : Act} {w : World} {Q : Exit → Act → World → Prop} (hgd : o.guard = none) (s x : Operand)
    (ho : o.op = .call { callee := .builtin .append, args := #[s, x], argTypes := #[31, 9] })
    (base n m : Nat) (v : Value) (ys xs : List Int) (hs : a.eval s = v) (hown : w.ownsRow base 5 1 v n (bv ys)) (hx : a.eval x = .string (strOfNums xs)) (hb : Byt xs) (hm : xs.length = m) (h63 : n + m ≤ 10000000) (hbase : base ≤ w.heap.size)
    (h : ∀ v' w', w'.ownsRow base 5 1 v' (n + m) (bv (ys ++ xs)) → w.grownBy w' v.ownBlock → wpList Try.prog ops Q rest (a.put o.dst v') w') :
    wpList Try.prog ops Q (o :: rest) a w := by
  obtain ⟨i0, hi0, hz0, hz1, hz2⟩ := info_parts u8_info
  have hz : (strOfNums xs).size = m := by rw [strOfNums_size, hm]
  refine Lib.wpList_append_own_string w hgd s x 31 9 ho base 5 i0 Try.underlying31 Try.underlying9 hi0 hz0 hz1 hz2 v n (bv ys) hs hown (strOfNums xs) hx (by rw [hz]; simp only [maxLen]; omega) (by rw [hz]; omega) hbase ?_
  intro v' w' h1 h2 _
  rw [hz, strCells_nums hb, ← bv_append] at h1
  exact h v' w' h1 h2
end Go.Proofs.Ytbekdcakmeejaaa.Ca

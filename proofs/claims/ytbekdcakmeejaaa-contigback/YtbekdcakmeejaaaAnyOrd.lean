/- A region that draws its order, by one fact that every operation keeps, whichever comes up next. No program, no conditions beyond those that each law names. -/
import Derived.OrdersHeld
import Derived.Deep.RegionHeld3
namespace Go.Proofs.Ytbekdcakmeejaaa.Ao

theorem countP_less {p q : Nat → Bool} : ∀ (l : List Nat) (i : Nat), (∀ j, q j = true → p j = true) → i ∈ l → p i = true → q i = false → l.countP q < l.countP p
  | [], i, _, hi, _, _ => by cases hi
  | x :: l, i, h, hi, hp, hq => by
    have hle : l.countP q ≤ l.countP p := List.countP_mono_left fun j _ => h j
    rw [List.countP_cons, List.countP_cons]
    rcases List.mem_cons.1 hi with rfl | hi
    · rw [hp, hq]
      simp
      omega
    · have := countP_less l i h hi hp hq
      cases hx : q x with
      | false => simp; split <;> omega
      | true => rw [h x hx]; simp; omega
/-- How many have not come up. -/
def left (n : Nat) (listed : Array Bool) : Nat := (List.range n).countP fun j => !listed.getD j true
theorem ready_mem {md : Region.Mode} {ops : Array Oper} {listed : Array Bool} {i : Nat} (h : i ∈ Region.ready md ops listed) :
    i < ops.size ∧ listed.getD i true = false ∧ ∀ o, ops[i]? = some o → (o.after.all fun e => !Region.binds md e || listed.getD e.on false) = true := by
  unfold Region.ready at h
  rw [List.mem_filter, List.mem_range] at h
  obtain ⟨h1, h2⟩ := h
  simp only [Bool.and_eq_true, Bool.not_eq_true'] at h2
  refine ⟨h1, h2.1, fun o ho => ?_⟩
  have h3 := h2.2
  rw [ho] at h3
  exact h3
theorem getD_set {listed : Array Bool} {i : Nat} (hi : i < listed.size) (j : Nat) (b : Bool) : (listed.setIfInBounds i true).getD j b = if i = j then true else listed.getD j b := by
  simp only [Array.getD_eq_getD_getElem?, Array.getElem?_setIfInBounds]
  by_cases h : i = j
  · subst h
    simp [hi]
  · simp [h]
theorem getD_lt {listed : Array Bool} {i : Nat} (h : listed.getD i true = false) : i < listed.size := by
  rcases Nat.lt_or_ge i listed.size with h1 | h1
  · exact h1
  · simp [Array.getD_eq_getD_getElem?, Array.getElem?_eq_none h1] at h
theorem wpAnyH_inv {P : Program} {md : Region.Mode} {ops : Array Oper} {Q : Exit → Act → World → Prop} (I : (Nat → Bool) → Act → World → Prop)
    (hs : ∀ (L : Nat → Bool) (a : Act) (w : World) (i : Nat) (o : Oper), I L a w → L i = false → ops[i]? = some o → (o.after.all fun e => !Region.binds md e || L e.on) = true →
      wpOp P ops Q i (I (fun j => if i = j then true else L j)) a w)
    (he : ∀ (L : Nat → Bool) (a : Act) (w : World), I L a w → (∀ i, i < ops.size → L i = false → ∃ o, ops[i]? = some o ∧ (o.after.all fun e => !Region.binds md e || L e.on) = false) → Q .normal a w) :
    ∀ (fuel : Nat) (listed : Array Bool) (a : Act) (w : World), listed.size = ops.size → left ops.size listed ≤ fuel → I (fun j => listed.getD j false) a w → wpAnyH P md ops Q (fun _ => True) fuel listed a w := by
  have hsame : ∀ (listed : Array Bool) (i : Nat), i < listed.size → listed.getD i false = listed.getD i true := by
    intro listed i hi
    simp [Array.getD_eq_getD_getElem?, hi]
  have hend : ∀ (listed : Array Bool) (a : Act) (w : World), listed.size = ops.size → I (fun j => listed.getD j false) a w → Region.ready md ops listed = [] → Q .normal a w := by
    intro listed a w hsz hI hr
    refine he _ a w hI fun i hi hL => ?_
    refine ⟨ops[i], Array.getElem?_eq_getElem hi, ?_⟩
    cases hb : (ops[i].after.all fun e => !Region.binds md e || listed.getD e.on false) with
    | false => rfl
    | true =>
      have : i ∈ Region.ready md ops listed := by
        unfold Region.ready
        rw [List.mem_filter, List.mem_range]
        refine ⟨hi, ?_⟩
        rw [Array.getElem?_eq_getElem hi]
        simp only [Option.map_some, Option.getD_some, hb, Bool.and_true, Bool.not_eq_true']
        rw [← hsame listed i (by omega)]
        exact hL
      rw [hr] at this
      cases this
  intro fuel
  induction fuel with
  | zero =>
    intro listed a w hsz hf hI
    have hr : Region.ready md ops listed = [] := by
      cases hq : Region.ready md ops listed with
      | nil => rfl
      | cons i rs =>
        obtain ⟨h1, h2, _⟩ := ready_mem (i := i) (md := md) (ops := ops) (listed := listed) (by rw [hq]; simp)
        have : 0 < left ops.size listed := List.countP_pos_iff.2 ⟨i, List.mem_range.2 h1, by simp [h2]⟩
        omega
    exact ⟨hr, hend listed a w hsz hI hr⟩
  | succ fuel ih =>
    intro listed a w hsz hf hI
    refine ⟨fun hr => hend listed a w hsz hI hr, fun i hi => ?_⟩
    obtain ⟨h1, h2, h3⟩ := ready_mem hi
    have hli := getD_lt h2
    have hs1 := hs _ a w i ops[i] hI (by rw [hsame listed i hli]; exact h2) (Array.getElem?_eq_getElem h1) (h3 _ (Array.getElem?_eq_getElem h1))
    have hk : ∀ a' w', I (fun j => if i = j then true else listed.getD j false) a' w' → True ∧ wpAnyH P md ops Q (fun _ => True) fuel (listed.setIfInBounds i true) a' w' := by
      intro a' w' hI'
      refine ⟨trivial, ih _ a' w' (by simpa using hsz) ?_ ?_⟩
      · have : left ops.size (listed.setIfInBounds i true) < left ops.size listed := by
          refine countP_less _ i (fun j hj => ?_) (List.mem_range.2 h1) (by simp [h2]) (by simp [getD_set hli])
          rw [getD_set hli] at hj
          by_cases e : i = j
          · simp [e] at hj
          · simpa [e] using hj
        omega
      · have : (fun j => (listed.setIfInBounds i true).getD j false) = fun j => if i = j then true else listed.getD j false := funext fun j => getD_set hli j false
        rw [this]
        exact hI'
    exact wpOp_mono hk hs1
end Go.Proofs.Ytbekdcakmeejaaa.Ao

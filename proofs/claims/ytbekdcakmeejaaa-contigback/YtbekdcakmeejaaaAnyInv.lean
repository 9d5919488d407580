/- A region that draws its order, some of its operations taken ahead: one fact over the values of chosen slots that every operation keeps, whichever comes up next. No program, no conditions beyond those that each law names. -/
import Derived.Test.YtbekdcakmeejaaaAnyOrd
namespace Go.Proofs.Ytbekdcakmeejaaa.Ao

theorem wpAnyH_invS {P : Program} {md : Region.Mode} {ops : Array Oper} {Q : Exit → Act → World → Prop} {S : World → Prop} (I : (Nat → Bool) → Act → World → Prop)
    (hS : ∀ (L : Nat → Bool) (a : Act) (w : World), I L a w → S w)
    (hs : ∀ (L : Nat → Bool) (a : Act) (w : World) (i : Nat) (o : Oper), I L a w → L i = false → ops[i]? = some o → (o.after.all fun e => !Region.binds md e || L e.on) = true →
      wpOp P ops Q i (I (fun j => if i = j then true else L j)) a w)
    (he : ∀ (L : Nat → Bool) (a : Act) (w : World), I L a w → (∀ i, i < ops.size → L i = false → ∃ o, ops[i]? = some o ∧ (o.after.all fun e => !Region.binds md e || L e.on) = false) → Q .normal a w) :
    ∀ (fuel : Nat) (listed : Array Bool) (a : Act) (w : World), listed.size = ops.size → left ops.size listed ≤ fuel → I (fun j => listed.getD j false) a w → wpAnyH P md ops Q S fuel listed a w := by
  have hsame : ∀ (listed : Array Bool) (i : Nat), i < listed.size → listed.getD i false = listed.getD i true := by
    intro listed i hi
    simp [Array.getD_eq_getD_getElem?, hi]
  have hend : ∀ (listed : Array Bool) (a : Act) (w : World), listed.size = ops.size → I (fun j => listed.getD j false) a w → Region.ready md ops listed = [] → Q .normal a w := by
    intro listed a w hsz hI hr
    refine he _ a w hI fun i hi hL => ?_
    refine ⟨ops[i], Array.getElem?_eq_getElem hi, ?_⟩
    cases hb : (ops[i].after.all fun e => !Region.binds md e || listed.getD e.on false) with
    | false => rfl
    | true =>
      have : i ∈ Region.ready md ops listed := by
        unfold Region.ready
        rw [List.mem_filter, List.mem_range]
        refine ⟨hi, ?_⟩
        rw [Array.getElem?_eq_getElem hi]
        simp only [Option.map_some, Option.getD_some, hb, Bool.and_true, Bool.not_eq_true']
        rw [← hsame listed i (by omega)]
        exact hL
      rw [hr] at this
      cases this
  intro fuel
  induction fuel with
  | zero =>
    intro listed a w hsz hf hI
    have hr : Region.ready md ops listed = [] := by
      cases hq : Region.ready md ops listed with
      | nil => rfl
      | cons i rs =>
        obtain ⟨h1, h2, _⟩ := ready_mem (i := i) (md := md) (ops := ops) (listed := listed) (by rw [hq]; simp)
        have : 0 < left ops.size listed := List.countP_pos_iff.2 ⟨i, List.mem_range.2 h1, by simp [h2]⟩
        omega
    exact ⟨hr, hend listed a w hsz hI hr⟩
  | succ fuel ih =>
    intro listed a w hsz hf hI
    refine ⟨fun hr => hend listed a w hsz hI hr, fun i hi => ?_⟩
    obtain ⟨h1, h2, h3⟩ := ready_mem hi
    have hli := getD_lt h2
    have hs1 := hs _ a w i ops[i] hI (by rw [hsame listed i hli]; exact h2) (Array.getElem?_eq_getElem h1) (h3 _ (Array.getElem?_eq_getElem h1))
    have hk : ∀ a' w', I (fun j => if i = j then true else listed.getD j false) a' w' → S w' ∧ wpAnyH P md ops Q S fuel (listed.setIfInBounds i true) a' w' := by
      intro a' w' hI'
      refine ⟨hS _ _ _ hI', ih _ a' w' (by simpa using hsz) ?_ ?_⟩
      · have : left ops.size (listed.setIfInBounds i true) < left ops.size listed := by
          refine countP_less _ i (fun j hj => ?_) (List.mem_range.2 h1) (by simp [h2]) (by simp [getD_set hli])
          rw [getD_set hli] at hj
          by_cases e : i = j
          · simp [e] at hj
          · simpa [e] using hj
        omega
      · have : (fun j => (listed.setIfInBounds i true).getD j false) = fun j => if i = j then true else listed.getD j false := funext fun j => getD_set hli j false
        rw [this]
        exact hI'
    exact wpOp_mono hk hs1
/-- What holds of every world from now on may be taken narrower. -/
theorem wpAnyH_as {P : Program} {md : Region.Mode} {ops : Array Oper} {Q : Exit → Act → World → Prop} {S S' : World → Prop} (h : ∀ w, S' w → S w) :
    ∀ (fuel : Nat) (listed : Array Bool) (a : Act) (w : World), wpAnyH P md ops Q S' fuel listed a w → wpAnyH P md ops Q S fuel listed a w
  | 0, _, _, _, hx => hx
  | fuel + 1, _, _, _, hx => ⟨hx.1, fun i hi => wpOp_mono (fun a' w' hh => ⟨h _ hh.1, wpAnyH_as h fuel _ a' w' hh.2⟩) (hx.2 i hi)⟩
/-- Values of chosen slots. -/
def puts (a : Act) : List Tmp → List Value → Act
  | d :: ds, v :: vs => puts (a.put (some d) v) ds vs
  | _, _ => a
theorem wpAnyH_vals {P : Program} {md : Region.Mode} {ops : Array Oper} {Q : Exit → Act → World → Prop} {S : World → Prop} {a : Act} {w : World} {fuel : Nat} {listed : Array Bool} (ds : List Tmp) (vs0 : List Value) (J : (Nat → Bool) → List Value → World → Prop)
    (ha : puts a ds vs0 = a)
    (hsz : listed.size = ops.size) (hf : left ops.size listed ≤ fuel)
    (hac : ((List.range ops.size).all fun i => ((ops[i]?).map fun o => o.after.all fun e => decide (e.on < i)).getD true) = true)
    (h0 : J (fun j => listed.getD j false) vs0 w)
    (hS : ∀ (L : Nat → Bool) (vs : List Value) (w : World), J L vs w → S w)
    (hs : ∀ (L : Nat → Bool) (vs : List Value) (w : World) (i : Nat) (o : Oper), J L vs w → L i = false → ops[i]? = some o → (o.after.all fun e => !Region.binds md e || L e.on) = true →
      wpOp P ops Q i (fun a' w' => ∃ vs', a' = puts a ds vs' ∧ J (fun j => if i = j then true else L j) vs' w') (puts a ds vs) w)
    (he : ∀ (L : Nat → Bool) (vs : List Value) (w : World), J L vs w → (∀ i, i < ops.size → L i = true) → Q .normal (puts a ds vs) w) :
    wpAnyH P md ops Q S fuel listed a w := by
  refine wpAnyH_invS (fun L a' w' => ∃ vs, a' = puts a ds vs ∧ J L vs w') (fun L a' w' ⟨vs, _, hJ⟩ => hS L vs w' hJ) ?_ ?_ fuel listed a w hsz hf ⟨vs0, ha.symm, h0⟩
  · rintro L a' w' i o ⟨vs, rfl, hJ⟩ hL ho hall
    exact hs L vs w' i o hJ hL ho hall
  · rintro L a' w' ⟨vs, rfl, hJ⟩ hn
    refine he L vs w' hJ ?_
    intro i
    induction i using Nat.strongRecOn with
    | _ i ih =>
      intro hi
      cases hL : L i with
      | true => rfl
      | false =>
        obtain ⟨o, ho, hfa⟩ := hn i hi hL
        have h1 := List.all_eq_true.1 hac i (List.mem_range.2 hi)
        rw [ho] at h1
        simp only [Option.map_some, Option.getD_some] at h1
        have : (o.after.all fun e => !Region.binds md e || L e.on) = true := by
          rw [Array.all_eq_true] at h1 ⊢
          intro k hk
          have h2 := of_decide_eq_true (h1 k hk)
          rw [ih _ h2 (by omega), Bool.or_true]
        rw [this] at hfa
        cases hfa
end Go.Proofs.Ytbekdcakmeejaaa.Ao

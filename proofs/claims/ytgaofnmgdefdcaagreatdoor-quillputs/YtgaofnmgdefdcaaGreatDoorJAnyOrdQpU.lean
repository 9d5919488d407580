/- A region that draws its order, by one fact that every operation keeps, whichever comes up next. No program, no conditions beyond those that each law names. -/
/- A region that draws its order, some of its operations taken ahead: one fact over the values of chosen slots that every operation keeps, whichever comes up next. No program, no conditions beyond those that each law names. -/
/- The walk of QuillPuts: any ways, any acts. The condition: strconv's table of tens reads as its text lays it. -/
import Derived.OrdersHeld
import Derived.Deep.RegionHeld3
import Derived.Test.YtgaofnmgdefdcaaGreatDoorJQpPQpR
import Derived.Test.YtgaofnmgdefdcaaGreatDoorDsSmA
import Derived.Deep.CutRange
import Derived.Deep.CutBlock

namespace Go.Proofs.YtgaofnmgdefdcaaGreatDoor.Ao

theorem countP_less {p q : Nat → Bool} : ∀ (l : List Nat) (i : Nat), (∀ j, q j = true → p j = true) → i ∈ l → p i = true → q i = false → l.countP q < l.countP p
  | [], i, _, hi, _, _ => by cases hi
  | x :: l, i, h, hi, hp, hq => by
    have hle : l.countP q ≤ l.countP p := List.countP_mono_left fun j _ => h j
    rw [List.countP_cons, List.countP_cons]
    rcases List.mem_cons.1 hi with rfl | hi
    · rw [hp, hq]
      simp
      omega
    · have := countP_less l i h hi hp hq
      cases hx : q x with
      | false => simp; split <;> omega
      | true => rw [h x hx]; simp; omega
/-- How many have not come up. -/
def left (n : Nat) (listed : Array Bool) : Nat := (List.range n).countP fun j => !listed.getD j true
theorem ready_mem {md : Region.Mode} {ops : Array Oper} {listed : Array Bool} {i : Nat} (h : i ∈ Region.ready md ops listed) :
    i < ops.size ∧ listed.getD i true = false ∧ ∀ o, ops[i]? = some o → (o.after.all fun e => !Region.binds md e || listed.getD e.on false) = true := by
  unfold Region.ready at h
  rw [List.mem_filter, List.mem_range] at h
  obtain ⟨h1, h2⟩ := h
  simp only [Bool.and_eq_true, Bool.not_eq_true'] at h2
  refine ⟨h1, h2.1, fun o ho => ?_⟩
  have h3 := h2.2
  rw [ho] at h3
  exact h3
theorem getD_set {listed : Array Bool} {i : Nat} (hi : i < listed.size) (j : Nat) (b : Bool) : (listed.setIfInBounds i true).getD j b = if i = j then true else listed.getD j b := by
  simp only [Array.getD_eq_getD_getElem?, Array.getElem?_setIfInBounds]
  by_cases h : i = j
  · subst h
    simp [hi]
  · simp [h]
theorem getD_lt {listed : Array Bool} {i : Nat} (h : listed.getD i true = false) : i < listed.size := by
  rcases Nat.lt_or_ge i listed.size with h1 | h1
  · exact h1
  · simp [Array.getD_eq_getD_getElem?, Array.getElem?_eq_none h1] at h
theorem wpAnyH_inv {P : Program} {md : Region.Mode} {ops : Array Oper} {Q : Exit → Act → World → Prop} (I : (Nat → Bool) → Act → World → Prop)
    (hs : ∀ (L : Nat → Bool) (a : Act) (w : World) (i : Nat) (o : Oper), I L a w → L i = false → ops[i]? = some o → (o.after.all fun e => !Region.binds md e || L e.on) = true →
      wpOp P ops Q i (I (fun j => if i = j then true else L j)) a w)
    (he : ∀ (L : Nat → Bool) (a : Act) (w : World), I L a w → (∀ i, i < ops.size → L i = false → ∃ o, ops[i]? = some o ∧ (o.after.all fun e => !Region.binds md e || L e.on) = false) → Q .normal a w) :
    ∀ (fuel : Nat) (listed : Array Bool) (a : Act) (w : World), listed.size = ops.size → left ops.size listed ≤ fuel → I (fun j => listed.getD j false) a w → wpAnyH P md ops Q (fun _ => True) fuel listed a w := by
  have hsame : ∀ (listed : Array Bool) (i : Nat), i < listed.size → listed.getD i false = listed.getD i true := by
    intro listed i hi
    simp [Array.getD_eq_getD_getElem?, hi]
  have hend : ∀ (listed : Array Bool) (a : Act) (w : World), listed.size = ops.size → I (fun j => listed.getD j false) a w → Region.ready md ops listed = [] → Q .normal a w := by
    intro listed a w hsz hI hr
    refine he _ a w hI fun i hi hL => ?_
    refine ⟨ops[i], Array.getElem?_eq_getElem hi, ?_⟩
    cases hb : (ops[i].after.all fun e => !Region.binds md e || listed.getD e.on false) with
    | false => rfl
    | true =>
      have : i ∈ Region.ready md ops listed := by
        unfold Region.ready
        rw [List.mem_filter, List.mem_range]
        refine ⟨hi, ?_⟩
        rw [Array.getElem?_eq_getElem hi]
        simp only [Option.map_some, Option.getD_some, hb, Bool.and_true, Bool.not_eq_true']
        rw [← hsame listed i (by omega)]
        exact hL
      rw [hr] at this
      cases this
  intro fuel
  induction fuel with
  | zero =>
    intro listed a w hsz hf hI
    have hr : Region.ready md ops listed = [] := by
      cases hq : Region.ready md ops listed with
      | nil => rfl
      | cons i rs =>
        obtain ⟨h1, h2, _⟩ := ready_mem (i := i) (md := md) (ops := ops) (listed := listed) (by rw [hq]; simp)
        have : 0 < left ops.size listed := List.countP_pos_iff.2 ⟨i, List.mem_range.2 h1, by simp [h2]⟩
        omega
    exact ⟨hr, hend listed a w hsz hI hr⟩
  | succ fuel ih =>
    intro listed a w hsz hf hI
    refine ⟨fun hr => hend listed a w hsz hI hr, fun i hi => ?_⟩
    obtain ⟨h1, h2, h3⟩ := ready_mem hi
    have hli := getD_lt h2
    have hs1 := hs _ a w i ops[i] hI (by rw [hsame listed i hli]; exact h2) (Array.getElem?_eq_getElem h1) (h3 _ (Array.getElem?_eq_getElem h1))
    have hk : ∀ a' w', I (fun j => if i = j then true else listed.getD j false) a' w' → True ∧ wpAnyH P md ops Q (fun _ => True) fuel (listed.setIfInBounds i true) a' w' := by
      intro a' w' hI'
      refine ⟨trivial, ih _ a' w' (by simpa using hsz) ?_ ?_⟩
      · have : left ops.size (listed.setIfInBounds i true) < left ops.size listed := by
          refine countP_less _ i (fun j hj => ?_) (List.mem_range.2 h1) (by simp [h2]) (by simp [getD_set hli])
          rw [getD_set hli] at hj
          by_cases e : i = j
          · simp [e] at hj
          · simpa [e] using hj
        omega
      · have : (fun j => (listed.setIfInBounds i true).getD j false) = fun j => if i = j then true else listed.getD j false := funext fun j => getD_set hli j false
        rw [this]
        exact hI'
    exact wpOp_mono hk hs1
end Go.Proofs.YtgaofnmgdefdcaaGreatDoor.Ao

namespace Go.Proofs.YtgaofnmgdefdcaaGreatDoor.Ao

theorem wpAnyH_invS {P : Program} {md : Region.Mode} {ops : Array Oper} {Q : Exit → Act → World → Prop} {S : World → Prop} (I : (Nat → Bool) → Act → World → Prop)
    (hS : ∀ (L : Nat → Bool) (a : Act) (w : World), I L a w → S w)
    (hs : ∀ (L : Nat → Bool) (a : Act) (w : World) (i : Nat) (o : Oper), I L a w → L i = false → ops[i]? = some o → (o.after.all fun e => !Region.binds md e || L e.on) = true →
      wpOp P ops Q i (I (fun j => if i = j then true else L j)) a w)
    (he : ∀ (L : Nat → Bool) (a : Act) (w : World), I L a w → (∀ i, i < ops.size → L i = false → ∃ o, ops[i]? = some o ∧ (o.after.all fun e => !Region.binds md e || L e.on) = false) → Q .normal a w) :
    ∀ (fuel : Nat) (listed : Array Bool) (a : Act) (w : World), listed.size = ops.size → left ops.size listed ≤ fuel → I (fun j => listed.getD j false) a w → wpAnyH P md ops Q S fuel listed a w := by
  have hsame : ∀ (listed : Array Bool) (i : Nat), i < listed.size → listed.getD i false = listed.getD i true := by
    intro listed i hi
    simp [Array.getD_eq_getD_getElem?, hi]
  have hend : ∀ (listed : Array Bool) (a : Act) (w : World), listed.size = ops.size → I (fun j => listed.getD j false) a w → Region.ready md ops listed = [] → Q .normal a w := by
    intro listed a w hsz hI hr
    refine he _ a w hI fun i hi hL => ?_
    refine ⟨ops[i], Array.getElem?_eq_getElem hi, ?_⟩
    cases hb : (ops[i].after.all fun e => !Region.binds md e || listed.getD e.on false) with
    | false => rfl
    | true =>
      have : i ∈ Region.ready md ops listed := by
        unfold Region.ready
        rw [List.mem_filter, List.mem_range]
        refine ⟨hi, ?_⟩
        rw [Array.getElem?_eq_getElem hi]
        simp only [Option.map_some, Option.getD_some, hb, Bool.and_true, Bool.not_eq_true']
        rw [← hsame listed i (by omega)]
        exact hL
      rw [hr] at this
      cases this
  intro fuel
  induction fuel with
  | zero =>
    intro listed a w hsz hf hI
    have hr : Region.ready md ops listed = [] := by
      cases hq : Region.ready md ops listed with
      | nil => rfl
      | cons i rs =>
        obtain ⟨h1, h2, _⟩ := ready_mem (i := i) (md := md) (ops := ops) (listed := listed) (by rw [hq]; simp)
        have : 0 < left ops.size listed := List.countP_pos_iff.2 ⟨i, List.mem_range.2 h1, by simp [h2]⟩
        omega
    exact ⟨hr, hend listed a w hsz hI hr⟩
  | succ fuel ih =>
    intro listed a w hsz hf hI
    refine ⟨fun hr => hend listed a w hsz hI hr, fun i hi => ?_⟩
    obtain ⟨h1, h2, h3⟩ := ready_mem hi
    have hli := getD_lt h2
    have hs1 := hs _ a w i ops[i] hI (by rw [hsame listed i hli]; exact h2) (Array.getElem?_eq_getElem h1) (h3 _ (Array.getElem?_eq_getElem h1))
    have hk : ∀ a' w', I (fun j => if i = j then true else listed.getD j false) a' w' → S w' ∧ wpAnyH P md ops Q S fuel (listed.setIfInBounds i true) a' w' := by
      intro a' w' hI'
      refine ⟨hS _ _ _ hI', ih _ a' w' (by simpa using hsz) ?_ ?_⟩
      · have : left ops.size (listed.setIfInBounds i true) < left ops.size listed := by
          refine countP_less _ i (fun j hj => ?_) (List.mem_range.2 h1) (by simp [h2]) (by simp [getD_set hli])
          rw [getD_set hli] at hj
          by_cases e : i = j
          · simp [e] at hj
          · simpa [e] using hj
        omega
      · have : (fun j => (listed.setIfInBounds i true).getD j false) = fun j => if i = j then true else listed.getD j false := funext fun j => getD_set hli j false
        rw [this]
        exact hI'
    exact wpOp_mono hk hs1
/-- What holds of every world from now on may be taken narrower. -/
theorem wpAnyH_as {P : Program} {md : Region.Mode} {ops : Array Oper} {Q : Exit → Act → World → Prop} {S S' : World → Prop} (h : ∀ w, S' w → S w) :
    ∀ (fuel : Nat) (listed : Array Bool) (a : Act) (w : World), wpAnyH P md ops Q S' fuel listed a w → wpAnyH P md ops Q S fuel listed a w
  | 0, _, _, _, hx => hx
  | fuel + 1, _, _, _, hx => ⟨hx.1, fun i hi => wpOp_mono (fun a' w' hh => ⟨h _ hh.1, wpAnyH_as h fuel _ a' w' hh.2⟩) (hx.2 i hi)⟩
/-- Values of chosen slots. -/
def puts (a : Act) : List Tmp → List Value → Act
  | d :: ds, v :: vs => puts (a.put (some d) v) ds vs
  | _, _ => a
theorem wpAnyH_vals {P : Program} {md : Region.Mode} {ops : Array Oper} {Q : Exit → Act → World → Prop} {S : World → Prop} {a : Act} {w : World} {fuel : Nat} {listed : Array Bool} (ds : List Tmp) (vs0 : List Value) (J : (Nat → Bool) → List Value → World → Prop)
    (ha : puts a ds vs0 = a)
    (hsz : listed.size = ops.size) (hf : left ops.size listed ≤ fuel)
    (hac : ((List.range ops.size).all fun i => ((ops[i]?).map fun o => o.after.all fun e => decide (e.on < i)).getD true) = true)
    (h0 : J (fun j => listed.getD j false) vs0 w)
    (hS : ∀ (L : Nat → Bool) (vs : List Value) (w : World), J L vs w → S w)
    (hs : ∀ (L : Nat → Bool) (vs : List Value) (w : World) (i : Nat) (o : Oper), J L vs w → L i = false → ops[i]? = some o → (o.after.all fun e => !Region.binds md e || L e.on) = true →
      wpOp P ops Q i (fun a' w' => ∃ vs', a' = puts a ds vs' ∧ J (fun j => if i = j then true else L j) vs' w') (puts a ds vs) w)
    (he : ∀ (L : Nat → Bool) (vs : List Value) (w : World), J L vs w → (∀ i, i < ops.size → L i = true) → Q .normal (puts a ds vs) w) :
    wpAnyH P md ops Q S fuel listed a w := by
  refine wpAnyH_invS (fun L a' w' => ∃ vs, a' = puts a ds vs ∧ J L vs w') (fun L a' w' ⟨vs, _, hJ⟩ => hS L vs w' hJ) ?_ ?_ fuel listed a w hsz hf ⟨vs0, ha.symm, h0⟩
  · rintro L a' w' i o ⟨vs, rfl, hJ⟩ hL ho hall
    exact hs L vs w' i o hJ hL ho hall
  · rintro L a' w' ⟨vs, rfl, hJ⟩ hn
    refine he L vs w' hJ ?_
    intro i
    induction i using Nat.strongRecOn with
    | _ i ih =>
      intro hi
      cases hL : L i with
      | true => rfl
      | false =>
        obtain ⟨o, ho, hfa⟩ := hn i hi hL
        have h1 := List.all_eq_true.1 hac i (List.mem_range.2 hi)
        rw [ho] at h1
        simp only [Option.map_some, Option.getD_some] at h1
        have : (o.after.all fun e => !Region.binds md e || L e.on) = true := by
          rw [Array.all_eq_true] at h1 ⊢
          intro k hk
          have h2 := of_decide_eq_true (h1 k hk)
          rw [ih _ h2 (by omega), Bool.or_true]
        rw [this] at hfa
        cases hfa
end Go.Proofs.YtgaofnmgdefdcaaGreatDoor.Ao

namespace Go.Proofs.YtgaofnmgdefdcaaGreatDoor.Qm
open Go.RowKit Go.Proofs.YtgaofnmgdefdcaaGreatDoor.Gen Go.Proofs.YtgaofnmgdefdcaaGreatDoor.Hu Go.Proofs.YtgaofnmgdefdcaaGreatDoor.Mp Go.Proofs.YtgaofnmgdefdcaaGreatDoor.Cm Go.Proofs.YtgaofnmgdefdcaaGreatDoor.Hr Go.Proofs.YtgaofnmgdefdcaaGreatDoor.Hn Go.Proofs.YtgaofnmgdefdcaaGreatDoor.Hk Go.Proofs.YtgaofnmgdefdcaaGreatDoor.Ln Go.Proofs.YtgaofnmgdefdcaaGreatDoor.Ds Go.Proofs.YtgaofnmgdefdcaaGreatDoor.Ky Go.Proofs.YtgaofnmgdefdcaaGreatDoor.Wr Go.Proofs.YtgaofnmgdefdcaaGreatDoor.Ib Go.Proofs.YtgaofnmgdefdcaaGreatDoor.Bp Go.Proofs.YtgaofnmgdefdcaaGreatDoor.Qh Go.Proofs.YtgaofnmgdefdcaaGreatDoor.Qs Go.Proofs.YtgaofnmgdefdcaaGreatDoor.Qc Go.Proofs.YtgaofnmgdefdcaaGreatDoor.It Go.Proofs.YtgaofnmgdefdcaaGreatDoor.Qi Go.Proofs.YtgaofnmgdefdcaaGreatDoor.Qu Go.Proofs.YtgaofnmgdefdcaaGreatDoor.Qn Go.Proofs.YtgaofnmgdefdcaaGreatDoor.Bq

theorem numOf_wf {N wh : Int} {d : D} (hd : chkI d = 0) (hN : -9223372036854775808 ≤ N ∧ N ≤ 9223372036854775807) : (Lit.int .i64 (numOf N wh d)).wf = true := by
  have hr : -9223372036854775808 ≤ numOf N wh d ∧ numOf N wh d ≤ 9223372036854775807 := by
    unfold numOf
    split
    · exact hN
    · split
      · rename_i h3
        have hw : newE d.L = 0 := by simpa [chkI, h3] using hd
        rcases Nat.lt_or_ge (wh % d.L.length).toNat d.L.length with h | h
        · have := newE_in hw (d.L.getD (wh % d.L.length).toNat (0, 0)) (by rw [List.getD_eq_getElem?_getD, List.getElem?_eq_getElem h]; exact List.getElem_mem h)
          omega
        · rw [List.getD_eq_getElem?_getD, List.getElem?_eq_none h]
          simp
      · split
        · rename_i h6
          rcases chkI_in hd with h | h | h
          · omega
          · omega
          · obtain ⟨b, hb⟩ := Int.eq_ofNat_of_zero_le h.2.2.1
            have h31 : b ≤ 31 := by have := h.2.2.2; omega
            have h0 := Int.emod_nonneg (N % 4294967296) (show (2 : Int) ^ d.bi.toNat ≠ 0 by exact Int.ne_of_gt (Int.pow_pos (by decide)))
            have h1 := Int.emod_lt_of_pos (N % 4294967296) (show (0 : Int) < 4294967296 by decide)
            have h2 : N % 4294967296 % 2 ^ d.bi.toNat ≤ N % 4294967296 := by
              have hp : (0 : Int) < 2 ^ d.bi.toNat := Int.pow_pos (by decide)
              have := Int.emod_nonneg N (show (4294967296 : Int) ≠ 0 by decide)
              have h5 := Int.emod_add_mul_ediv (N % 4294967296) (2 ^ d.bi.toNat)
              have h6 : 0 ≤ 2 ^ d.bi.toNat * (N % 4294967296 / 2 ^ d.bi.toNat) := Int.mul_nonneg (Int.le_of_lt hp) (Int.ediv_nonneg this (Int.le_of_lt hp))
              omega
            have := h.2.1
            omega
        · omega
  have hm : IntKind.i64.min = -9223372036854775808 ∧ IntKind.i64.max = 9223372036854775807 := by decide
  simp [Lit.wf, hm.1, hm.2]
  omega
theorem own_at {w : World} {base n c : Nat} {e : TypeId} {A : Option Addr} {xs : List Value} (h : w.ownsRow base e 1 (.slice A n c) n xs) (hn : 0 < n) : ∃ g, A = some ⟨g, 0, none⟩ ∧ ∀ j u, xs[j]? = some u → w.cell? ⟨g, j, none⟩ = some u := by
  have h' := h
  rcases h.2 with ⟨_, h0⟩ | ⟨g, cap, cur, hv, hb, hh, _⟩
  · omega
  · injection hv with hv _ _
    refine ⟨g, hv, fun j u hu => ?_⟩
    have := h'.cells (g := g) (by rw [hv]; rfl) j u hu
    rw [add_none, Nat.zero_add] at this
    exact this
theorem bnums_lt {G : Gs} {s t a b : Nat} (hst : s < t) (ha : (bnums G)[s]? = some a) (hb : (bnums G)[t]? = some b) : a < b := by
  have hp : (bnums G).Pairwise (· < ·) := List.Pairwise.filter _ List.pairwise_lt_range
  obtain ⟨h1, e1⟩ := List.getElem?_eq_some_iff.1 ha
  obtain ⟨h2, e2⟩ := List.getElem?_eq_some_iff.1 hb
  have := (List.pairwise_iff_getElem.1 hp) s t h1 h2 hst
  rw [e1, e2] at this
  exact this
theorem bnums_mem {G : Gs} {i : Nat} (h : i ∈ bnums G) : i < 60001 ∧ (G i).isSome = true := by
  unfold bnums at h
  simpa using h
theorem exec_len {P : Program} {ρ : Operand → Value} {o : Oper} {w : World} (x : Operand) (t : TypeId) (ho : o.op = .call { callee := .builtin .len, args := #[x], argTypes := #[t] }) {v n : Value} (hx : ρ x = v) (h : ∀ ty, (Builtin.len_ #[t] ty #[v]).run P w = .ok n w) : (execOp ρ o).run P w = .ok (.value n) w := by
  unfold execOp
  simp only [ho, resolve, invoke, builtin, Sem.run_bind, Sem.run_pure, Result.andThen_ok, List.map_toArray, List.map_cons, List.map_nil, hx, h]
theorem Pm.start {w1 w2 : World} (hq : Ql (· = w1.heap.size) w1.heap.size w1.heap.size [] (fun _ => none) 0 w2) (hk : Keeps (fun _ => False) w1 w2) :
    Pm w1 w1.heap.size (w2.heap.size + 1) w2.heap.size ([], fun _ => none) ([], fun _ => none) 0 ((w2.alloc (.map #[] 0)).alloc (.cells #[.slice none 0 0, .map (some w2.heap.size)] 31)).heap.size ((w2.alloc (.map #[] 0)).alloc (.cells #[.slice none 0 0, .map (some w2.heap.size)] 31)) := by
  have k2 : Keeps (fun _ => False) w2 ((w2.alloc (.map #[] 0)).alloc (.cells #[.slice none 0 0, .map (some w2.heap.size)] 31)) := ((Keeps.refl _ _).alloc _).alloc _
  have e1 : (w2.alloc (.map #[] 0)).heap.size = w2.heap.size + 1 := by simp
  have e2 : ((w2.alloc (.map #[] 0)).alloc (.cells #[.slice none 0 0, .map (some w2.heap.size)] 31)).heap.size = w2.heap.size + 2 := by simp
  have hql := hq.lt _ rfl
  refine ⟨⟨(· = w1.heap.size), fun _ => none, 0, fun k => if k = w2.heap.size + 1 then some 0 else if k = w2.heap.size then some 1 else none, none, 0, fun _ => none, fun _ => 0, hq.more k2, rfl, ⟨fun k x hx => ?_, ?_, if_pos rfl, ?_, World.ownsRow_nil _ _ _ _, fun b hb => by simp [Value.ownBlock] at hb, ?_, fun i l h => by cases h⟩, fun k hk => ?_, Nat.le_refl _, fun k y hy => ?_⟩, ⟨by simp, by simp⟩, fun i => ⟨by simp [hadP], by simp [hadP]⟩, (hk.trans k2).mono fun _ _ hf => hf.elim⟩
  · rw [e2]
    have := hk.size
    have hx : (if k = w2.heap.size + 1 then some 0 else if k = w2.heap.size then some 1 else none) = some x := hx
    split at hx
    · omega
    · split at hx
      · omega
      · cases hx
  · have := Blk.new (w2.alloc (.map #[] 0)) 31 #[.slice none 0 0, .map (some w2.heap.size)]
    rw [e1] at this
    exact this
  · simp
  · exact (IsF.new Tryz.prog 3 60001 ikl w2).keeps ((Keeps.refl (fun _ => False) _).alloc _) id
  · have hk : k = w1.heap.size := hk
    show (if k = w2.heap.size + 1 then some 0 else if k = w2.heap.size then some 1 else none) = none
    rw [if_neg (by omega), if_neg (by omega)]
  · rw [e2]
    have hy : (if k = w2.heap.size + 1 then some 0 else if k = w2.heap.size then some 1 else none) = some y := hy
    split at hy
    · omega
    · split at hy
      · omega
      · cases hy

set_option maxHeartbeats 32000000 in
set_option maxRecDepth 100000 in
theorem puts_ (fs : Nat → Ac) (fw : Nat → Sm) (fa : Nat → Option Addr) (fc : Nat → Nat) (A1 A2 : Option Addr) (n1 n2 c1 c2 b1 b2 o1 o2 : Nat) (w : World) (ht : Tab w.heap.size w)
    (h1 : Acts w A1 n1 fs b1 o1) (h2 : Ways w A2 n2 fw fa fc b2 o2) :
    Calls Tryz.prog 3 #[.slice A2 n2 c2, .slice A1 n1 c1] w fun r w' => r = .returned (.bool true) ∧ Keeps (fun _ => False) w w' := by
  have hmm := @run_makeMap Tryz.prog
  have HT := Lib.hid ht
  have H1 := Lib.hid h1
  have H2 := Lib.hid h2
  have HAW := Lib.hid (Qu.awake w ht)
  clear ht h1 h2
  go_enter Tryz.func3, Tryz.ntmps3
  go_wp2_with fail
  refine HAW.out.mono ?_
  rintro r w1 ⟨rfl, hk1⟩
  have HK1 := Lib.hid hk1
  have HT1 := Lib.hid (Tab_rise (HT.out.more (Nat.le_refl _) hk1) hk1.size)
  have HS1 : Hid (w.heap.size ≤ w1.heap.size) := hk1.size
  clear hk1 HAW HT
  by_cases hn2 : (n2 : Int) < 1
  · go_wp2
    go_ret
    exact ⟨rfl, HK1.out⟩
  by_cases hn3 : (8 : Int) < (n2 : Int)
  · go_wp2
    go_ret
    exact ⟨rfl, HK1.out⟩
  by_cases hn1 : (60 : Int) < (n1 : Int)
  · go_wp2
    go_ret
    exact ⟨rfl, HK1.out⟩
  have HNN : Hid (n1 ≤ 60 ∧ 1 ≤ n2 ∧ n2 ≤ 8) := by show _ ∧ _; omega
  obtain ⟨hA2, hb2⟩ := H2.out.at_ (by omega)
  subst hA2
  have HB2 := Lib.hid hb2
  go_wp2_with fail
  clear hn1 hn2 hn3 hb2
  refine (new_q w1.heap.size w1 (Nat.le_refl _)).mono ?_
  rintro r w2 ⟨rfl, hq2, hs2⟩
  have HP0 := Lib.hid (Pm.start hq2 hs2.keeps)
  obtain ⟨q, hq⟩ : ∃ q, q = w1.heap.size := ⟨_, rfl⟩
  obtain ⟨mb, hmb⟩ : ∃ m, m = w2.heap.size := ⟨_, rfl⟩
  obtain ⟨g, hg⟩ : ∃ g, g = mb + 1 := ⟨_, rfl⟩
  obtain ⟨W3, hW3⟩ : ∃ W, W = (w2.alloc (.map #[] 0)).alloc (.cells #[.slice none 0 0, .map (some w2.heap.size)] 31) := ⟨_, rfl⟩
  have HP : Hid (Pm w1 q g mb ([], fun _ => none) ([], fun _ => none) 0 W3.heap.size W3) := by
    rw [hg, hmb, hq, hW3]
    exact HP0
  go_upto_region 7 with fail
  rw [← hmb] at hW3
  rw [← hq, ← hmb, ← hg, ← hW3]
  clear hq2 hs2 HP0 hq hmb hg hW3
  go_wp2
  go_loopw [38] (fun iv wr => ∃ (j : Nat) (p : St), iv = .int .i64 (j : Int) ∧ j ≤ n1 ∧ Hid (Pm w1 q g mb p p (2 * j) wr.heap.size wr)) (fun iv _ => n1 - (intOf iv).toNat)
  case atStart => exact ⟨0, _, rfl, by omega, HP⟩
  case round =>
    obtain ⟨j, p, rfl, hj, HPM⟩ := hrel
    clear HP
    by_cases hlt : j < n1
    · obtain ⟨wb, rfl⟩ : ∃ x, x = wr := ⟨_, rfl⟩
      obtain ⟨hA1, hb1⟩ := H1.out.at_ (by omega)
      subst hA1
      have hKw : Keeps (w.heap.size ≤ ·) w wb := (HK1.out.mono fun _ _ hf => hf.elim).trans (HPM.out.keeps.mono fun k _ hf => Nat.le_trans HS1.out hf)
      have hac := (H1.out.keeps hKw).cell j hlt
      have haok := (H1.out.keeps hKw).ok j hlt
      have hlow := (H1.out.ok j hlt).low
      obtain ⟨a, ha⟩ : ∃ a, fs j = a := ⟨_, rfl⟩
      rw [ha] at hac haok hlow
      have hj0 : (0 : Int) ≤ (j : Int) := by omega
      have hj1 : (j : Int) < (n1 : Int) := by omega
      have hjw : IntKind.i64.wrap ((j : Int) + 1) = (j : Int) + 1 := IntWalk.i64_in _ (by have := HNN.out; omega)
      have HGW : Hid (b2 < wb.heap.size) := Nat.lt_of_lt_of_le HB2.out hKw.size
      have HKB := Lib.hid (HPM.out.all HK1.out)
      have HJ3 : Hid (2 * j + 1 ≤ 300) := by show _ ≤ _; have := HNN.out; omega
      clear ha
      obtain ⟨hrem, hk⟩ := wayAt_lt (a := a) (n := n2) haok.way.1 (by have := HNN.out; omega)
      obtain ⟨k, hkk⟩ : ∃ k, wayAt a n2 = k := ⟨_, rfl⟩
      rw [hkk] at hrem hk
      have hsc := (H2.out.keeps hKw).cell k hk
      have hsok := H2.out.ok k hk
      obtain ⟨sm, hsm⟩ : ∃ sm, fw k = sm := ⟨_, rfl⟩
      obtain ⟨As, hAs⟩ : ∃ As, fa k = As := ⟨_, rfl⟩
      obtain ⟨cs, hcs⟩ : ∃ cs, fc k = cs := ⟨_, rfl⟩
      rw [hsm, hAs, hcs] at hsc
      rw [hsm] at hsok
      clear hkk hsm hAs hcs
      obtain ⟨way, N, wh, Ab, nb, cb, arr, bs⟩ := a
      have HAO := Lib.hid haok
      have HSO := Lib.hid hsok
      have HLOW := Lib.hid hlow
      obtain ⟨sK, sbi, sB, sle, sn, sS, sst⟩ := sm
      have hway := haok.way
      simp only at hway hrem
      have e0 := hac 0 (by omega)
      have e1 := hac 1 (by omega)
      have e2 := hac 2 (by omega)
      have e3 := hac 3 (by omega)
      have e4 := hac 4 (by omega)
      have g0 := hsc 0 (by omega)
      have g1 := hsc 1 (by omega)
      have g2 := hsc 2 (by omega)
      have g3 := hsc 3 (by omega)
      have g4 := hsc 4 (by omega)
      have g5 := hsc 5 (by omega)
      have g6 := hsc 6 (by omega)
      unfold Ac.v actv at e0 e1 e2 e3 e4
      unfold Sm.v at g0 g1 g2 g3 g4 g5 g6
      simp only [List.getElem?_toArray, List.getElem?_cons_zero, List.getElem?_cons_succ, Nat.add_zero] at e0 e1 e2 e3 e4 g0 g1 g2 g3 g4 g5 g6
      have HFAR : Hid (∀ o' : Obj, ∀ y, (wb.alloc o').cell? ⟨b2, y, none⟩ = wb.cell? ⟨b2, y, none⟩) := fun o' y => World.cell?_of_block (w := wb) (Below.heap_alloc wb o' b2 HGW.out)
      have q0 := (HFAR.out (.cells #[.int .u8 way, .int .i64 N, .int .u8 wh, .slice Ab nb cb, .bool arr] 33) _).trans g0
      have q1 := (HFAR.out (.cells #[.int .u8 way, .int .i64 N, .int .u8 wh, .slice Ab nb cb, .bool arr] 33) _).trans g1
      have q2 := (HFAR.out (.cells #[.int .u8 way, .int .i64 N, .int .u8 wh, .slice Ab nb cb, .bool arr] 33) _).trans g2
      have q3 := (HFAR.out (.cells #[.int .u8 way, .int .i64 N, .int .u8 wh, .slice Ab nb cb, .bool arr] 33) _).trans g3
      have q4 := (HFAR.out (.cells #[.int .u8 way, .int .i64 N, .int .u8 wh, .slice Ab nb cb, .bool arr] 33) _).trans g4
      have q5 := (HFAR.out (.cells #[.int .u8 way, .int .i64 N, .int .u8 wh, .slice Ab nb cb, .bool arr] 33) _).trans g5
      have q6 := (HFAR.out (.cells #[.int .u8 way, .int .i64 N, .int .u8 wh, .slice Ab nb cb, .bool arr] 33) _).trans g6
      have hww : IntKind.i64.wrap way = way := IntWalk.i64_in _ (by omega)
      have hn2e : ¬ ((n2 : Int) = 0) := by have := HNN.out; omega
      have hn2f : ¬ n2 = 0 := by have := HNN.out; omega
      have hk0 : (0 : Int) ≤ (k : Int) := by omega
      have hk1 : (k : Int) < (n2 : Int) := by omega
      clear hac hsc haok hsok hlow g0 g1 g2 g3 g4 g5 g6
      clear hKw hb1
      by_cases hnb : (100 : Int) < (nb : Int)
      · go_wp2
        go_ret
        exact ⟨rfl, HKB.out.trans ((Keeps.refl _ _).alloc _)⟩
      by_cases hsn : (100 : Int) < (sn : Int)
      · go_wp2
        go_ret
        exact ⟨rfl, HKB.out.trans ((Keeps.refl _ _).alloc _)⟩
      go_upto_region 13 with fail
      have HB1 : Hid (Blk ((wb.alloc (.cells #[.int .u8 way, .int .i64 N, .int .u8 wh, .slice Ab nb cb, .bool arr] 33)).alloc (.cells #[.int .u8 sK, .int .u8 sbi, .int .u16 sB, .int .i16 sle, .slice As sn cs, .int .u8 sS, .bool sst] 37)) wb.heap.size 33 #[.int .u8 way, .int .i64 N, .int .u8 wh, .slice Ab nb cb, .bool arr]) := Lib.hid ((Blk.new wb 33 _).keeps ((Keeps.refl (fun _ => False) _).alloc _) id)
      have HB2 : Hid (Blk ((wb.alloc (.cells #[.int .u8 way, .int .i64 N, .int .u8 wh, .slice Ab nb cb, .bool arr] 33)).alloc (.cells #[.int .u8 sK, .int .u8 sbi, .int .u16 sB, .int .i16 sle, .slice As sn cs, .int .u8 sS, .bool sst] 37)) (wb.heap.size + 1) 37 #[.int .u8 sK, .int .u8 sbi, .int .u16 sB, .int .i16 sle, .slice As sn cs, .int .u8 sS, .bool sst]) := by
        have := Blk.new (wb.alloc (.cells #[.int .u8 way, .int .i64 N, .int .u8 wh, .slice Ab nb cb, .bool arr] 33)) 37 #[.int .u8 sK, .int .u8 sbi, .int .u16 sB, .int .i16 sle, .slice As sn cs, .int .u8 sS, .bool sst]
        have e1 : (wb.alloc (.cells #[.int .u8 way, .int .i64 N, .int .u8 wh, .slice Ab nb cb, .bool arr] 33)).heap.size = wb.heap.size + 1 := by simp
        rw [e1] at this
        exact this
      have HK8 : Hid (Keeps (fun _ => False) wb ((wb.alloc (.cells #[.int .u8 way, .int .i64 N, .int .u8 wh, .slice Ab nb cb, .bool arr] 33)).alloc (.cells #[.int .u8 sK, .int .u8 sbi, .int .u16 sB, .int .i16 sle, .slice As sn cs, .int .u8 sS, .bool sst] 37))) := Lib.hid (((Keeps.refl _ _).alloc _).alloc _)
      generalize (wb.alloc (.cells #[.int .u8 way, .int .i64 N, .int .u8 wh, .slice Ab nb cb, .bool arr] 33)).alloc (.cells #[.int .u8 sK, .int .u8 sbi, .int .u16 sB, .int .i16 sle, .slice As sn cs, .int .u8 sS, .bool sst] 37) = W at HB1 HB2 HK8 ⊢
      clear HFAR q0 q1 q2 q3 q4 q5 q6 e0 e1 e2 e3 e4
      obtain ⟨ga, hga⟩ : ∃ g, wb.heap.size = g := ⟨_, rfl⟩
      obtain ⟨gs, hgs⟩ : ∃ g, ga + 1 = g := ⟨_, rfl⟩
      rw [hga, hgs] at HB2 ⊢
      rw [hga] at HB1
      have HGA : Hid (wb.heap.size ≤ ga ∧ wb.heap.size ≤ gs ∧ ga < W.heap.size ∧ gs < W.heap.size) := ⟨by omega, by omega, HB1.out.lt, HB2.out.lt⟩
      clear hga hgs
      have HG : Hid (∀ W1, Keeps (fun _ => False) W W1 → (W1.cell? ⟨gs, 0, none⟩ = some (.int .u8 sK) ∧ W1.cell? ⟨gs, 1, none⟩ = some (.int .u8 sbi) ∧ W1.cell? ⟨gs, 2, none⟩ = some (.int .u16 sB) ∧ W1.cell? ⟨gs, 3, none⟩ = some (.int .i16 sle) ∧ W1.cell? ⟨gs, 4, none⟩ = some (.slice As sn cs) ∧ W1.cell? ⟨gs, 5, none⟩ = some (.int .u8 sS) ∧ W1.cell? ⟨gs, 6, none⟩ = some (.bool sst) ∧ W1.cell? ⟨ga, 0, none⟩ = some (.int .u8 way) ∧ W1.cell? ⟨ga, 1, none⟩ = some (.int .i64 N) ∧ W1.cell? ⟨ga, 2, none⟩ = some (.int .u8 wh) ∧ W1.cell? ⟨ga, 3, none⟩ = some (.slice Ab nb cb) ∧ W1.cell? ⟨ga, 4, none⟩ = some (.bool arr))) := by
        intro W1 k
        have h0 := HB2.out.keeps k id
        have h1 := HB1.out.keeps k id
        exact ⟨h0.cell 0, h0.cell 1, h0.cell 2, h0.cell 3, h0.cell 4, h0.cell 5, h0.cell 6, h1.cell 0, h1.cell 1, h1.cell 2, h1.cell 3, h1.cell 4⟩
      have HGF : Hid (∀ (W2 W1 : World), Keeps (fun _ => False) W W1 → (∀ g, wb.heap.size ≤ g → g < W1.heap.size → ∀ i, W2.cell? ⟨g, i, none⟩ = W1.cell? ⟨g, i, none⟩) → (W2.cell? ⟨gs, 0, none⟩ = some (.int .u8 sK) ∧ W2.cell? ⟨gs, 1, none⟩ = some (.int .u8 sbi) ∧ W2.cell? ⟨gs, 2, none⟩ = some (.int .u16 sB) ∧ W2.cell? ⟨gs, 3, none⟩ = some (.int .i16 sle) ∧ W2.cell? ⟨gs, 4, none⟩ = some (.slice As sn cs) ∧ W2.cell? ⟨gs, 5, none⟩ = some (.int .u8 sS) ∧ W2.cell? ⟨gs, 6, none⟩ = some (.bool sst) ∧ W2.cell? ⟨ga, 0, none⟩ = some (.int .u8 way) ∧ W2.cell? ⟨ga, 1, none⟩ = some (.int .i64 N) ∧ W2.cell? ⟨ga, 2, none⟩ = some (.int .u8 wh) ∧ W2.cell? ⟨ga, 3, none⟩ = some (.slice Ab nb cb) ∧ W2.cell? ⟨ga, 4, none⟩ = some (.bool arr))) := by
        intro W2 W1 k hf
        obtain ⟨q1, q2, q3, q4⟩ := HGA.out
        have ea := hf ga q1 (Nat.lt_of_lt_of_le q3 k.size)
        have es := hf gs q2 (Nat.lt_of_lt_of_le q4 k.size)
        rw [es 0, es 1, es 2, es 3, es 4, es 5, es 6, ea 0, ea 1, ea 2, ea 3, ea 4]
        exact HG.out W1 k
      have HGX : Hid (∀ W2, Keeps (fun x => w1.heap.size ≤ x ∧ x < wb.heap.size) W W2 → (W2.cell? ⟨gs, 0, none⟩ = some (.int .u8 sK) ∧ W2.cell? ⟨gs, 1, none⟩ = some (.int .u8 sbi) ∧ W2.cell? ⟨gs, 2, none⟩ = some (.int .u16 sB) ∧ W2.cell? ⟨gs, 3, none⟩ = some (.int .i16 sle) ∧ W2.cell? ⟨gs, 4, none⟩ = some (.slice As sn cs) ∧ W2.cell? ⟨gs, 5, none⟩ = some (.int .u8 sS) ∧ W2.cell? ⟨gs, 6, none⟩ = some (.bool sst) ∧ W2.cell? ⟨ga, 0, none⟩ = some (.int .u8 way) ∧ W2.cell? ⟨ga, 1, none⟩ = some (.int .i64 N) ∧ W2.cell? ⟨ga, 2, none⟩ = some (.int .u8 wh) ∧ W2.cell? ⟨ga, 3, none⟩ = some (.slice Ab nb cb) ∧ W2.cell? ⟨ga, 4, none⟩ = some (.bool arr))) := by
        intro W2 k
        obtain ⟨q1, q2, q3, q4⟩ := HGA.out
        have h0 := HB2.out.keeps k (fun h => by omega)
        have h1 := HB1.out.keeps k (fun h => by omega)
        exact ⟨h0.cell 0, h0.cell 1, h0.cell 2, h0.cell 3, h0.cell 4, h0.cell 5, h0.cell 6, h1.cell 0, h1.cell 1, h1.cell 2, h1.cell 3, h1.cell 4⟩
      obtain ⟨x0, x1, x2, x3, x4, x5, x6, y0, y1, y2, y3, y4⟩ := HG.out W (Keeps.refl _ _)
      have HNB : Hid (nb ≤ 100) := by show nb ≤ 100; omega
      have hci := (Sm.I_ok HSO.out).1
      have hca := (Sm.A_ok HSO.out).1
      have hfi := fits_I HSO.out
      have hfa := fits_A HSO.out
      have has := A_S HSO.out
      have HCI1 := Lib.hid (fun W => ints_ ⟨sK, sbi, sB, sle, sn, sS, sst⟩ As cs W HSO.out)
      have HCA := Lib.hid (fun W => arrays_ ⟨sK, sbi, sB, sle, sn, sS, sst⟩ As cs W HSO.out)
      obtain ⟨dI, hdI⟩ : ∃ d, (⟨sK, sbi, sB, sle, sn, sS, sst⟩ : Sm).I = d := ⟨_, rfl⟩
      obtain ⟨dA, hdA⟩ : ∃ d, (⟨sK, sbi, sB, sle, sn, sS, sst⟩ : Sm).A = d := ⟨_, rfl⟩
      rw [hdI] at hci hfi HCI1
      rw [hdA] at hca hfa has HCA
      have HCKI := Lib.hid hci
      have HCKA := Lib.hid hca
      have HAS := Lib.hid has
      have HE2 : Hid (bs ≠ [] → ∀ b o, Ab = some ⟨b, o, none⟩ → b < w1.heap.size) := fun h b o e => Nat.lt_of_lt_of_le (HLOW.out h b o e) HS1.out
      have HLA : Hid (∀ W1, Keeps (fun _ => False) wb W1 → Lies W1 Ab bs) := fun W1 k => HAO.out.lies.keeps k fun _ _ _ => id
      have HLW : Hid (∀ w8 w9, Keeps (fun x => w1.heap.size ≤ x ∧ x < wb.heap.size) w8 w9 → Lies w8 Ab bs → Lies w9 Ab bs) := fun w8 w9 k hl => by
        by_cases hb0 : bs = []
        · exact .inl hb0
        · exact hl.keeps k fun b o e h => by have := HE2.out hb0 b o e; omega
      have HQI := Lib.hid (fun (x : Int) (hx : (Lit.int .i64 x).wf = true) (A : Option Addr) (n c : Nat) (W1 : World) (k : Keeps (fun _ => False) wb W1) (hL : Ents W1 A n dI.L) (hE : ∀ b o, A = some ⟨b, o, none⟩ → wb.heap.size ≤ b) => HPM.out.qint (d := dI) (c := c) (x := x) k HT1.out (by have := HNN.out; omega) hx hL hfi (fun _ => hE))
      have HQA := Lib.hid (fun (A : Option Addr) (n c : Nat) (W1 : World) (k : Keeps (fun _ => False) wb W1) (hL : Ents W1 A n dA.d.L) (hE : ∀ b o, A = some ⟨b, o, none⟩ → wb.heap.size ≤ b) (hl : Lies W1 Ab bs) => HPM.out.qarr (d := dA) (c := c) (A2 := Ab) (bs := bs) (m := nb) (c2 := cb) k HT1.out (by have := HNN.out; omega) hL hfa (fun _ => hE) has HAO.out.len HNB.out HAO.out.cap hl HAO.out.byte HE2.out)
      have HCN := Lib.hid (fun (A : Option Addr) (n c : Nat) (W1 : World) (hL : Ents W1 A n dI.L) => number_ way N wh Ab nb cb arr A n c dI W1 HAO.out.num HAO.out.wh hci hL)
      have hwfu := numOf_wf (wh := wh) hci HAO.out.num
      unfold Sm.v MadeI at HCI1
      unfold Sm.v MadeA at HCA
      unfold actv at HCN
      clear hci hca hfi hfa has hdI hdA
      obtain ⟨u, hu⟩ : ∃ u, numOf N wh dI = u := ⟨_, rfl⟩
      have hwfu2 : (Lit.int .i64 u).wf = true := by rw [← hu]; exact hwfu
      have HQU := Lib.hid (HQI.out u hwfu2)
      rw [hu] at HCN
      clear hu hwfu hwfu2 HQI
      have HQI := HQU
      clear HQU hnb hsn
      cases arr with
      | true =>
        obtain ⟨⟨e9, p9⟩, hp9⟩ : ∃ x, pArr dA bs p = x := ⟨_, rfl⟩
        have HMA : Hid (∀ (A : Option Addr) (n c : Nat) (W1 : World), Pm w1 q g mb p9 p (2 * j + 1) wb.heap.size W1 → Ents W1 A n dA.d.L → Lies W1 Ab bs → Calls Tryz.prog 12 #[.pointer (some ⟨g, 0, none⟩), .agg (av A n c dA), .slice Ab nb cb] W1 fun r w' => r = .returned (.int .i64 e9) ∧ Pm w1 q g mb p9 p9 (2 * j + 1 + 1) w'.heap.size w' ∧ Keeps (fun x => w1.heap.size ≤ x ∧ x < wb.heap.size) W1 w') := fun A n c W1 h hL hl => by
          have := h.marr (c := c) (c2 := cb) HJ3.out HCKA.out hL HAS.out HAO.out.len HNB.out hl HE2.out
          rw [hp9] at this
          exact this
        rw [hp9] at HQA
        simp only at HQA
        clear hp9 HCN HCI1 HQI HCKI HCKA HE2
        go_upto_region 14 with fail
        refine wp_region_noPanic ?_
        refine wp_region_held_drew (S := fun w' => Keeps (fun x => w1.heap.size ≤ x ∧ x < wb.heap.size) W w') (by kernel_rfl) (((Keeps.refl (fun _ => False) _).drewN 1).mono fun _ _ hf => hf.elim) (fun hHeld => ?_)
        have HKD : Hid (Keeps (fun _ => False) W W.drew) := (Keeps.refl _ _).drewN 1
        have hHeld2 : Keeps (fun x => w1.heap.size ≤ x ∧ x < wb.heap.size) W W.drew := hHeld
        clear hHeld
        generalize W.drew = wd at hHeld2 HKD ⊢
        have hHeld := hHeld2
        clear hHeld2
        refine wpAnyH_take (i := 0) (v := ?vz0x1) rfl (by kernel_rfl) (by kernel_rfl) (by kernel_rfl) (fun _ _ _ h => h) (Or.inl ⟨by rfl, ?yz0x1⟩) hHeld ?rz0x1
        case yz0x1 => (intro w' hSw; go_simp; try with_reducible rfl)
        simp only [Act.put, List.getElem_toArray, List.getElem_cons_succ, List.getElem_cons_zero, List.setIfInBounds_toArray, List.set_cons_zero, List.set_cons_succ]
        refine wpAnyH_take (i := 1) (v := ?vz1x2) rfl (by kernel_rfl) (by kernel_rfl) (by kernel_rfl) (fun _ _ _ h => h) (Or.inl ⟨by rfl, ?yz1x2⟩) hHeld ?rz1x2
        case yz1x2 => (intro w' hSw; obtain ⟨x0, x1, x2, x3, x4, x5, x6, y0, y1, y2, y3, y4⟩ := HGX.out w' hSw; go_simp; try with_reducible rfl)
        simp only [Act.put, List.getElem_toArray, List.getElem_cons_succ, List.getElem_cons_zero, List.setIfInBounds_toArray, List.set_cons_zero, List.set_cons_succ]
        refine wpAnyH_take (i := 3) (v := ?vz3x3) rfl (by kernel_rfl) (by kernel_rfl) (by kernel_rfl) (fun _ _ _ h => h) (Or.inl ⟨by rfl, ?yz3x3⟩) hHeld ?rz3x3
        case yz3x3 => (intro w' hSw; go_simp; try with_reducible rfl)
        simp only [Act.put, List.getElem_toArray, List.getElem_cons_succ, List.getElem_cons_zero, List.setIfInBounds_toArray, List.set_cons_zero, List.set_cons_succ]
        refine wpAnyH_take (i := 4) (v := ?vz4x4) rfl (by kernel_rfl) (by kernel_rfl) (by kernel_rfl) (fun _ _ _ h => h) (Or.inl ⟨by rfl, ?yz4x4⟩) hHeld ?rz4x4
        case yz4x4 => (intro w' hSw; obtain ⟨x0, x1, x2, x3, x4, x5, x6, y0, y1, y2, y3, y4⟩ := HGX.out w' hSw; go_simp; try with_reducible rfl)
        simp only [Act.put, List.getElem_toArray, List.getElem_cons_succ, List.getElem_cons_zero, List.setIfInBounds_toArray, List.set_cons_zero, List.set_cons_succ]
        refine wpAnyH_take (i := 6) (v := ?vz6x5) rfl (by kernel_rfl) (by kernel_rfl) (by kernel_rfl) (fun _ _ _ h => h) (Or.inl ⟨by rfl, ?yz6x5⟩) hHeld ?rz6x5
        case yz6x5 => (intro w' hSw; go_simp; try with_reducible rfl)
        simp only [Act.put, List.getElem_toArray, List.getElem_cons_succ, List.getElem_cons_zero, List.setIfInBounds_toArray, List.set_cons_zero, List.set_cons_succ]
        refine wpAnyH_take (i := 7) (v := ?vz7x6) rfl (by kernel_rfl) (by kernel_rfl) (by kernel_rfl) (fun _ _ _ h => h) (Or.inl ⟨by rfl, ?yz7x6⟩) hHeld ?rz7x6
        case yz7x6 => (intro w' hSw; obtain ⟨x0, x1, x2, x3, x4, x5, x6, y0, y1, y2, y3, y4⟩ := HGX.out w' hSw; go_simp; try with_reducible rfl)
        simp only [Act.put, List.getElem_toArray, List.getElem_cons_succ, List.getElem_cons_zero, List.setIfInBounds_toArray, List.set_cons_zero, List.set_cons_succ]
        refine wpAnyH_take (i := 9) (v := ?vz9x7) rfl (by kernel_rfl) (by kernel_rfl) (by kernel_rfl) (fun _ _ _ h => h) (Or.inl ⟨by rfl, ?yz9x7⟩) hHeld ?rz9x7
        case yz9x7 => (intro w' hSw; go_simp; try with_reducible rfl)
        simp only [Act.put, List.getElem_toArray, List.getElem_cons_succ, List.getElem_cons_zero, List.setIfInBounds_toArray, List.set_cons_zero, List.set_cons_succ]
        refine wpAnyH_take (i := 10) (v := ?vz10x8) rfl (by kernel_rfl) (by kernel_rfl) (by kernel_rfl) (fun _ _ _ h => h) (Or.inl ⟨by rfl, ?yz10x8⟩) hHeld ?rz10x8
        case yz10x8 => (intro w' hSw; obtain ⟨x0, x1, x2, x3, x4, x5, x6, y0, y1, y2, y3, y4⟩ := HGX.out w' hSw; go_simp; try with_reducible rfl)
        simp only [Act.put, List.getElem_toArray, List.getElem_cons_succ, List.getElem_cons_zero, List.setIfInBounds_toArray, List.set_cons_zero, List.set_cons_succ]
        refine wpAnyH_ready (rs := [2]) (by kernel_rfl) (by simp) ?_
        refine AllReadyH.cons rfl (fun KR hK => ?_) AllReadyH.nil
        go_simp
        refine (HCA.out _).mono ?_
        rintro r w8 ⟨A8, n8, c8, rfl, hL8, hE8, hk⟩
        have HL8 := Lib.hid hL8
        have HE8 : Hid (∀ b o, A8 = some ⟨b, o, none⟩ → wb.heap.size ≤ b) := fun b o e => Nat.le_trans (Nat.le_trans HK8.out.size HKD.out.size) (hE8 b o e)
        have HK9 := Lib.hid (HK8.out.trans (HKD.out.trans hk))
        clear hL8 hE8
        try dsimp only
        refine hK.out _ _ (hHeld.trans (hk.mono fun _ _ hf => hf.elim)) (fun hHeld => ?_)
        clear hK KR
        try simp only [Act.put, List.getElem_toArray, List.getElem_cons_succ, List.getElem_cons_zero, List.setIfInBounds_toArray, List.set_cons_zero, List.set_cons_succ]
        clear hk
        refine wpAnyH_ready (rs := [5]) (by kernel_rfl) (by simp) ?_
        refine AllReadyH.cons rfl (fun KR hK => ?_) AllReadyH.nil
        go_simp
        refine (HQA.out _ _ _ _ HK9.out HL8.out HE8.out (HAO.out.lies.keeps HK9.out fun _ _ _ => id)).mono ?_
        rintro r w9 ⟨rfl, hm9, hk⟩
        have HM9 := Lib.hid hm9
        have HL9 := Lib.hid (HLW.out _ _ hk (HLA.out w8 HK9.out))
        clear hm9
        try dsimp only
        refine hK.out _ _ (hHeld.trans hk) (fun hHeld => ?_)
        clear hK KR
        try simp only [Act.put, List.getElem_toArray, List.getElem_cons_succ, List.getElem_cons_zero, List.setIfInBounds_toArray, List.set_cons_zero, List.set_cons_succ]
        clear hk
        refine wpAnyH_ready (rs := [8]) (by kernel_rfl) (by simp) ?_
        refine AllReadyH.cons rfl (fun KR hK => ?_) AllReadyH.nil
        go_simp
        refine (HCA.out _).mono ?_
        rintro r w10 ⟨A10, n10, c10, rfl, hL10, hE10, hk⟩
        have HL10 := Lib.hid hL10
        have HM10 := Lib.hid (HM9.out.more hk)
        have HLI10 := Lib.hid (HL9.out.keeps hk fun _ _ _ => id)
        clear hL10 hE10
        try dsimp only
        refine hK.out _ _ (hHeld.trans (hk.mono fun _ _ hf => hf.elim)) (fun hHeld => ?_)
        clear hK KR
        try simp only [Act.put, List.getElem_toArray, List.getElem_cons_succ, List.getElem_cons_zero, List.setIfInBounds_toArray, List.set_cons_zero, List.set_cons_succ]
        clear hk
        refine wpAnyH_ready (rs := [11]) (by kernel_rfl) (by simp) ?_
        refine AllReadyH.cons rfl (fun KR hK => ?_) AllReadyH.nil
        go_simp
        refine (HMA.out _ _ _ _ HM10.out HL10.out HLI10.out).mono ?_
        rintro r w11 ⟨rfl, hm11, hk⟩
        have HM11 := Lib.hid hm11
        clear hm11
        try dsimp only
        refine hK.out _ _ (hHeld.trans hk) (fun hHeld => ?_)
        clear hK KR
        try simp only [Act.put, List.getElem_toArray, List.getElem_cons_succ, List.getElem_cons_zero, List.setIfInBounds_toArray, List.set_cons_zero, List.set_cons_succ]
        clear hk
        refine wpAnyH_take (i := 12) (v := ?vz12x9) rfl (by kernel_rfl) (by kernel_rfl) (by kernel_rfl) (fun _ _ _ h => h) (Or.inl ⟨by rfl, ?yz12x9⟩) hHeld ?rz12x9
        case yz12x9 => (intro w' hSw; go_simp; try with_reducible rfl)
        simp only [Act.put, List.getElem_toArray, List.getElem_cons_succ, List.getElem_cons_zero, List.setIfInBounds_toArray, List.set_cons_zero, List.set_cons_succ]
        refine wpAnyH_done (by kernel_rfl) ?_ _
        clear hHeld
        refine NoPanic.normal ?_
        go_wp2
        exact ⟨⟨j + 1, p9, by go_num, by omega, by rw [show 2 * (j + 1) = 2 * j + 1 + 1 by omega]; exact HM11⟩, by simp [intOf]; omega⟩
      | false =>
        obtain ⟨⟨e9, p9⟩, hp9⟩ : ∃ x, pInt dI u p = x := ⟨_, rfl⟩
        have HMI : Hid (∀ (A : Option Addr) (n c : Nat) (W1 : World), Pm w1 q g mb p9 p (2 * j + 1) wb.heap.size W1 → Ents W1 A n dI.L → Calls Tryz.prog 16 #[.pointer (some ⟨g, 0, none⟩), .agg (dv A n c dI), .int .i64 u] W1 fun r w' => r = .returned (.int .i64 e9) ∧ Pm w1 q g mb p9 p9 (2 * j + 1 + 1) w'.heap.size w' ∧ Keeps (fun x => w1.heap.size ≤ x ∧ x < wb.heap.size) W1 w') := fun A n c W1 h hL => by
          have := h.mint (c := c) (x := u) HJ3.out HCKI.out hL
          rw [hp9] at this
          exact this
        rw [hp9] at HQI
        simp only at HQI
        clear hp9 HCA HQA HCKI HCKA HE2
        go_wp2_with fail
        refine (HCI1.out _).mono ?_
        rintro r w8 ⟨A8, n8, c8, rfl, hL8, hE8, hk8⟩
        have HK9 := Lib.hid (HK8.out.trans hk8)
        have HKW8 := Lib.hid hk8
        have HE8 : Hid (∀ b o, A8 = some ⟨b, o, none⟩ → wb.heap.size ≤ b) := fun b o e => Nat.le_trans HK8.out.size (hE8 b o e)
        have HL8 := Lib.hid hL8
        clear hL8 hE8 hk8 HCI1
        unfold dv
        go_upto_region 17 with fail
        have HBD : Hid (Blk (w8.alloc (.cells #[.int .u8 dI.K, .int .i64 dI.B, .slice A8 n8 c8, .int .i64 dI.le, .int .i64 dI.bi] 43)) w8.heap.size 43 #[.int .u8 dI.K, .int .i64 dI.B, .slice A8 n8 c8, .int .i64 dI.le, .int .i64 dI.bi]) := Lib.hid (Blk.new _ _ _)
        have HK12 : Hid (Keeps (fun _ => False) w8 (w8.alloc (.cells #[.int .u8 dI.K, .int .i64 dI.B, .slice A8 n8 c8, .int .i64 dI.le, .int .i64 dI.bi] 43))) := Lib.hid ((Keeps.refl _ _).alloc _)
        have HGB : Hid (wb.heap.size ≤ w8.heap.size) := HK9.out.size
        generalize w8.alloc (.cells #[.int .u8 dI.K, .int .i64 dI.B, .slice A8 n8 c8, .int .i64 dI.le, .int .i64 dI.bi] 43) = W12 at HBD HK12 ⊢
        obtain ⟨gy, hgy⟩ : ∃ x, w8.heap.size = x := ⟨_, rfl⟩
        rw [hgy] at HBD HGB ⊢
        clear hgy
        clear x0 x1 x2 x3 x4 x5 x6 y0 y1 y2 y3 y4
        obtain ⟨x0, x1, x2, x3, x4, x5, x6, y0, y1, y2, y3, y4⟩ := HG.out W12 (HKW8.out.trans HK12.out)
        have z0 := HBD.out.cell 0
        have z1 := HBD.out.cell 1
        have z2 := HBD.out.cell 2
        have z3 := HBD.out.cell 3
        have z4 := HBD.out.cell 4
        simp only [List.getElem?_toArray, List.getElem?_cons_zero, List.getElem?_cons_succ] at z0 z1 z2 z3 z4
        have HNC := Lib.hid (HCN.out A8 n8 c8 W12 (HL8.out.more HK12.out))
        unfold dv at HNC
        clear HCN
        go_wp2_with fail
        refine HNC.out.mono ?_
        rintro r W13 ⟨rfl, hk13⟩
        have HK13 := Lib.hid (HK9.out.trans (HK12.out.trans hk13))
        have HL13 := Lib.hid ((HL8.out.more HK12.out).more hk13)
        have HBD2 := Lib.hid (HBD.out.keeps hk13 id)
        have HGY : Hid (∀ w', Keeps (fun x => w1.heap.size ≤ x ∧ x < wb.heap.size) W13 w' → w'.cell? ⟨gy, 0, none⟩ = some (.int .u8 dI.K) ∧ w'.cell? ⟨gy, 1, none⟩ = some (.int .i64 dI.B) ∧ w'.cell? ⟨gy, 2, none⟩ = some (.slice A8 n8 c8) ∧ w'.cell? ⟨gy, 3, none⟩ = some (.int .i64 dI.le) ∧ w'.cell? ⟨gy, 4, none⟩ = some (.int .i64 dI.bi)) := fun w' k => by
          have hb := HBD2.out.keeps k (fun h => by have := HGB.out; omega)
          exact ⟨hb.cell 0, hb.cell 1, hb.cell 2, hb.cell 3, hb.cell 4⟩
        clear hk13 HNC x0 x1 x2 x3 x4 x5 x6 y0 y1 y2 y3 y4 z0 z1 z2 z3 z4 HBD HK12 HKW8
        unfold dv at HQI HMI
        go_upto_region 18 with fail
        refine wp_region_noPanic ?_
        refine wp_region_held_drew (S := fun w' => Keeps (fun x => w1.heap.size ≤ x ∧ x < wb.heap.size) W13 w') (by kernel_rfl) (((Keeps.refl (fun _ => False) _).drewN 1).mono fun _ _ hf => hf.elim) (fun hHeld => ?_)
        have HKD : Hid (Keeps (fun _ => False) W13 W13.drew) := (Keeps.refl _ _).drewN 1
        have hHeld2 : Keeps (fun x => w1.heap.size ≤ x ∧ x < wb.heap.size) W13 W13.drew := hHeld
        clear hHeld
        generalize W13.drew = wd at hHeld2 HKD ⊢
        have hHeld := hHeld2
        clear hHeld2
        refine wpAnyH_take (i := 0) (v := ?vz0x10) rfl (by kernel_rfl) (by kernel_rfl) (by kernel_rfl) (fun _ _ _ h => h) (Or.inl ⟨by rfl, ?yz0x10⟩) hHeld ?rz0x10
        case yz0x10 => (intro w' hSw; go_simp; try with_reducible rfl)
        simp only [Act.put, List.getElem_toArray, List.getElem_cons_succ, List.getElem_cons_zero, List.setIfInBounds_toArray, List.set_cons_zero, List.set_cons_succ]
        refine wpAnyH_take (i := 1) (v := ?vz1x11) rfl (by kernel_rfl) (by kernel_rfl) (by kernel_rfl) (fun _ _ _ h => h) (Or.inl ⟨by rfl, ?yz1x11⟩) hHeld ?rz1x11
        case yz1x11 => (intro w' hSw; obtain ⟨z0, z1, z2, z3, z4⟩ := HGY.out w' hSw; go_simp; try with_reducible rfl)
        simp only [Act.put, List.getElem_toArray, List.getElem_cons_succ, List.getElem_cons_zero, List.setIfInBounds_toArray, List.set_cons_zero, List.set_cons_succ]
        refine wpAnyH_take (i := 2) (v := ?vz2x12) rfl (by kernel_rfl) (by kernel_rfl) (by kernel_rfl) (fun _ _ _ h => h) (Or.inl ⟨by rfl, ?yz2x12⟩) hHeld ?rz2x12
        case yz2x12 => (intro w' hSw; go_simp; try with_reducible rfl)
        simp only [Act.put, List.getElem_toArray, List.getElem_cons_succ, List.getElem_cons_zero, List.setIfInBounds_toArray, List.set_cons_zero, List.set_cons_succ]
        refine wpAnyH_take (i := 4) (v := ?vz4x13) rfl (by kernel_rfl) (by kernel_rfl) (by kernel_rfl) (fun _ _ _ h => h) (Or.inl ⟨by rfl, ?yz4x13⟩) hHeld ?rz4x13
        case yz4x13 => (intro w' hSw; go_simp; try with_reducible rfl)
        simp only [Act.put, List.getElem_toArray, List.getElem_cons_succ, List.getElem_cons_zero, List.setIfInBounds_toArray, List.set_cons_zero, List.set_cons_succ]
        refine wpAnyH_take (i := 5) (v := ?vz5x14) rfl (by kernel_rfl) (by kernel_rfl) (by kernel_rfl) (fun _ _ _ h => h) (Or.inl ⟨by rfl, ?yz5x14⟩) hHeld ?rz5x14
        case yz5x14 => (intro w' hSw; obtain ⟨z0, z1, z2, z3, z4⟩ := HGY.out w' hSw; go_simp; try with_reducible rfl)
        simp only [Act.put, List.getElem_toArray, List.getElem_cons_succ, List.getElem_cons_zero, List.setIfInBounds_toArray, List.set_cons_zero, List.set_cons_succ]
        refine wpAnyH_take (i := 6) (v := ?vz6x15) rfl (by kernel_rfl) (by kernel_rfl) (by kernel_rfl) (fun _ _ _ h => h) (Or.inl ⟨by rfl, ?yz6x15⟩) hHeld ?rz6x15
        case yz6x15 => (intro w' hSw; go_simp; try with_reducible rfl)
        simp only [Act.put, List.getElem_toArray, List.getElem_cons_succ, List.getElem_cons_zero, List.setIfInBounds_toArray, List.set_cons_zero, List.set_cons_succ]
        refine wpAnyH_ready (rs := [3]) (by kernel_rfl) (by simp) ?_
        refine AllReadyH.cons rfl (fun KR hK => ?_) AllReadyH.nil
        go_simp
        refine (HQI.out _ _ _ _ (HK13.out.trans HKD.out) (HL13.out.more HKD.out) HE8.out).mono ?_
        rintro r w14 ⟨rfl, hm14, hk⟩
        have HM14 := Lib.hid hm14
        have HL14 := Lib.hid ((HL13.out.more HKD.out).keeps hk (fun _ b o e h => by have := HE8.out b o e; omega))
        clear hm14
        try dsimp only
        refine hK.out _ _ (hHeld.trans hk) (fun hHeld => ?_)
        clear hK KR
        try simp only [Act.put, List.getElem_toArray, List.getElem_cons_succ, List.getElem_cons_zero, List.setIfInBounds_toArray, List.set_cons_zero, List.set_cons_succ]
        clear hk
        refine wpAnyH_ready (rs := [7]) (by kernel_rfl) (by simp) ?_
        refine AllReadyH.cons rfl (fun KR hK => ?_) AllReadyH.nil
        go_simp
        refine (HMI.out _ _ _ _ HM14.out HL14.out).mono ?_
        rintro r w15 ⟨rfl, hm15, hk⟩
        have HM15 := Lib.hid hm15
        clear hm15
        try dsimp only
        refine hK.out _ _ (hHeld.trans hk) (fun hHeld => ?_)
        clear hK KR
        try simp only [Act.put, List.getElem_toArray, List.getElem_cons_succ, List.getElem_cons_zero, List.setIfInBounds_toArray, List.set_cons_zero, List.set_cons_succ]
        clear hk
        refine wpAnyH_take (i := 8) (v := ?vz8x16) rfl (by kernel_rfl) (by kernel_rfl) (by kernel_rfl) (fun _ _ _ h => h) (Or.inl ⟨by rfl, ?yz8x16⟩) hHeld ?rz8x16
        case yz8x16 => (intro w' hSw; go_simp; try with_reducible rfl)
        simp only [Act.put, List.getElem_toArray, List.getElem_cons_succ, List.getElem_cons_zero, List.setIfInBounds_toArray, List.set_cons_zero, List.set_cons_succ]
        refine wpAnyH_done (by kernel_rfl) ?_ _
        clear hHeld
        refine NoPanic.normal ?_
        go_wp2
        exact ⟨⟨j + 1, p9, by go_num, by omega, by rw [show 2 * (j + 1) = 2 * j + 1 + 1 by omega]; exact HM15⟩, by simp [intOf]; omega⟩
    · obtain rfl : j = n1 := by omega
      obtain ⟨⟨F, G, NN, o, Ar, cr, fb, fd, hq, hc, hmd, hFo, hN, hX⟩, hrow, hblk, hkp⟩ := HPM.out
      have HBLS := Lib.hid (blocks_ w1.heap.size q F p.1 G NN wr hq)
      have HRW := Lib.hid (fun W (k : Keeps (fun _ => False) wr W) => row_ w1.heap.size q F p.1 G NN W (hq.more k) (by have := HNN.out; omega))
      have HBK := Lib.hid (fun (x : Int) (m : Nat) W (k : Keeps (fun _ => False) wr W) => block_ w1.heap.size q F p.1 G NN x m W (hq.more k))
      have HMD := Lib.hid hmd
      have HKE := Lib.hid (HPM.out.all HK1.out)
      have HRL : Hid (p.1.length ≤ 20000) := by show _ ≤ _; have := HNN.out; omega
      have HCO := Lib.hid hc
      have HBL3 : Hid (∀ i, (hadP p.2 i).length ≤ 100000) := fun i => by have := (hblk i).1; have := HNN.out; omega
      have HKP := Lib.hid hkp
      clear hq hc hmd hFo hN hX hrow hblk hkp HPM hj hlt
      go_wp2_with fail
      refine HBLS.out.mono ?_
      rintro r w2 ⟨Al, cl, nl, rfl, hnl, hol, hk2⟩
      have HNL := Lib.hid hnl
      have HOL := Lib.hid hol
      have HK2 := Lib.hid hk2
      have HLEN : Hid (∀ w', Keeps (fun _ => False) w2 w' → ∀ ty, (Builtin.len_ #[28] ty #[.map (some mb)]).run Tryz.prog w' = .ok (.int .i64 (nl : Int)) w') := fun w' k ty => (HMD.out.map.keeps (HK2.out.trans k) id).len_run int_ks Tryz.underlying28 (by
        rw [← HNL.out, bnums, cntF]
        congr 1
        refine List.filter_congr fun i _ => ?_
        rw [← HCO.out]
        unfold cont
        simp) ty
      clear hnl hol hk2 HBLS
      go_upto_region 22 with fail
      refine wp_region_noPanic ?_
      refine wp_region_held_drew (S := fun w' => Keeps (fun _ => False) w2 w') (by kernel_rfl) ((Keeps.refl _ _).drewN 1) (fun hHeld => ?_)
      refine wpAnyH_take (i := 0) (v := ?vz0x17) rfl (by kernel_rfl) (by kernel_rfl) (by kernel_rfl) (fun _ _ _ h => h) (Or.inl ⟨by rfl, ?yz0x17⟩) hHeld ?rz0x17
      case yz0x17 => (intro w' hSw; go_simp; try with_reducible rfl)
      simp only [Act.put, List.getElem_toArray, List.getElem_cons_succ, List.getElem_cons_zero, List.setIfInBounds_toArray, List.set_cons_zero, List.set_cons_succ]
      refine wpAnyH_take (i := 1) (v := ?vz1x18) rfl (by kernel_rfl) (by kernel_rfl) (by kernel_rfl) (fun _ _ _ h => h) (Or.inl ⟨by rfl, ?yz1x18⟩) hHeld ?rz1x18
      case yz1x18 => (intro w' hSw; go_simp; try with_reducible rfl)
      simp only [Act.put, List.getElem_toArray, List.getElem_cons_succ, List.getElem_cons_zero, List.setIfInBounds_toArray, List.set_cons_zero, List.set_cons_succ]
      refine wpAnyH_take (i := 2) (v := ?vz2x19) rfl (by kernel_rfl) (by kernel_rfl) (by kernel_rfl) (fun _ _ _ h => h) (Or.inl ⟨by rfl, ?yz2x19⟩) hHeld ?rz2x19
      case yz2x19 => (intro w' hSw; go_simp; try with_reducible rfl)
      simp only [Act.put, List.getElem_toArray, List.getElem_cons_succ, List.getElem_cons_zero, List.setIfInBounds_toArray, List.set_cons_zero, List.set_cons_succ]
      refine wpAnyH_take (i := 3) (v := ?vz3x20) rfl (by kernel_rfl) (by kernel_rfl) (by kernel_rfl) (fun _ _ _ h => h) (Or.inl ⟨by rfl, ?yz3x20⟩) hHeld ?rz3x20
      case yz3x20 => (intro w' hSw; go_simp; try with_reducible rfl)
      simp only [Act.put, List.getElem_toArray, List.getElem_cons_succ, List.getElem_cons_zero, List.setIfInBounds_toArray, List.set_cons_zero, List.set_cons_succ]
      refine wpAnyH_take (i := 4) (v := ?vz4x21) rfl (by kernel_rfl) (by kernel_rfl) (by kernel_rfl) (fun _ _ _ h => h) (Or.inl ⟨by rfl, ?yz4x21⟩) hHeld ?rz4x21
      case yz4x21 => (intro w' hSw; go_simp; try with_reducible rfl)
      simp only [Act.put, List.getElem_toArray, List.getElem_cons_succ, List.getElem_cons_zero, List.setIfInBounds_toArray, List.set_cons_zero, List.set_cons_succ]
      refine wpAnyH_take (i := 5) (v := ?vz5x22) rfl (by kernel_rfl) (by kernel_rfl) (by kernel_rfl) (fun _ _ _ h => h) (Or.inl ⟨by rfl, ?yz5x22⟩) hHeld ?rz5x22
      case yz5x22 => (intro w' hSw; have hc1 := (HMD.out.blk.keeps (HK2.out.trans hSw) id).cell 1; go_simp; try with_reducible rfl)
      simp only [Act.put, List.getElem_toArray, List.getElem_cons_succ, List.getElem_cons_zero, List.setIfInBounds_toArray, List.set_cons_zero, List.set_cons_succ]
      refine wpAnyH_take (i := 6) (v := .int .i64 (nl : Int)) rfl (by kernel_rfl) (by kernel_rfl) (by kernel_rfl) (fun _ _ _ h => h) (Or.inl ⟨by rfl, ?yz6x23⟩) hHeld ?rz6x23
      case yz6x23 => (intro w' hSw; exact exec_len (.tmp 106) 28 rfl rfl (HLEN.out w' hSw))
      simp only [Act.put, List.getElem_toArray, List.getElem_cons_succ, List.getElem_cons_zero, List.setIfInBounds_toArray, List.set_cons_zero, List.set_cons_succ]
      refine wpAnyH_take (i := 7) (v := ?vz7x24) rfl (by kernel_rfl) (by kernel_rfl) (by kernel_rfl) (fun _ _ _ h => h) (Or.inl ⟨by rfl, ?yz7x24⟩) hHeld ?rz7x24
      case yz7x24 => (intro w' hSw; go_simp; try with_reducible rfl)
      simp only [Act.put, List.getElem_toArray, List.getElem_cons_succ, List.getElem_cons_zero, List.setIfInBounds_toArray, List.set_cons_zero, List.set_cons_succ]
      refine wpAnyH_take (i := 8) (v := ?vz8x25) rfl (by kernel_rfl) (by kernel_rfl) (by kernel_rfl) (fun _ _ _ h => h) (Or.inl ⟨by rfl, ?yz8x25⟩) hHeld ?rz8x25
      case yz8x25 => (intro w' hSw; go_simp; try with_reducible rfl)
      simp only [Act.put, List.getElem_toArray, List.getElem_cons_succ, List.getElem_cons_zero, List.setIfInBounds_toArray, List.set_cons_zero, List.set_cons_succ]
      refine wpAnyH_take (i := 9) (v := ?vz9x26) rfl (by kernel_rfl) (by kernel_rfl) (by kernel_rfl) (fun _ _ _ h => h) (Or.inl ⟨by rfl, ?yz9x26⟩) hHeld ?rz9x26
      case yz9x26 => (intro w' hSw; go_simp; try with_reducible rfl)
      simp only [Act.put, List.getElem_toArray, List.getElem_cons_succ, List.getElem_cons_zero, List.setIfInBounds_toArray, List.set_cons_zero, List.set_cons_succ]
      refine wpAnyH_take (i := 12) (v := ?vz12x27) rfl (by kernel_rfl) (by kernel_rfl) (by kernel_rfl) (fun _ _ _ h => h) (Or.inl ⟨by rfl, ?yz12x27⟩) hHeld ?rz12x27
      case yz12x27 => (intro w' hSw; go_simp; try with_reducible rfl)
      simp only [Act.put, List.getElem_toArray, List.getElem_cons_succ, List.getElem_cons_zero, List.setIfInBounds_toArray, List.set_cons_zero, List.set_cons_succ]
      refine wpAnyH_take (i := 13) (v := ?vz13x28) rfl (by kernel_rfl) (by kernel_rfl) (by kernel_rfl) (fun _ _ _ h => h) (Or.inl ⟨by rfl, ?yz13x28⟩) hHeld ?rz13x28
      case yz13x28 => (intro w' hSw; go_simp; try with_reducible rfl)
      simp only [Act.put, List.getElem_toArray, List.getElem_cons_succ, List.getElem_cons_zero, List.setIfInBounds_toArray, List.set_cons_zero, List.set_cons_succ]
      refine wpAnyH_take (i := 14) (v := ?vz14x29) rfl (by kernel_rfl) (by kernel_rfl) (by kernel_rfl) (fun _ _ _ h => h) (Or.inl ⟨by rfl, ?yz14x29⟩) hHeld ?rz14x29
      case yz14x29 => (intro w' hSw; go_simp; try with_reducible rfl)
      simp only [Act.put, List.getElem_toArray, List.getElem_cons_succ, List.getElem_cons_zero, List.setIfInBounds_toArray, List.set_cons_zero, List.set_cons_succ]
      refine wpAnyH_take (i := 15) (v := ?vz15x30) rfl (by kernel_rfl) (by kernel_rfl) (by kernel_rfl) (fun _ _ _ h => h) (Or.inl ⟨by rfl, ?yz15x30⟩) hHeld ?rz15x30
      case yz15x30 => (intro w' hSw; have hc0 := (HMD.out.blk.keeps (HK2.out.trans hSw) id).cell 0; go_simp; try with_reducible rfl)
      simp only [Act.put, List.getElem_toArray, List.getElem_cons_succ, List.getElem_cons_zero, List.setIfInBounds_toArray, List.set_cons_zero, List.set_cons_succ]
      refine wpAnyH_ready (rs := [10]) (by kernel_rfl) (by simp) ?_
      refine AllReadyH.cons rfl (fun KR hK => ?_) AllReadyH.nil
      go_simp
      refine (HRW.out _ (HK2.out.trans hHeld)).mono ?_
      rintro r w3 ⟨A3, c3, zs, n3, hzn, rfl, hpk, hzb, ho3, hk⟩
      have HZN := Lib.hid hzn
      have HPK := Lib.hid hpk
      have HZB := Lib.hid hzb
      have HO3 := Lib.hid ho3
      clear hzn hpk hzb ho3
      try dsimp only
      refine hK.out _ _ (hHeld.trans hk) (fun hHeld => ?_)
      clear hK KR
      try simp only [Act.put, List.getElem_toArray, List.getElem_cons_succ, List.getElem_cons_zero, List.setIfInBounds_toArray, List.set_cons_zero, List.set_cons_succ]
      refine Ao.wpAnyH_as (S' := fun w' => Keeps (fun _ => False) w3 w') (fun w' k => hHeld.trans k) _ _ _ _ ?_
      have HK3 := Lib.hid hHeld
      replace hHeld : Keeps (fun _ => False) w3 w3 := Keeps.refl _ _
      clear hk
      have HC3 : Hid (∀ w', Keeps (fun _ => False) w3 w' → (convert 29 9 (.slice A3 n3 c3)).run Tryz.prog w' = .ok (.string (strOfNums zs)) w') := fun w' k => (Lies.of_own (own_keeps HO3.out k (fun _ _ => id))).str_n (P := Tryz.prog) n3 HZN.out 29 9 5 c3 Tryz.underlying29 Tryz.underlying5 Tryz.underlying9
      have HBIT : Hid (∀ b ∈ p.1, b < 2) := fun b hb => by
        have h1 : b ∈ ofB (zs.map Int.toNat) := by rw [HPK.out.2]; exact List.mem_append_left _ hb
        exact ofB_bit _ b h1
      refine wpAnyH_take (i := 11) (v := ?vz11x31) rfl (by kernel_rfl) (by kernel_rfl) (by kernel_rfl) (fun _ _ _ h => h) (Or.inl ⟨by rfl, ?yz11x31⟩) hHeld ?rz11x31
      case yz11x31 => (intro w' hSw; have hcv := HC3.out w' hSw; go_simp; try with_reducible rfl)
      simp only [Act.put, List.getElem_toArray, List.getElem_cons_succ, List.getElem_cons_zero, List.setIfInBounds_toArray, List.set_cons_zero, List.set_cons_succ]
      refine wpAnyH_ready (rs := [16]) (by kernel_rfl) (by simp) ?_
      refine AllReadyH.cons rfl (fun KR hK => ?_) AllReadyH.nil
      go_simp
      refine (Rc.rbytes_ Ar p.1.length cr p.1 w3 rfl (Lies.of_own (own_keeps HMD.out.row (HK2.out.trans HK3.out) fun _ _ => id)) HBIT.out HRL.out).mono ?_
      rintro r w4 ⟨A4, c4, ys, n4, hyn, rfl, hpk, hyb, ho4, hk⟩
      obtain rfl : zs = ys := Bw.packed_one HPK.out hpk HZB.out hyb
      have HYN := Lib.hid hyn
      have HO4 := Lib.hid ho4
      clear hyn hpk hyb ho4
      try dsimp only
      refine hK.out _ _ (hHeld.trans hk) (fun hHeld => ?_)
      clear hK KR
      try simp only [Act.put, List.getElem_toArray, List.getElem_cons_succ, List.getElem_cons_zero, List.setIfInBounds_toArray, List.set_cons_zero, List.set_cons_succ]
      refine Ao.wpAnyH_as (S' := fun w' => Keeps (fun _ => False) w4 w') (fun w' k => hHeld.trans k) _ _ _ _ ?_
      have HK4 := Lib.hid hHeld
      replace hHeld : Keeps (fun _ => False) w4 w4 := Keeps.refl _ _
      clear hk
      have HC4 : Hid (∀ w', Keeps (fun _ => False) w4 w' → (convert 29 9 (.slice A4 n4 c4)).run Tryz.prog w' = .ok (.string (strOfNums zs)) w') := fun w' k => (Lies.of_own (own_keeps HO4.out k (fun _ _ => id))).str_n (P := Tryz.prog) n4 HYN.out 29 9 5 c4 Tryz.underlying29 Tryz.underlying5 Tryz.underlying9
      refine wpAnyH_take (i := 17) (v := ?vz17x32) rfl (by kernel_rfl) (by kernel_rfl) (by kernel_rfl) (fun _ _ _ h => h) (Or.inl ⟨by rfl, ?yz17x32⟩) hHeld ?rz17x32
      case yz17x32 => (intro w' hSw; have hcv := HC4.out w' hSw; go_simp; try with_reducible rfl)
      simp only [Act.put, List.getElem_toArray, List.getElem_cons_succ, List.getElem_cons_zero, List.setIfInBounds_toArray, List.set_cons_zero, List.set_cons_succ]
      refine wpAnyH_take (i := 18) (v := ?vz18x33) rfl (by kernel_rfl) (by kernel_rfl) (by kernel_rfl) (fun _ _ _ h => h) (Or.inl ⟨by rfl, ?yz18x33⟩) hHeld ?rz18x33
      case yz18x33 => (intro w' hSw; go_simp; try with_reducible rfl)
      simp only [Act.put, List.getElem_toArray, List.getElem_cons_succ, List.getElem_cons_zero, List.setIfInBounds_toArray, List.set_cons_zero, List.set_cons_succ]
      refine wpAnyH_take (i := 19) (v := ?vz19x34) rfl (by kernel_rfl) (by kernel_rfl) (by kernel_rfl) (fun _ _ _ h => h) (Or.inl ⟨by rfl, ?yz19x34⟩) hHeld ?rz19x34
      case yz19x34 => (intro w' hSw; go_simp; try with_reducible rfl)
      simp only [Act.put, List.getElem_toArray, List.getElem_cons_succ, List.getElem_cons_zero, List.setIfInBounds_toArray, List.set_cons_zero, List.set_cons_succ]
      refine wpAnyH_done (by kernel_rfl) ?_ _
      clear hHeld
      refine NoPanic.normal ?_
      have HK24 : Hid (Keeps (fun _ => False) wr w4) := Lib.hid (HK2.out.trans (HK3.out.trans HK4.out))
      clear HC3 HC4 HO3 HO4 HLEN HRW HPK HZB HZN HYN HBIT
      obtain ⟨wE, rfl⟩ : ∃ x, x = wr := ⟨_, rfl⟩
      go_wp2
      go_loopw [123] (fun iv wx => ∃ t : Nat, iv = .int .i64 (t : Int) ∧ t ≤ nl ∧ Hid (Keeps (fun _ => False) w4 wx)) (fun iv _ => nl - (intOf iv).toNat)
      case atStart => exact ⟨0, rfl, by omega, Keeps.refl _ _⟩
      case round =>
        obtain ⟨t, rfl, htn, HX⟩ := hrel
        have HKR : Hid (Keeps (fun _ => False) wE wr) := Lib.hid (HK24.out.trans HX.out)
        by_cases hlt : t < nl
        · obtain ⟨nt, hnt⟩ : ∃ x, (bnums G)[t]? = some x := ⟨_, List.getElem?_eq_getElem (by have := HNL.out; omega)⟩
          obtain ⟨hn60, hsome⟩ := bnums_mem (List.mem_of_getElem? hnt)
          obtain ⟨gl, rfl, hcells⟩ := own_at (own_keeps HOL.out (HK3.out.trans (HK4.out.trans HX.out)) fun _ _ => id) (by omega)
          have hcr : wr.cell? ⟨gl, t, none⟩ = some (.int .i64 (nt : Int)) := hcells t _ (by rw [List.getElem?_map, hnt]; rfl)
          obtain ⟨l, hl⟩ : ∃ l, p.2 nt = some l := by
            rw [← HCO.out]
            unfold cont
            cases hG : G nt with
            | none => rw [hG] at hsome; simp at hsome
            | some e => exact ⟨_, rfl⟩
          have hMr := HMD.out.more HKR.out
          have hc1 : wr.cell? ⟨g, 1, none⟩ = some (.map (some mb)) := hMr.blk.cell 1
          have hlk := ((hMr.map.look int_ks Tryz.underlying28 (zero_su8 wr) hn60).1 (.slice (fb nt) l.length (fd nt)) (by rw [hl]; rfl)).2
          unfold ikv at hlk
          obtain ⟨m, hm⟩ : ∃ m, l.length = m := ⟨_, rfl⟩
          have HLM := Lib.hid hm
          have HCB : Hid (∀ w', Keeps (fun _ => False) wr w' → (convert 29 9 (.slice (fb nt) m (fd nt))).run Tryz.prog w' = .ok (.string (strOfNums l)) w') := fun w' k => (Lies.of_own (own_keeps (hMr.own nt l hl).1 k (fun _ _ => id))).str_n (P := Tryz.prog) m HLM.out 29 9 5 (fd nt) Tryz.underlying29 Tryz.underlying5 Tryz.underlying9
          have hhad : hadI G (nt : Int) = l := by
            unfold hadI
            rw [if_pos (by omega), Int.toNat_natCast, had_cont, HCO.out]
            unfold hadP
            rw [hl]
            rfl
          have hxw : (Lit.int .i64 (nt : Int)).wf = true := by
            have hm : IntKind.i64.min = -9223372036854775808 ∧ IntKind.i64.max = 9223372036854775807 := by decide
            simp [Lit.wf, hm.1, hm.2]
            omega
          have HBT := Lib.hid (HBK.out (nt : Int) m wr.drew (HKR.out.trans ((Keeps.refl _ _).drewN 1)) hxw (by rw [hhad, hm]))
          rw [hhad] at HBT
          rw [hm] at hlk
          have hj0 : (0 : Int) ≤ (t : Int) := by omega
          have hj1 : (t : Int) < (nl : Int) := by omega
          have hnl6 : nl ≤ 60001 := by
            have h1 : (bnums G).length ≤ 60001 := by
              unfold bnums
              have := List.length_filter_le (fun i => (G i).isSome) (List.range 60001)
              rw [List.length_range] at this
              exact this
            have := HNL.out
            omega
          have hjw : IntKind.i64.wrap ((t : Int) + 1) = (t : Int) + 1 := IntWalk.i64_in _ (by omega)
          have HCE := Lib.hid hcells
          have HNT := Lib.hid hnt
          have HNL6 := Lib.hid hnl6
          clear hcells hnt hn60 hsome hl hMr hm hhad hxw hnl6
          go_upto_region 28 with fail
          by_cases ht0 : t = 0
          · have hgt : ¬ (0 : Int) < (t : Int) := by omega
            refine wp_region_noPanic ?_
            refine wp_region_held_drew (S := fun w' => Keeps (fun _ => False) wr w') (by kernel_rfl) ((Keeps.refl _ _).drewN 1) (fun hHeld => ?_)
            refine wpAnyH_take (i := 0) (v := ?vz0x35) rfl (by kernel_rfl) (by kernel_rfl) (by kernel_rfl) (fun _ _ _ h => h) (Or.inl ⟨by rfl, ?yz0x35⟩) hHeld ?rz0x35
            case yz0x35 => (intro w' hSw; go_simp; try with_reducible rfl)
            simp only [Act.put, List.getElem_toArray, List.getElem_cons_succ, List.getElem_cons_zero, List.setIfInBounds_toArray, List.set_cons_zero, List.set_cons_succ]
            refine wpAnyH_take (i := 1) (v := ?vz1x36) rfl (by kernel_rfl) (by kernel_rfl) (by kernel_rfl) (fun _ _ _ h => h) (Or.inl ⟨by rfl, ?yz1x36⟩) hHeld ?rz1x36
            case yz1x36 => (intro w' hSw; go_simp; try with_reducible rfl)
            simp only [Act.put, List.getElem_toArray, List.getElem_cons_succ, List.getElem_cons_zero, List.setIfInBounds_toArray, List.set_cons_zero, List.set_cons_succ]
            refine wpAnyH_take (i := 2) (v := ?vz2x37) rfl (by kernel_rfl) (by kernel_rfl) (by kernel_rfl) (fun _ _ _ h => h) (Or.inl ⟨by rfl, ?yz2x37⟩) hHeld ?rz2x37
            case yz2x37 => (intro w' hSw; go_simp; try with_reducible rfl)
            simp only [Act.put, List.getElem_toArray, List.getElem_cons_succ, List.getElem_cons_zero, List.setIfInBounds_toArray, List.set_cons_zero, List.set_cons_succ]
            refine wpAnyH_take (i := 3) (v := ?vz3x38) rfl (by kernel_rfl) (by kernel_rfl) (by kernel_rfl) (fun _ _ _ h => h) (Or.inl ⟨by rfl, ?yz3x38⟩) hHeld ?rz3x38
            case yz3x38 => (intro w' hSw; go_simp; try with_reducible rfl)
            simp only [Act.put, List.getElem_toArray, List.getElem_cons_succ, List.getElem_cons_zero, List.setIfInBounds_toArray, List.set_cons_zero, List.set_cons_succ]
            refine wpAnyH_take (i := 4) (v := ?vz4x39) rfl (by kernel_rfl) (by kernel_rfl) (by kernel_rfl) (fun _ _ _ h => h) (Or.inl ⟨by rfl, ?yz4x39⟩) hHeld ?rz4x39
            case yz4x39 => (intro w' hSw; go_simp; try with_reducible rfl)
            simp only [Act.put, List.getElem_toArray, List.getElem_cons_succ, List.getElem_cons_zero, List.setIfInBounds_toArray, List.set_cons_zero, List.set_cons_succ]
            refine wpAnyH_take (i := 7) (v := ?vz7x40) rfl (by kernel_rfl) (by kernel_rfl) (by kernel_rfl) (fun _ _ _ h => h) (Or.inl ⟨by rfl, ?yz7x40⟩) hHeld ?rz7x40
            case yz7x40 => (intro w' hSw; go_simp; try with_reducible rfl)
            simp only [Act.put, List.getElem_toArray, List.getElem_cons_succ, List.getElem_cons_zero, List.setIfInBounds_toArray, List.set_cons_zero, List.set_cons_succ]
            refine wpAnyH_take (i := 8) (v := ?vz8x41) rfl (by kernel_rfl) (by kernel_rfl) (by kernel_rfl) (fun _ _ _ h => h) (Or.inl ⟨by rfl, ?yz8x41⟩) hHeld ?rz8x41
            case yz8x41 => (intro w' hSw; have hcv := HCB.out w' hSw; go_simp; try with_reducible rfl)
            simp only [Act.put, List.getElem_toArray, List.getElem_cons_succ, List.getElem_cons_zero, List.setIfInBounds_toArray, List.set_cons_zero, List.set_cons_succ]
            refine wpAnyH_ready (rs := [5]) (by kernel_rfl) (by simp) ?_
            refine AllReadyH.cons rfl (fun KR hK => ?_) AllReadyH.nil
            go_simp
            refine (HBT.out.mono ?_)
            rintro r w5 ⟨A5, c5, rfl, ho5, hk⟩
            have HO5 := Lib.hid ho5
            clear ho5
            try dsimp only
            refine hK.out _ _ (hHeld.trans hk) (fun hHeld => ?_)
            clear hK KR
            try simp only [Act.put, List.getElem_toArray, List.getElem_cons_succ, List.getElem_cons_zero, List.setIfInBounds_toArray, List.set_cons_zero, List.set_cons_succ]
            refine Ao.wpAnyH_as (S' := fun w' => Keeps (fun _ => False) w5 w') (fun w' k => hHeld.trans k) _ _ _ _ ?_
            have HK5 := Lib.hid hHeld
            replace hHeld : Keeps (fun _ => False) w5 w5 := Keeps.refl _ _
            clear hk
            have HC5 : Hid (∀ w', Keeps (fun _ => False) w5 w' → (convert 29 9 (.slice A5 m c5)).run Tryz.prog w' = .ok (.string (strOfNums l)) w') := fun w' k => (Lies.of_own (own_keeps HO5.out k (fun _ _ => id))).str_n (P := Tryz.prog) m HLM.out 29 9 5 c5 Tryz.underlying29 Tryz.underlying5 Tryz.underlying9
            refine wpAnyH_take (i := 6) (v := ?vz6x42) rfl (by kernel_rfl) (by kernel_rfl) (by kernel_rfl) (fun _ _ _ h => h) (Or.inl ⟨by rfl, ?yz6x42⟩) hHeld ?rz6x42
            case yz6x42 => (intro w' hSw; have hcv := HC5.out w' hSw; go_simp; try with_reducible rfl)
            simp only [Act.put, List.getElem_toArray, List.getElem_cons_succ, List.getElem_cons_zero, List.setIfInBounds_toArray, List.set_cons_zero, List.set_cons_succ]
            refine wpAnyH_take (i := 9) (v := ?vz9x43) rfl (by kernel_rfl) (by kernel_rfl) (by kernel_rfl) (fun _ _ _ h => h) (Or.inl ⟨by rfl, ?yz9x43⟩) hHeld ?rz9x43
            case yz9x43 => (intro w' hSw; go_simp; try with_reducible rfl)
            simp only [Act.put, List.getElem_toArray, List.getElem_cons_succ, List.getElem_cons_zero, List.setIfInBounds_toArray, List.set_cons_zero, List.set_cons_succ]
            refine wpAnyH_take (i := 10) (v := ?vz10x44) rfl (by kernel_rfl) (by kernel_rfl) (by kernel_rfl) (fun _ _ _ h => h) (Or.inl ⟨by rfl, ?yz10x44⟩) hHeld ?rz10x44
            case yz10x44 => (intro w' hSw; go_simp; try with_reducible rfl)
            simp only [Act.put, List.getElem_toArray, List.getElem_cons_succ, List.getElem_cons_zero, List.setIfInBounds_toArray, List.set_cons_zero, List.set_cons_succ]
            refine wpAnyH_take (i := 11) (v := ?vz11x45) rfl (by kernel_rfl) (by kernel_rfl) (by kernel_rfl) (fun _ _ _ h => h) (Or.inl ⟨by rfl, ?yz11x45⟩) hHeld ?rz11x45
            case yz11x45 => (intro w' hSw; go_simp; try with_reducible rfl)
            simp only [Act.put, List.getElem_toArray, List.getElem_cons_succ, List.getElem_cons_zero, List.setIfInBounds_toArray, List.set_cons_zero, List.set_cons_succ]
            refine wpAnyH_take (i := 12) (v := ?vz12x46) rfl (by kernel_rfl) (by kernel_rfl) (by kernel_rfl) (fun _ _ _ h => h) (Or.inl ⟨by rfl, ?yz12x46⟩) hHeld ?rz12x46
            case yz12x46 => (intro w' hSw; go_simp; try with_reducible rfl)
            simp only [Act.put, List.getElem_toArray, List.getElem_cons_succ, List.getElem_cons_zero, List.setIfInBounds_toArray, List.set_cons_zero, List.set_cons_succ]
            refine wpAnyH_take (i := 13) (v := ?vz13x47) rfl (by kernel_rfl) (by kernel_rfl) (by kernel_rfl) (fun _ _ _ h => h) (Or.inl ⟨by rfl, ?yz13x47⟩) hHeld ?rz13x47
            case yz13x47 => (intro w' hSw; go_simp; try with_reducible rfl)
            simp only [Act.put, List.getElem_toArray, List.getElem_cons_succ, List.getElem_cons_zero, List.setIfInBounds_toArray, List.set_cons_zero, List.set_cons_succ]
            refine wpAnyH_take (i := 14) (v := ?vz14x48) rfl (by kernel_rfl) (by kernel_rfl) (by kernel_rfl) (fun _ _ _ h => h) (Or.inl ⟨by rfl, ?yz14x48⟩) hHeld ?rz14x48
            case yz14x48 => (intro w' hSw; go_simp; try with_reducible rfl)
            simp only [Act.put, List.getElem_toArray, List.getElem_cons_succ, List.getElem_cons_zero, List.setIfInBounds_toArray, List.set_cons_zero, List.set_cons_succ]
            refine wpAnyH_take (i := 15) (v := undef) rfl (by kernel_rfl) (by kernel_rfl) (by kernel_rfl) (fun _ _ _ h => h) (Or.inr ⟨by rfl, rfl⟩) hHeld ?_
            simp only [Act.put, List.getElem_toArray, List.getElem_cons_succ, List.getElem_cons_zero, List.setIfInBounds_toArray, List.set_cons_zero, List.set_cons_succ]
            refine wpAnyH_take (i := 16) (v := undef) rfl (by kernel_rfl) (by kernel_rfl) (by kernel_rfl) (fun _ _ _ h => h) (Or.inr ⟨by rfl, rfl⟩) hHeld ?_
            simp only [Act.put, List.getElem_toArray, List.getElem_cons_succ, List.getElem_cons_zero, List.setIfInBounds_toArray, List.set_cons_zero, List.set_cons_succ]
            refine wpAnyH_take (i := 17) (v := undef) rfl (by kernel_rfl) (by kernel_rfl) (by kernel_rfl) (fun _ _ _ h => h) (Or.inr ⟨by rfl, rfl⟩) hHeld ?_
            simp only [Act.put, List.getElem_toArray, List.getElem_cons_succ, List.getElem_cons_zero, List.setIfInBounds_toArray, List.set_cons_zero, List.set_cons_succ]
            refine wpAnyH_take (i := 18) (v := undef) rfl (by kernel_rfl) (by kernel_rfl) (by kernel_rfl) (fun _ _ _ h => h) (Or.inr ⟨by rfl, rfl⟩) hHeld ?_
            simp only [Act.put, List.getElem_toArray, List.getElem_cons_succ, List.getElem_cons_zero, List.setIfInBounds_toArray, List.set_cons_zero, List.set_cons_succ]
            refine wpAnyH_take (i := 19) (v := undef) rfl (by kernel_rfl) (by kernel_rfl) (by kernel_rfl) (fun _ _ _ h => h) (Or.inr ⟨by rfl, rfl⟩) hHeld ?_
            simp only [Act.put, List.getElem_toArray, List.getElem_cons_succ, List.getElem_cons_zero, List.setIfInBounds_toArray, List.set_cons_zero, List.set_cons_succ]
            refine wpAnyH_take (i := 20) (v := undef) rfl (by kernel_rfl) (by kernel_rfl) (by kernel_rfl) (fun _ _ _ h => h) (Or.inr ⟨by rfl, rfl⟩) hHeld ?_
            simp only [Act.put, List.getElem_toArray, List.getElem_cons_succ, List.getElem_cons_zero, List.setIfInBounds_toArray, List.set_cons_zero, List.set_cons_succ]
            refine wpAnyH_take (i := 21) (v := undef) rfl (by kernel_rfl) (by kernel_rfl) (by kernel_rfl) (fun _ _ _ h => h) (Or.inr ⟨by rfl, rfl⟩) hHeld ?_
            simp only [Act.put, List.getElem_toArray, List.getElem_cons_succ, List.getElem_cons_zero, List.setIfInBounds_toArray, List.set_cons_zero, List.set_cons_succ]
            refine wpAnyH_take (i := 22) (v := ?vz22x49) rfl (by kernel_rfl) (by kernel_rfl) (by kernel_rfl) (fun _ _ _ h => h) (Or.inl ⟨by rfl, ?yz22x49⟩) hHeld ?rz22x49
            case yz22x49 => (intro w' hSw; go_simp; try with_reducible rfl)
            simp only [Act.put, List.getElem_toArray, List.getElem_cons_succ, List.getElem_cons_zero, List.setIfInBounds_toArray, List.set_cons_zero, List.set_cons_succ]
            refine wpAnyH_take (i := 23) (v := ?vz23x50) rfl (by kernel_rfl) (by kernel_rfl) (by kernel_rfl) (fun _ _ _ h => h) (Or.inl ⟨by rfl, ?yz23x50⟩) hHeld ?rz23x50
            case yz23x50 => (intro w' hSw; go_simp; try with_reducible rfl)
            simp only [Act.put, List.getElem_toArray, List.getElem_cons_succ, List.getElem_cons_zero, List.setIfInBounds_toArray, List.set_cons_zero, List.set_cons_succ]
            refine wpAnyH_done (by kernel_rfl) ?_ _
            clear hHeld
            refine NoPanic.normal ?_
            have HX5 : Hid (Keeps (fun _ => False) w4 w5) := Lib.hid (HX.out.trans HK5.out)
            clear HX HC5 HO5 HCB HBT
            go_wp2
            exact ⟨⟨t + 1, by go_num, by omega, HX5⟩, by simp [intOf]; omega⟩
          · obtain ⟨s, hs⟩ : ∃ s, t = s + 1 := ⟨t - 1, by omega⟩
            have HGT : Hid ((0 : Int) < (t : Int)) := by show (0 : Int) < _; omega
            have HSB : Hid (IntKind.i64.wrap ((t : Int) - 1) = (s : Int)) := by show _ = _; rw [show (t : Int) - 1 = (s : Int) by omega]; exact IntWalk.i64_in _ (by have := HNL6.out; omega)
            obtain ⟨ns, hns⟩ : ∃ x, (bnums G)[s]? = some x := ⟨_, List.getElem?_eq_getElem (by have := HNL.out; omega)⟩
            have hltn := bnums_lt (show s < t by omega) hns HNT.out
            have HPC : Hid (∀ w', Keeps (fun _ => False) wr w' → w'.cell? ⟨gl, s, none⟩ = some (.int .i64 (ns : Int))) := fun w' k => by
              have h1 := HCE.out s _ (by rw [List.getElem?_map, hns]; rfl)
              have hgl : gl < wr.heap.size := by
                rcases Nat.lt_or_ge gl wr.heap.size with h | h
                · exact h
                · simp [World.cell?, Array.getElem?_eq_none h] at h1
              exact (k.cell (p := ⟨gl, s, none⟩) hgl id).trans h1
            have hs0 : (0 : Int) ≤ (s : Int) := by omega
            have hs1 : (s : Int) < (nl : Int) := by omega
            have hge : ¬ (nt : Int) ≤ (ns : Int) := by omega
            clear hns hltn hs
            refine wp_region_noPanic ?_
            refine wp_region_held_drew (S := fun w' => Keeps (fun _ => False) wr w') (by kernel_rfl) ((Keeps.refl _ _).drewN 1) (fun hHeld => ?_)
            refine wpAnyH_take (i := 0) (v := ?vz0x51) rfl (by kernel_rfl) (by kernel_rfl) (by kernel_rfl) (fun _ _ _ h => h) (Or.inl ⟨by rfl, ?yz0x51⟩) hHeld ?rz0x51
            case yz0x51 => (intro w' hSw; go_simp; try with_reducible rfl)
            simp only [Act.put, List.getElem_toArray, List.getElem_cons_succ, List.getElem_cons_zero, List.setIfInBounds_toArray, List.set_cons_zero, List.set_cons_succ]
            refine wpAnyH_take (i := 1) (v := ?vz1x52) rfl (by kernel_rfl) (by kernel_rfl) (by kernel_rfl) (fun _ _ _ h => h) (Or.inl ⟨by rfl, ?yz1x52⟩) hHeld ?rz1x52
            case yz1x52 => (intro w' hSw; go_simp; try with_reducible rfl)
            simp only [Act.put, List.getElem_toArray, List.getElem_cons_succ, List.getElem_cons_zero, List.setIfInBounds_toArray, List.set_cons_zero, List.set_cons_succ]
            refine wpAnyH_take (i := 2) (v := ?vz2x53) rfl (by kernel_rfl) (by kernel_rfl) (by kernel_rfl) (fun _ _ _ h => h) (Or.inl ⟨by rfl, ?yz2x53⟩) hHeld ?rz2x53
            case yz2x53 => (intro w' hSw; go_simp; try with_reducible rfl)
            simp only [Act.put, List.getElem_toArray, List.getElem_cons_succ, List.getElem_cons_zero, List.setIfInBounds_toArray, List.set_cons_zero, List.set_cons_succ]
            refine wpAnyH_take (i := 3) (v := ?vz3x54) rfl (by kernel_rfl) (by kernel_rfl) (by kernel_rfl) (fun _ _ _ h => h) (Or.inl ⟨by rfl, ?yz3x54⟩) hHeld ?rz3x54
            case yz3x54 => (intro w' hSw; go_simp; try with_reducible rfl)
            simp only [Act.put, List.getElem_toArray, List.getElem_cons_succ, List.getElem_cons_zero, List.setIfInBounds_toArray, List.set_cons_zero, List.set_cons_succ]
            refine wpAnyH_take (i := 4) (v := ?vz4x55) rfl (by kernel_rfl) (by kernel_rfl) (by kernel_rfl) (fun _ _ _ h => h) (Or.inl ⟨by rfl, ?yz4x55⟩) hHeld ?rz4x55
            case yz4x55 => (intro w' hSw; go_simp; try with_reducible rfl)
            simp only [Act.put, List.getElem_toArray, List.getElem_cons_succ, List.getElem_cons_zero, List.setIfInBounds_toArray, List.set_cons_zero, List.set_cons_succ]
            refine wpAnyH_take (i := 7) (v := ?vz7x56) rfl (by kernel_rfl) (by kernel_rfl) (by kernel_rfl) (fun _ _ _ h => h) (Or.inl ⟨by rfl, ?yz7x56⟩) hHeld ?rz7x56
            case yz7x56 => (intro w' hSw; go_simp; try with_reducible rfl)
            simp only [Act.put, List.getElem_toArray, List.getElem_cons_succ, List.getElem_cons_zero, List.setIfInBounds_toArray, List.set_cons_zero, List.set_cons_succ]
            refine wpAnyH_take (i := 8) (v := ?vz8x57) rfl (by kernel_rfl) (by kernel_rfl) (by kernel_rfl) (fun _ _ _ h => h) (Or.inl ⟨by rfl, ?yz8x57⟩) hHeld ?rz8x57
            case yz8x57 => (intro w' hSw; have hcv := HCB.out w' hSw; go_simp; try with_reducible rfl)
            simp only [Act.put, List.getElem_toArray, List.getElem_cons_succ, List.getElem_cons_zero, List.setIfInBounds_toArray, List.set_cons_zero, List.set_cons_succ]
            refine wpAnyH_ready (rs := [5]) (by kernel_rfl) (by simp) ?_
            refine AllReadyH.cons rfl (fun KR hK => ?_) AllReadyH.nil
            go_simp
            refine (HBT.out.mono ?_)
            rintro r w5 ⟨A5, c5, rfl, ho5, hk⟩
            have HO5 := Lib.hid ho5
            clear ho5
            try dsimp only
            refine hK.out _ _ (hHeld.trans hk) (fun hHeld => ?_)
            clear hK KR
            try simp only [Act.put, List.getElem_toArray, List.getElem_cons_succ, List.getElem_cons_zero, List.setIfInBounds_toArray, List.set_cons_zero, List.set_cons_succ]
            refine Ao.wpAnyH_as (S' := fun w' => Keeps (fun _ => False) w5 w') (fun w' k => hHeld.trans k) _ _ _ _ ?_
            have HK5 := Lib.hid hHeld
            replace hHeld : Keeps (fun _ => False) w5 w5 := Keeps.refl _ _
            clear hk
            have HC5 : Hid (∀ w', Keeps (fun _ => False) w5 w' → (convert 29 9 (.slice A5 m c5)).run Tryz.prog w' = .ok (.string (strOfNums l)) w') := fun w' k => (Lies.of_own (own_keeps HO5.out k (fun _ _ => id))).str_n (P := Tryz.prog) m HLM.out 29 9 5 c5 Tryz.underlying29 Tryz.underlying5 Tryz.underlying9
            refine wpAnyH_take (i := 6) (v := ?vz6x58) rfl (by kernel_rfl) (by kernel_rfl) (by kernel_rfl) (fun _ _ _ h => h) (Or.inl ⟨by rfl, ?yz6x58⟩) hHeld ?rz6x58
            case yz6x58 => (intro w' hSw; have hcv := HC5.out w' hSw; go_simp; try with_reducible rfl)
            simp only [Act.put, List.getElem_toArray, List.getElem_cons_succ, List.getElem_cons_zero, List.setIfInBounds_toArray, List.set_cons_zero, List.set_cons_succ]
            refine wpAnyH_take (i := 9) (v := ?vz9x59) rfl (by kernel_rfl) (by kernel_rfl) (by kernel_rfl) (fun _ _ _ h => h) (Or.inl ⟨by rfl, ?yz9x59⟩) hHeld ?rz9x59
            case yz9x59 => (intro w' hSw; go_simp; try with_reducible rfl)
            simp only [Act.put, List.getElem_toArray, List.getElem_cons_succ, List.getElem_cons_zero, List.setIfInBounds_toArray, List.set_cons_zero, List.set_cons_succ]
            refine wpAnyH_take (i := 10) (v := ?vz10x60) rfl (by kernel_rfl) (by kernel_rfl) (by kernel_rfl) (fun _ _ _ h => h) (Or.inl ⟨by rfl, ?yz10x60⟩) hHeld ?rz10x60
            case yz10x60 => (intro w' hSw; go_simp; try with_reducible rfl)
            simp only [Act.put, List.getElem_toArray, List.getElem_cons_succ, List.getElem_cons_zero, List.setIfInBounds_toArray, List.set_cons_zero, List.set_cons_succ]
            refine wpAnyH_take (i := 11) (v := ?vz11x61) rfl (by kernel_rfl) (by kernel_rfl) (by kernel_rfl) (fun _ _ _ h => h) (Or.inl ⟨by rfl, ?yz11x61⟩) hHeld ?rz11x61
            case yz11x61 => (intro w' hSw; go_simp; try with_reducible rfl)
            simp only [Act.put, List.getElem_toArray, List.getElem_cons_succ, List.getElem_cons_zero, List.setIfInBounds_toArray, List.set_cons_zero, List.set_cons_succ]
            refine wpAnyH_take (i := 12) (v := ?vz12x62) rfl (by kernel_rfl) (by kernel_rfl) (by kernel_rfl) (fun _ _ _ h => h) (Or.inl ⟨by rfl, ?yz12x62⟩) hHeld ?rz12x62
            case yz12x62 => (intro w' hSw; go_simp; try with_reducible rfl)
            simp only [Act.put, List.getElem_toArray, List.getElem_cons_succ, List.getElem_cons_zero, List.setIfInBounds_toArray, List.set_cons_zero, List.set_cons_succ]
            refine wpAnyH_take (i := 13) (v := .bool true) rfl (by kernel_rfl) (by kernel_rfl) (by kernel_rfl) (fun _ _ _ h => h) (Or.inl ⟨by rfl, ?yz13x63⟩) hHeld ?rz13x63
            case yz13x63 => (intro w' hSw; have hgg := HGT.out; go_simp; first | done | (simp; omega) | omega)
            simp only [Act.put, List.getElem_toArray, List.getElem_cons_succ, List.getElem_cons_zero, List.setIfInBounds_toArray, List.set_cons_zero, List.set_cons_succ]
            refine wpAnyH_take (i := 14) (v := ?vz14x64) rfl (by kernel_rfl) (by kernel_rfl) (by kernel_rfl) (fun _ _ _ h => h) (Or.inl ⟨by rfl, ?yz14x64⟩) hHeld ?rz14x64
            case yz14x64 => (intro w' hSw; go_simp; try with_reducible rfl)
            simp only [Act.put, List.getElem_toArray, List.getElem_cons_succ, List.getElem_cons_zero, List.setIfInBounds_toArray, List.set_cons_zero, List.set_cons_succ]
            refine wpAnyH_take (i := 15) (v := ?vz15x65) rfl (by kernel_rfl) (by kernel_rfl) (by kernel_rfl) (fun _ _ _ h => h) (Or.inl ⟨by rfl, ?yz15x65⟩) hHeld ?rz15x65
            case yz15x65 => (intro w' hSw; go_simp; try with_reducible rfl)
            simp only [Act.put, List.getElem_toArray, List.getElem_cons_succ, List.getElem_cons_zero, List.setIfInBounds_toArray, List.set_cons_zero, List.set_cons_succ]
            refine wpAnyH_take (i := 16) (v := ?vz16x66) rfl (by kernel_rfl) (by kernel_rfl) (by kernel_rfl) (fun _ _ _ h => h) (Or.inl ⟨by rfl, ?yz16x66⟩) hHeld ?rz16x66
            case yz16x66 => (intro w' hSw; go_simp; try with_reducible rfl)
            simp only [Act.put, List.getElem_toArray, List.getElem_cons_succ, List.getElem_cons_zero, List.setIfInBounds_toArray, List.set_cons_zero, List.set_cons_succ]
            refine wpAnyH_take (i := 17) (v := .int .i64 (s : Int)) rfl (by kernel_rfl) (by kernel_rfl) (by kernel_rfl) (fun _ _ _ h => h) (Or.inl ⟨by rfl, ?yz17x67⟩) hHeld ?rz17x67
            case yz17x67 => (intro w' hSw; have hsb := HSB.out; go_simp; first | done | exact hsb | simp [hsb])
            simp only [Act.put, List.getElem_toArray, List.getElem_cons_succ, List.getElem_cons_zero, List.setIfInBounds_toArray, List.set_cons_zero, List.set_cons_succ]
            refine wpAnyH_take (i := 18) (v := ?vz18x68) rfl (by kernel_rfl) (by kernel_rfl) (by kernel_rfl) (fun _ _ _ h => h) (Or.inl ⟨by rfl, ?yz18x68⟩) hHeld ?rz18x68
            case yz18x68 => (intro w' hSw; go_simp; try with_reducible rfl)
            simp only [Act.put, List.getElem_toArray, List.getElem_cons_succ, List.getElem_cons_zero, List.setIfInBounds_toArray, List.set_cons_zero, List.set_cons_succ]
            refine wpAnyH_take (i := 19) (v := ?vz19x69) rfl (by kernel_rfl) (by kernel_rfl) (by kernel_rfl) (fun _ _ _ h => h) (Or.inl ⟨by rfl, ?yz19x69⟩) hHeld ?rz19x69
            case yz19x69 => (intro w' hSw; have hpc := HPC.out w' (HK5.out.trans hSw); go_simp; try with_reducible rfl)
            simp only [Act.put, List.getElem_toArray, List.getElem_cons_succ, List.getElem_cons_zero, List.setIfInBounds_toArray, List.set_cons_zero, List.set_cons_succ]
            refine wpAnyH_take (i := 20) (v := ?vz20x70) rfl (by kernel_rfl) (by kernel_rfl) (by kernel_rfl) (fun _ _ _ h => h) (Or.inl ⟨by rfl, ?yz20x70⟩) hHeld ?rz20x70
            case yz20x70 => (intro w' hSw; go_simp; try with_reducible rfl)
            simp only [Act.put, List.getElem_toArray, List.getElem_cons_succ, List.getElem_cons_zero, List.setIfInBounds_toArray, List.set_cons_zero, List.set_cons_succ]
            refine wpAnyH_take (i := 21) (v := ?vz21x71) rfl (by kernel_rfl) (by kernel_rfl) (by kernel_rfl) (fun _ _ _ h => h) (Or.inl ⟨by rfl, ?yz21x71⟩) hHeld ?rz21x71
            case yz21x71 => (intro w' hSw; go_simp; try with_reducible rfl)
            simp only [Act.put, List.getElem_toArray, List.getElem_cons_succ, List.getElem_cons_zero, List.setIfInBounds_toArray, List.set_cons_zero, List.set_cons_succ]
            refine wpAnyH_take (i := 22) (v := ?vz22x72) rfl (by kernel_rfl) (by kernel_rfl) (by kernel_rfl) (fun _ _ _ h => h) (Or.inl ⟨by rfl, ?yz22x72⟩) hHeld ?rz22x72
            case yz22x72 => (intro w' hSw; go_simp; try with_reducible rfl)
            simp only [Act.put, List.getElem_toArray, List.getElem_cons_succ, List.getElem_cons_zero, List.setIfInBounds_toArray, List.set_cons_zero, List.set_cons_succ]
            refine wpAnyH_take (i := 23) (v := ?vz23x73) rfl (by kernel_rfl) (by kernel_rfl) (by kernel_rfl) (fun _ _ _ h => h) (Or.inl ⟨by rfl, ?yz23x73⟩) hHeld ?rz23x73
            case yz23x73 => (intro w' hSw; go_simp; try with_reducible rfl)
            simp only [Act.put, List.getElem_toArray, List.getElem_cons_succ, List.getElem_cons_zero, List.setIfInBounds_toArray, List.set_cons_zero, List.set_cons_succ]
            refine wpAnyH_done (by kernel_rfl) ?_ _
            clear hHeld
            refine NoPanic.normal ?_
            have HX5 : Hid (Keeps (fun _ => False) w4 w5) := Lib.hid (HX.out.trans HK5.out)
            clear HX HC5 HO5 HCB HBT
            go_wp2
            exact ⟨⟨t + 1, by go_num, by omega, HX5⟩, by simp [intOf]; omega⟩
        · obtain rfl : t = nl := by omega
          have hxw : (Lit.int .i64 (-1)).wf = true := by decide
          have hhad : hadI G (-1) = [] := by unfold hadI; rw [if_neg (by omega)]
          have HBT := Lib.hid (HBK.out (-1) 0 wr HKR.out hxw (by rw [hhad]; rfl))
          have HKZ := Lib.hid (HKE.out.trans HKR.out)
          clear hxw hhad
          go_wp2_with fail
          refine HBT.out.mono ?_
          rintro r w5 ⟨A5, c5, rfl, ho5, hk5⟩
          have HK5 := Lib.hid (HKZ.out.trans hk5)
          clear ho5 hk5 HBT
          go_wp2
          go_ret
          exact ⟨rfl, HK5.out⟩
end Go.Proofs.YtgaofnmgdefdcaaGreatDoor.Qm

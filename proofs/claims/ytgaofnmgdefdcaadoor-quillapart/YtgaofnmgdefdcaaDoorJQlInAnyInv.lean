/- What the laws on series are handed in, as plain data: ways by small numbers, acts, numbers; they lie below what a law makes. Names no function of the program. -/
/- A region that draws its order, by one fact that every operation keeps, whichever comes up next. No program, no conditions beyond those that each law names. -/
/- A region that draws its order, some of its operations taken ahead: one fact over the values of chosen slots that every operation keeps, whichever comes up next. No program, no conditions beyond those that each law names. -/
import Derived.Test.YtgaofnmgdefdcaaDoorQlNum
import Derived.Test.YtgaofnmgdefdcaaDoorDsSmA
import Derived.Test.YtgaofnmgdefdcaaDoorJWireTakeQlArr
import Derived.OrdersHeld
import Derived.Deep.RegionHeld3

namespace Go.Proofs.YtgaofnmgdefdcaaDoor.Qn
open Go.RowKit Go.Proofs.YtgaofnmgdefdcaaDoor.Gen Go.Proofs.YtgaofnmgdefdcaaDoor.Hr Go.Proofs.YtgaofnmgdefdcaaDoor.Hn Go.Proofs.YtgaofnmgdefdcaaDoor.Ds Go.Proofs.YtgaofnmgdefdcaaDoor.Ky Go.Proofs.YtgaofnmgdefdcaaDoor.Ib Go.Proofs.YtgaofnmgdefdcaaDoor.It Go.Proofs.YtgaofnmgdefdcaaDoor.Bp Go.Proofs.YtgaofnmgdefdcaaDoor.Qu

/-- Ways that came in. -/
structure Ways (w : World) (A : Option Addr) (n : Nat) (f : Nat → Sm) (fa : Nat → Option Addr) (fc : Nat → Nat) (b o : Nat) : Prop where
  ok : ∀ i, i < n → (f i).ok
  at_ : 0 < n → A = some ⟨b, o, none⟩ ∧ b < w.heap.size
  cell : ∀ i, i < n → ∀ j, j < 7 → w.cell? ⟨b, o + i * 7 + j, none⟩ = ((f i).v (fa i) (fc i))[j]?
/-- An act. -/
structure Ac where
  way : Int
  N : Int
  wh : Int
  A : Option Addr
  n : Nat
  c : Nat
  arr : Bool
  bs : List Int
def Ac.v (a : Ac) : Array Value := actv a.way a.N a.wh a.A a.n a.c a.arr
structure Ac.ok (a : Ac) (w : World) : Prop where
  way : 0 ≤ a.way ∧ a.way < 256
  num : -9223372036854775808 ≤ a.N ∧ a.N ≤ 9223372036854775807
  wh : 0 ≤ a.wh ∧ a.wh < 256
  len : a.bs.length = a.n
  cap : a.A = none → a.c = 0
  lies : Lies w a.A a.bs
  byte : ∀ y ∈ a.bs, 0 ≤ y ∧ y < 256
structure Acts (w : World) (A : Option Addr) (n : Nat) (f : Nat → Ac) (b o : Nat) : Prop where
  ok : ∀ i, i < n → (f i).ok w
  at_ : 0 < n → A = some ⟨b, o, none⟩ ∧ b < w.heap.size
  cell : ∀ i, i < n → ∀ j, j < 5 → w.cell? ⟨b, o + i * 5 + j, none⟩ = (f i).v[j]?
section
variable {w w1 : World} {A : Option Addr} {n b o : Nat}
theorem Ways.keeps {f : Nat → Sm} {fa : Nat → Option Addr} {fc : Nat → Nat} (h : Ways w A n f fa fc b o) (k : Keeps (w.heap.size ≤ ·) w w1) : Ways w1 A n f fa fc b o :=
  ⟨h.ok, fun h0 => ⟨(h.at_ h0).1, Nat.lt_of_lt_of_le (h.at_ h0).2 k.size⟩, fun i hi j hj => (k.cell (p := ⟨b, o + i * 7 + j, none⟩) (h.at_ (by omega)).2 (by have := (h.at_ (by omega)).2; show ¬ w.heap.size ≤ b; omega)).trans (h.cell i hi j hj)⟩
theorem Ac.ok.keeps {a : Ac} (h : a.ok w) (k : Keeps (w.heap.size ≤ ·) w w1) : a.ok w1 := by
  refine ⟨h.way, h.num, h.wh, h.len, h.cap, ?_, h.byte⟩
  rcases h.lies with h1 | ⟨b, o, h1, hb, _⟩
  · exact .inl h1
  · exact h.lies.keeps k fun b' o' e hs => by
      rw [h1] at e
      injection e with e
      injection e with e
      omega
theorem Acts.keeps {f : Nat → Ac} (h : Acts w A n f b o) (k : Keeps (w.heap.size ≤ ·) w w1) : Acts w1 A n f b o :=
  ⟨fun i hi => (h.ok i hi).keeps k, fun h0 => ⟨(h.at_ h0).1, Nat.lt_of_lt_of_le (h.at_ h0).2 k.size⟩, fun i hi j hj => (k.cell (p := ⟨b, o + i * 5 + j, none⟩) (h.at_ (by omega)).2 (by have := (h.at_ (by omega)).2; show ¬ w.heap.size ≤ b; omega)).trans (h.cell i hi j hj)⟩
/-- An act's bytes lie below what is made. -/
theorem Ac.ok.low {a : Ac} (h : a.ok w) : a.bs ≠ [] → ∀ b o, a.A = some ⟨b, o, none⟩ → b < w.heap.size := fun h0 b o e => by
  rcases h.lies with h1 | ⟨b', o', h1, hb, _⟩
  · exact absurd h1 h0
  · rw [h1] at e
    injection e with e
    injection e with e
    omega
end
/-- The way that an act names. -/
def wayAt (a : Ac) (n : Nat) : Nat := (a.way % (n : Int)).toNat
theorem wayAt_lt {a : Ac} {n : Nat} (h : 0 ≤ a.way) (hn : 0 < n) : a.way.tmod (n : Int) = (wayAt a n : Int) ∧ wayAt a n < n := by
  have h1 := Int.emod_nonneg a.way (show (n : Int) ≠ 0 by omega)
  have h2 := Int.emod_lt_of_pos a.way (show (0 : Int) < n by omega)
  refine ⟨?_, ?_⟩
  · rw [Int.tmod_eq_emod_of_nonneg h]
    unfold wayAt
    omega
  · unfold wayAt
    omega
/-! ### what a deed leaves alone, how much it adds -/
theorem pInt_far (d : D) (x : Int) (s : St) (k : Nat) (h : d.K = 1 → d.B.toNat ≠ k) : (pInt d x s).2.2 k = s.2 k := by
  unfold pInt
  split
  · unfold putN
    split
    · rfl
    · split
      · rename_i h1
        show pc s.2 d.B.toNat _ k = _
        unfold pc
        rw [if_neg (fun e => h h1 e.symm)]
      · split
        · unfold putW
          split <;> rfl
        · unfold putF
          split <;> rfl
  · rfl
theorem pArr_far (a : E) (bs : List Int) (s : St) (k : Nat) (h1 : a.B.toNat ≠ k) (h2 : a.d.K = 1 → a.d.B.toNat ≠ k) : (pArr a bs s).2.2 k = s.2 k := by
  unfold pArr
  split
  · split
    · unfold pStop
      split
      · rfl
      · show pc s.2 a.B.toNat _ k = _
        unfold pc
        rw [if_neg (fun e => h1 e.symm)]
    · unfold pCnt
      split
      · show pc (pInt a.d bs.length s).2.2 a.B.toNat _ k = _
        unfold pc
        rw [if_neg (fun e => h1 e.symm)]
        exact pInt_far a.d bs.length s k h2
      · exact pInt_far a.d bs.length s k h2
  · rfl
theorem pArr_len (a : E) (bs : List Int) (s : St) : (pArr a bs s).2.1.length ≤ s.1.length + 32 ∧ ∀ j, (hadP (pArr a bs s).2.2 j).length ≤ (hadP s.2 j).length + bs.length + 10 := by
  have h0 : s.1.length ≤ s.1.length + 32 ∧ ∀ j, (hadP s.2 j).length ≤ (hadP s.2 j).length + bs.length + 10 := ⟨by omega, fun j => by omega⟩
  have hi := pInt_len a.d bs.length s
  unfold pArr
  split
  · split
    · unfold pStop
      split
      · exact h0
      · refine ⟨by simp, fun j => ?_⟩
        simp only [hadP_pc]
        split
        · rename_i hj
          subst hj
          simp only [List.length_append, List.length_singleton]
          omega
        · omega
    · unfold pCnt
      split
      · refine ⟨hi.1, fun j => ?_⟩
        simp only [hadP_pc]
        have h1 := hi.2 j
        split
        · rename_i hj
          subst hj
          rw [List.length_append]
          omega
        · omega
      · exact ⟨hi.1, fun j => by have := hi.2 j; omega⟩
  · exact h0
theorem fits_small {d : D} (h : chkI d = 0) : ∀ y ∈ (if d.K = 3 then d.L else []), Fits y := by
  intro y hy
  split at hy
  · rename_i h3
    have hw : newE d.L = 0 := by simpa [chkI, h3] using h
    have := newE_in hw y hy
    exact ⟨⟨by omega, by omega⟩, ⟨by omega, by omega⟩⟩
  · simp at hy
theorem fits_I {s : Sm} (h : s.ok) : ∀ y ∈ s.I.L, Fits y := by
  have h1 := fits_small (Sm.I_ok h).1
  by_cases h3 : s.I.K = 3
  · rw [if_pos h3] at h1
    exact h1
  · intro y hy
    exfalso
    unfold Sm.I at h3 hy
    split at hy
    · simp at hy
    · split at hy
      · simp at hy
      · rename_i h4 h5
        rw [if_neg h4, if_neg h5] at h3
        exact h3 rfl
theorem fits_A {s : Sm} (h : s.ok) : ∀ y ∈ s.A.d.L, Fits y := by
  intro y hy
  unfold Sm.A at hy
  split at hy
  · simp [D0] at hy
  · exact fits_I h y hy
theorem A_S {s : Sm} (h : s.ok) : 0 ≤ s.A.S ∧ s.A.S < 256 := by
  unfold Sm.A
  split
  · exact h.S
  · show 0 ≤ (0 : Int) ∧ (0 : Int) < 256
    omega
end Go.Proofs.YtgaofnmgdefdcaaDoor.Qn

namespace Go.Proofs.YtgaofnmgdefdcaaDoor.Ao

theorem countP_less {p q : Nat → Bool} : ∀ (l : List Nat) (i : Nat), (∀ j, q j = true → p j = true) → i ∈ l → p i = true → q i = false → l.countP q < l.countP p
  | [], i, _, hi, _, _ => by cases hi
  | x :: l, i, h, hi, hp, hq => by
    have hle : l.countP q ≤ l.countP p := List.countP_mono_left fun j _ => h j
    rw [List.countP_cons, List.countP_cons]
    rcases List.mem_cons.1 hi with rfl | hi
    · rw [hp, hq]
      simp
      omega
    · have := countP_less l i h hi hp hq
      cases hx : q x with
      | false => simp; split <;> omega
      | true => rw [h x hx]; simp; omega
/-- How many have not come up. -/
def left (n : Nat) (listed : Array Bool) : Nat := (List.range n).countP fun j => !listed.getD j true
theorem ready_mem {md : Region.Mode} {ops : Array Oper} {listed : Array Bool} {i : Nat} (h : i ∈ Region.ready md ops listed) :
    i < ops.size ∧ listed.getD i true = false ∧ ∀ o, ops[i]? = some o → (o.after.all fun e => !Region.binds md e || listed.getD e.on false) = true := by
  unfold Region.ready at h
  rw [List.mem_filter, List.mem_range] at h
  obtain ⟨h1, h2⟩ := h
  simp only [Bool.and_eq_true, Bool.not_eq_true'] at h2
  refine ⟨h1, h2.1, fun o ho => ?_⟩
  have h3 := h2.2
  rw [ho] at h3
  exact h3
theorem getD_set {listed : Array Bool} {i : Nat} (hi : i < listed.size) (j : Nat) (b : Bool) : (listed.setIfInBounds i true).getD j b = if i = j then true else listed.getD j b := by
  simp only [Array.getD_eq_getD_getElem?, Array.getElem?_setIfInBounds]
  by_cases h : i = j
  · subst h
    simp [hi]
  · simp [h]
theorem getD_lt {listed : Array Bool} {i : Nat} (h : listed.getD i true = false) : i < listed.size := by
  rcases Nat.lt_or_ge i listed.size with h1 | h1
  · exact h1
  · simp [Array.getD_eq_getD_getElem?, Array.getElem?_eq_none h1] at h
theorem wpAnyH_inv {P : Program} {md : Region.Mode} {ops : Array Oper} {Q : Exit → Act → World → Prop} (I : (Nat → Bool) → Act → World → Prop)
    (hs : ∀ (L : Nat → Bool) (a : Act) (w : World) (i : Nat) (o : Oper), I L a w → L i = false → ops[i]? = some o → (o.after.all fun e => !Region.binds md e || L e.on) = true →
      wpOp P ops Q i (I (fun j => if i = j then true else L j)) a w)
    (he : ∀ (L : Nat → Bool) (a : Act) (w : World), I L a w → (∀ i, i < ops.size → L i = false → ∃ o, ops[i]? = some o ∧ (o.after.all fun e => !Region.binds md e || L e.on) = false) → Q .normal a w) :
    ∀ (fuel : Nat) (listed : Array Bool) (a : Act) (w : World), listed.size = ops.size → left ops.size listed ≤ fuel → I (fun j => listed.getD j false) a w → wpAnyH P md ops Q (fun _ => True) fuel listed a w := by
  have hsame : ∀ (listed : Array Bool) (i : Nat), i < listed.size → listed.getD i false = listed.getD i true := by
    intro listed i hi
    simp [Array.getD_eq_getD_getElem?, hi]
  have hend : ∀ (listed : Array Bool) (a : Act) (w : World), listed.size = ops.size → I (fun j => listed.getD j false) a w → Region.ready md ops listed = [] → Q .normal a w := by
    intro listed a w hsz hI hr
    refine he _ a w hI fun i hi hL => ?_
    refine ⟨ops[i], Array.getElem?_eq_getElem hi, ?_⟩
    cases hb : (ops[i].after.all fun e => !Region.binds md e || listed.getD e.on false) with
    | false => rfl
    | true =>
      have : i ∈ Region.ready md ops listed := by
        unfold Region.ready
        rw [List.mem_filter, List.mem_range]
        refine ⟨hi, ?_⟩
        rw [Array.getElem?_eq_getElem hi]
        simp only [Option.map_some, Option.getD_some, hb, Bool.and_true, Bool.not_eq_true']
        rw [← hsame listed i (by omega)]
        exact hL
      rw [hr] at this
      cases this
  intro fuel
  induction fuel with
  | zero =>
    intro listed a w hsz hf hI
    have hr : Region.ready md ops listed = [] := by
      cases hq : Region.ready md ops listed with
      | nil => rfl
      | cons i rs =>
        obtain ⟨h1, h2, _⟩ := ready_mem (i := i) (md := md) (ops := ops) (listed := listed) (by rw [hq]; simp)
        have : 0 < left ops.size listed := List.countP_pos_iff.2 ⟨i, List.mem_range.2 h1, by simp [h2]⟩
        omega
    exact ⟨hr, hend listed a w hsz hI hr⟩
  | succ fuel ih =>
    intro listed a w hsz hf hI
    refine ⟨fun hr => hend listed a w hsz hI hr, fun i hi => ?_⟩
    obtain ⟨h1, h2, h3⟩ := ready_mem hi
    have hli := getD_lt h2
    have hs1 := hs _ a w i ops[i] hI (by rw [hsame listed i hli]; exact h2) (Array.getElem?_eq_getElem h1) (h3 _ (Array.getElem?_eq_getElem h1))
    have hk : ∀ a' w', I (fun j => if i = j then true else listed.getD j false) a' w' → True ∧ wpAnyH P md ops Q (fun _ => True) fuel (listed.setIfInBounds i true) a' w' := by
      intro a' w' hI'
      refine ⟨trivial, ih _ a' w' (by simpa using hsz) ?_ ?_⟩
      · have : left ops.size (listed.setIfInBounds i true) < left ops.size listed := by
          refine countP_less _ i (fun j hj => ?_) (List.mem_range.2 h1) (by simp [h2]) (by simp [getD_set hli])
          rw [getD_set hli] at hj
          by_cases e : i = j
          · simp [e] at hj
          · simpa [e] using hj
        omega
      · have : (fun j => (listed.setIfInBounds i true).getD j false) = fun j => if i = j then true else listed.getD j false := funext fun j => getD_set hli j false
        rw [this]
        exact hI'
    exact wpOp_mono hk hs1
end Go.Proofs.YtgaofnmgdefdcaaDoor.Ao

namespace Go.Proofs.YtgaofnmgdefdcaaDoor.Ao

theorem wpAnyH_invS {P : Program} {md : Region.Mode} {ops : Array Oper} {Q : Exit → Act → World → Prop} {S : World → Prop} (I : (Nat → Bool) → Act → World → Prop)
    (hS : ∀ (L : Nat → Bool) (a : Act) (w : World), I L a w → S w)
    (hs : ∀ (L : Nat → Bool) (a : Act) (w : World) (i : Nat) (o : Oper), I L a w → L i = false → ops[i]? = some o → (o.after.all fun e => !Region.binds md e || L e.on) = true →
      wpOp P ops Q i (I (fun j => if i = j then true else L j)) a w)
    (he : ∀ (L : Nat → Bool) (a : Act) (w : World), I L a w → (∀ i, i < ops.size → L i = false → ∃ o, ops[i]? = some o ∧ (o.after.all fun e => !Region.binds md e || L e.on) = false) → Q .normal a w) :
    ∀ (fuel : Nat) (listed : Array Bool) (a : Act) (w : World), listed.size = ops.size → left ops.size listed ≤ fuel → I (fun j => listed.getD j false) a w → wpAnyH P md ops Q S fuel listed a w := by
  have hsame : ∀ (listed : Array Bool) (i : Nat), i < listed.size → listed.getD i false = listed.getD i true := by
    intro listed i hi
    simp [Array.getD_eq_getD_getElem?, hi]
  have hend : ∀ (listed : Array Bool) (a : Act) (w : World), listed.size = ops.size → I (fun j => listed.getD j false) a w → Region.ready md ops listed = [] → Q .normal a w := by
    intro listed a w hsz hI hr
    refine he _ a w hI fun i hi hL => ?_
    refine ⟨ops[i], Array.getElem?_eq_getElem hi, ?_⟩
    cases hb : (ops[i].after.all fun e => !Region.binds md e || listed.getD e.on false) with
    | false => rfl
    | true =>
      have : i ∈ Region.ready md ops listed := by
        unfold Region.ready
        rw [List.mem_filter, List.mem_range]
        refine ⟨hi, ?_⟩
        rw [Array.getElem?_eq_getElem hi]
        simp only [Option.map_some, Option.getD_some, hb, Bool.and_true, Bool.not_eq_true']
        rw [← hsame listed i (by omega)]
        exact hL
      rw [hr] at this
      cases this
  intro fuel
  induction fuel with
  | zero =>
    intro listed a w hsz hf hI
    have hr : Region.ready md ops listed = [] := by
      cases hq : Region.ready md ops listed with
      | nil => rfl
      | cons i rs =>
        obtain ⟨h1, h2, _⟩ := ready_mem (i := i) (md := md) (ops := ops) (listed := listed) (by rw [hq]; simp)
        have : 0 < left ops.size listed := List.countP_pos_iff.2 ⟨i, List.mem_range.2 h1, by simp [h2]⟩
        omega
    exact ⟨hr, hend listed a w hsz hI hr⟩
  | succ fuel ih =>
    intro listed a w hsz hf hI
    refine ⟨fun hr => hend listed a w hsz hI hr, fun i hi => ?_⟩
    obtain ⟨h1, h2, h3⟩ := ready_mem hi
    have hli := getD_lt h2
    have hs1 := hs _ a w i ops[i] hI (by rw [hsame listed i hli]; exact h2) (Array.getElem?_eq_getElem h1) (h3 _ (Array.getElem?_eq_getElem h1))
    have hk : ∀ a' w', I (fun j => if i = j then true else listed.getD j false) a' w' → S w' ∧ wpAnyH P md ops Q S fuel (listed.setIfInBounds i true) a' w' := by
      intro a' w' hI'
      refine ⟨hS _ _ _ hI', ih _ a' w' (by simpa using hsz) ?_ ?_⟩
      · have : left ops.size (listed.setIfInBounds i true) < left ops.size listed := by
          refine countP_less _ i (fun j hj => ?_) (List.mem_range.2 h1) (by simp [h2]) (by simp [getD_set hli])
          rw [getD_set hli] at hj
          by_cases e : i = j
          · simp [e] at hj
          · simpa [e] using hj
        omega
      · have : (fun j => (listed.setIfInBounds i true).getD j false) = fun j => if i = j then true else listed.getD j false := funext fun j => getD_set hli j false
        rw [this]
        exact hI'
    exact wpOp_mono hk hs1
/-- What holds of every world from now on may be taken narrower. -/
theorem wpAnyH_as {P : Program} {md : Region.Mode} {ops : Array Oper} {Q : Exit → Act → World → Prop} {S S' : World → Prop} (h : ∀ w, S' w → S w) :
    ∀ (fuel : Nat) (listed : Array Bool) (a : Act) (w : World), wpAnyH P md ops Q S' fuel listed a w → wpAnyH P md ops Q S fuel listed a w
  | 0, _, _, _, hx => hx
  | fuel + 1, _, _, _, hx => ⟨hx.1, fun i hi => wpOp_mono (fun a' w' hh => ⟨h _ hh.1, wpAnyH_as h fuel _ a' w' hh.2⟩) (hx.2 i hi)⟩
/-- Values of chosen slots. -/
def puts (a : Act) : List Tmp → List Value → Act
  | d :: ds, v :: vs => puts (a.put (some d) v) ds vs
  | _, _ => a
theorem wpAnyH_vals {P : Program} {md : Region.Mode} {ops : Array Oper} {Q : Exit → Act → World → Prop} {S : World → Prop} {a : Act} {w : World} {fuel : Nat} {listed : Array Bool} (ds : List Tmp) (vs0 : List Value) (J : (Nat → Bool) → List Value → World → Prop)
    (ha : puts a ds vs0 = a)
    (hsz : listed.size = ops.size) (hf : left ops.size listed ≤ fuel)
    (hac : ((List.range ops.size).all fun i => ((ops[i]?).map fun o => o.after.all fun e => decide (e.on < i)).getD true) = true)
    (h0 : J (fun j => listed.getD j false) vs0 w)
    (hS : ∀ (L : Nat → Bool) (vs : List Value) (w : World), J L vs w → S w)
    (hs : ∀ (L : Nat → Bool) (vs : List Value) (w : World) (i : Nat) (o : Oper), J L vs w → L i = false → ops[i]? = some o → (o.after.all fun e => !Region.binds md e || L e.on) = true →
      wpOp P ops Q i (fun a' w' => ∃ vs', a' = puts a ds vs' ∧ J (fun j => if i = j then true else L j) vs' w') (puts a ds vs) w)
    (he : ∀ (L : Nat → Bool) (vs : List Value) (w : World), J L vs w → (∀ i, i < ops.size → L i = true) → Q .normal (puts a ds vs) w) :
    wpAnyH P md ops Q S fuel listed a w := by
  refine wpAnyH_invS (fun L a' w' => ∃ vs, a' = puts a ds vs ∧ J L vs w') (fun L a' w' ⟨vs, _, hJ⟩ => hS L vs w' hJ) ?_ ?_ fuel listed a w hsz hf ⟨vs0, ha.symm, h0⟩
  · rintro L a' w' i o ⟨vs, rfl, hJ⟩ hL ho hall
    exact hs L vs w' i o hJ hL ho hall
  · rintro L a' w' ⟨vs, rfl, hJ⟩ hn
    refine he L vs w' hJ ?_
    intro i
    induction i using Nat.strongRecOn with
    | _ i ih =>
      intro hi
      cases hL : L i with
      | true => rfl
      | false =>
        obtain ⟨o, ho, hfa⟩ := hn i hi hL
        have h1 := List.all_eq_true.1 hac i (List.mem_range.2 hi)
        rw [ho] at h1
        simp only [Option.map_some, Option.getD_some] at h1
        have : (o.after.all fun e => !Region.binds md e || L e.on) = true := by
          rw [Array.all_eq_true] at h1 ⊢
          intro k hk
          have h2 := of_decide_eq_true (h1 k hk)
          rw [ih _ h2 (by omega), Bool.or_true]
        rw [this] at hfa
        cases hfa
end Go.Proofs.YtgaofnmgdefdcaaDoor.Ao

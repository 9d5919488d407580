/- What the laws on series are handed in, as plain data: ways by small numbers, acts, numbers; they lie below what a law makes. Names no function of the program. -/
/- Deeds in their order: plain facts of LensBack: what is put in order, is taken in order, and nothing is left. Names no function of the program. -/
/- Rows of one's own of structs: ways, acts (LensBack): append, a cell stored. -/
/- lens: New: of a row of bits, and of blocks. -/
import Derived.Test.YtgaofnmgdefdcaaGreatDoorJQlArrQlNum
import Derived.Test.YtgaofnmgdefdcaaGreatDoorDsSmA
import Derived.Deep.RegionLaw
import Derived.Test.YtgaofnmgdefdcaaGreatDoorJLnActLnArr

namespace Go.Proofs.YtgaofnmgdefdcaaGreatDoor.Qn
open Go.RowKit Go.Proofs.YtgaofnmgdefdcaaGreatDoor.Gen Go.Proofs.YtgaofnmgdefdcaaGreatDoor.Hr Go.Proofs.YtgaofnmgdefdcaaGreatDoor.Hn Go.Proofs.YtgaofnmgdefdcaaGreatDoor.Ds Go.Proofs.YtgaofnmgdefdcaaGreatDoor.Ky Go.Proofs.YtgaofnmgdefdcaaGreatDoor.Ib Go.Proofs.YtgaofnmgdefdcaaGreatDoor.It Go.Proofs.YtgaofnmgdefdcaaGreatDoor.Bp Go.Proofs.YtgaofnmgdefdcaaGreatDoor.Qu

/-- Ways that came in. -/
structure Ways (w : World) (A : Option Addr) (n : Nat) (f : Nat → Sm) (fa : Nat → Option Addr) (fc : Nat → Nat) (b o : Nat) : Prop where
  ok : ∀ i, i < n → (f i).ok
  at_ : 0 < n → A = some ⟨b, o, none⟩ ∧ b < w.heap.size
  cell : ∀ i, i < n → ∀ j, j < 7 → w.cell? ⟨b, o + i * 7 + j, none⟩ = ((f i).v (fa i) (fc i))[j]?
/-- An act. -/
structure Ac where
  way : Int
  N : Int
  wh : Int
  A : Option Addr
  n : Nat
  c : Nat
  arr : Bool
  bs : List Int
def Ac.v (a : Ac) : Array Value := actv a.way a.N a.wh a.A a.n a.c a.arr
structure Ac.ok (a : Ac) (w : World) : Prop where
  way : 0 ≤ a.way ∧ a.way < 256
  num : -9223372036854775808 ≤ a.N ∧ a.N ≤ 9223372036854775807
  wh : 0 ≤ a.wh ∧ a.wh < 256
  len : a.bs.length = a.n
  cap : a.A = none → a.c = 0
  lies : Lies w a.A a.bs
  byte : ∀ y ∈ a.bs, 0 ≤ y ∧ y < 256
structure Acts (w : World) (A : Option Addr) (n : Nat) (f : Nat → Ac) (b o : Nat) : Prop where
  ok : ∀ i, i < n → (f i).ok w
  at_ : 0 < n → A = some ⟨b, o, none⟩ ∧ b < w.heap.size
  cell : ∀ i, i < n → ∀ j, j < 5 → w.cell? ⟨b, o + i * 5 + j, none⟩ = (f i).v[j]?
section
variable {w w1 : World} {A : Option Addr} {n b o : Nat}
theorem Ways.keeps {f : Nat → Sm} {fa : Nat → Option Addr} {fc : Nat → Nat} (h : Ways w A n f fa fc b o) (k : Keeps (w.heap.size ≤ ·) w w1) : Ways w1 A n f fa fc b o :=
  ⟨h.ok, fun h0 => ⟨(h.at_ h0).1, Nat.lt_of_lt_of_le (h.at_ h0).2 k.size⟩, fun i hi j hj => (k.cell (p := ⟨b, o + i * 7 + j, none⟩) (h.at_ (by omega)).2 (by have := (h.at_ (by omega)).2; show ¬ w.heap.size ≤ b; omega)).trans (h.cell i hi j hj)⟩
theorem Ac.ok.keeps {a : Ac} (h : a.ok w) (k : Keeps (w.heap.size ≤ ·) w w1) : a.ok w1 := by
  refine ⟨h.way, h.num, h.wh, h.len, h.cap, ?_, h.byte⟩
  rcases h.lies with h1 | ⟨b, o, h1, hb, _⟩
  · exact .inl h1
  · exact h.lies.keeps k fun b' o' e hs => by
      rw [h1] at e
      injection e with e
      injection e with e
      omega
theorem Acts.keeps {f : Nat → Ac} (h : Acts w A n f b o) (k : Keeps (w.heap.size ≤ ·) w w1) : Acts w1 A n f b o :=
  ⟨fun i hi => (h.ok i hi).keeps k, fun h0 => ⟨(h.at_ h0).1, Nat.lt_of_lt_of_le (h.at_ h0).2 k.size⟩, fun i hi j hj => (k.cell (p := ⟨b, o + i * 5 + j, none⟩) (h.at_ (by omega)).2 (by have := (h.at_ (by omega)).2; show ¬ w.heap.size ≤ b; omega)).trans (h.cell i hi j hj)⟩
/-- An act's bytes lie below what is made. -/
theorem Ac.ok.low {a : Ac} (h : a.ok w) : a.bs ≠ [] → ∀ b o, a.A = some ⟨b, o, none⟩ → b < w.heap.size := fun h0 b o e => by
  rcases h.lies with h1 | ⟨b', o', h1, hb, _⟩
  · exact absurd h1 h0
  · rw [h1] at e
    injection e with e
    injection e with e
    omega
end
/-- The way that an act names. -/
def wayAt (a : Ac) (n : Nat) : Nat := (a.way % (n : Int)).toNat
theorem wayAt_lt {a : Ac} {n : Nat} (h : 0 ≤ a.way) (hn : 0 < n) : a.way.tmod (n : Int) = (wayAt a n : Int) ∧ wayAt a n < n := by
  have h1 := Int.emod_nonneg a.way (show (n : Int) ≠ 0 by omega)
  have h2 := Int.emod_lt_of_pos a.way (show (0 : Int) < n by omega)
  refine ⟨?_, ?_⟩
  · rw [Int.tmod_eq_emod_of_nonneg h]
    unfold wayAt
    omega
  · unfold wayAt
    omega
/-! ### what a deed leaves alone, how much it adds -/
theorem pInt_far (d : D) (x : Int) (s : St) (k : Nat) (h : d.K = 1 → d.B.toNat ≠ k) : (pInt d x s).2.2 k = s.2 k := by
  unfold pInt
  split
  · unfold putN
    split
    · rfl
    · split
      · rename_i h1
        show pc s.2 d.B.toNat _ k = _
        unfold pc
        rw [if_neg (fun e => h h1 e.symm)]
      · split
        · unfold putW
          split <;> rfl
        · unfold putF
          split <;> rfl
  · rfl
theorem pArr_far (a : E) (bs : List Int) (s : St) (k : Nat) (h1 : a.B.toNat ≠ k) (h2 : a.d.K = 1 → a.d.B.toNat ≠ k) : (pArr a bs s).2.2 k = s.2 k := by
  unfold pArr
  split
  · split
    · unfold pStop
      split
      · rfl
      · show pc s.2 a.B.toNat _ k = _
        unfold pc
        rw [if_neg (fun e => h1 e.symm)]
    · unfold pCnt
      split
      · show pc (pInt a.d bs.length s).2.2 a.B.toNat _ k = _
        unfold pc
        rw [if_neg (fun e => h1 e.symm)]
        exact pInt_far a.d bs.length s k h2
      · exact pInt_far a.d bs.length s k h2
  · rfl
theorem pArr_len (a : E) (bs : List Int) (s : St) : (pArr a bs s).2.1.length ≤ s.1.length + 32 ∧ ∀ j, (hadP (pArr a bs s).2.2 j).length ≤ (hadP s.2 j).length + bs.length + 10 := by
  have h0 : s.1.length ≤ s.1.length + 32 ∧ ∀ j, (hadP s.2 j).length ≤ (hadP s.2 j).length + bs.length + 10 := ⟨by omega, fun j => by omega⟩
  have hi := pInt_len a.d bs.length s
  unfold pArr
  split
  · split
    · unfold pStop
      split
      · exact h0
      · refine ⟨by simp, fun j => ?_⟩
        simp only [hadP_pc]
        split
        · rename_i hj
          subst hj
          simp only [List.length_append, List.length_singleton]
          omega
        · omega
    · unfold pCnt
      split
      · refine ⟨hi.1, fun j => ?_⟩
        simp only [hadP_pc]
        have h1 := hi.2 j
        split
        · rename_i hj
          subst hj
          rw [List.length_append]
          omega
        · omega
      · exact ⟨hi.1, fun j => by have := hi.2 j; omega⟩
  · exact h0
theorem fits_small {d : D} (h : chkI d = 0) : ∀ y ∈ (if d.K = 3 then d.L else []), Fits y := by
  intro y hy
  split at hy
  · rename_i h3
    have hw : newE d.L = 0 := by simpa [chkI, h3] using h
    have := newE_in hw y hy
    exact ⟨⟨by omega, by omega⟩, ⟨by omega, by omega⟩⟩
  · simp at hy
theorem fits_I {s : Sm} (h : s.ok) : ∀ y ∈ s.I.L, Fits y := by
  have h1 := fits_small (Sm.I_ok h).1
  by_cases h3 : s.I.K = 3
  · rw [if_pos h3] at h1
    exact h1
  · intro y hy
    exfalso
    unfold Sm.I at h3 hy
    split at hy
    · simp at hy
    · split at hy
      · simp at hy
      · rename_i h4 h5
        rw [if_neg h4, if_neg h5] at h3
        exact h3 rfl
theorem fits_A {s : Sm} (h : s.ok) : ∀ y ∈ s.A.d.L, Fits y := by
  intro y hy
  unfold Sm.A at hy
  split at hy
  · simp [D0] at hy
  · exact fits_I h y hy
theorem A_S {s : Sm} (h : s.ok) : 0 ≤ s.A.S ∧ s.A.S < 256 := by
  unfold Sm.A
  split
  · exact h.S
  · show 0 ≤ (0 : Int) ∧ (0 : Int) < 256
    omega
end Go.Proofs.YtgaofnmgdefdcaaGreatDoor.Qn

namespace Go.Proofs.YtgaofnmgdefdcaaGreatDoor.Le
open Go.RowKit Go.Proofs.YtgaofnmgdefdcaaGreatDoor.Gen Go.Proofs.YtgaofnmgdefdcaaGreatDoor.Hu Go.Proofs.YtgaofnmgdefdcaaGreatDoor.Mp Go.Proofs.YtgaofnmgdefdcaaGreatDoor.Cm Go.Proofs.YtgaofnmgdefdcaaGreatDoor.Hr Go.Proofs.YtgaofnmgdefdcaaGreatDoor.Hn Go.Proofs.YtgaofnmgdefdcaaGreatDoor.Hk Go.Proofs.YtgaofnmgdefdcaaGreatDoor.Ln Go.Proofs.YtgaofnmgdefdcaaGreatDoor.Ds Go.Proofs.YtgaofnmgdefdcaaGreatDoor.Ky Go.Proofs.YtgaofnmgdefdcaaGreatDoor.Wr Go.Proofs.YtgaofnmgdefdcaaGreatDoor.Ir Go.Proofs.YtgaofnmgdefdcaaGreatDoor.Ib Go.Proofs.YtgaofnmgdefdcaaGreatDoor.Br Go.Proofs.YtgaofnmgdefdcaaGreatDoor.Bp Go.Proofs.YtgaofnmgdefdcaaGreatDoor.Qh Go.Proofs.YtgaofnmgdefdcaaGreatDoor.Qs Go.Proofs.YtgaofnmgdefdcaaGreatDoor.Qf Go.Proofs.YtgaofnmgdefdcaaGreatDoor.Qc Go.Proofs.YtgaofnmgdefdcaaGreatDoor.It Go.Proofs.YtgaofnmgdefdcaaGreatDoor.Qi Go.Proofs.YtgaofnmgdefdcaaGreatDoor.Qu Go.Proofs.YtgaofnmgdefdcaaGreatDoor.Qn

/-- What can't be put leaves all as it was. -/
theorem pInt_same {d : D} {x : Int} {p : St} (h : (pInt d x p).1 ≠ 0) : (pInt d x p).2 = p := by
  unfold pInt at h ⊢
  split
  · rename_i hc
    rw [if_pos hc] at h
    unfold putN at h ⊢
    split
    · rfl
    · rename_i h1
      rw [if_neg h1] at h
      split
      · rename_i h2
        rw [if_pos h2] at h
        exact absurd rfl h
      · rename_i h2
        rw [if_neg h2] at h
        split
        · rename_i h3
          rw [if_pos h3] at h
          unfold putW at h ⊢
          cases hf : Hu.found (wordsOf (nats' d.L)) x with
          | none => rfl
          | some q =>
            rw [hf] at h
            exact absurd rfl h
        · rename_i h3
          rw [if_neg h3] at h
          unfold Qu.putF at h ⊢
          split
          · rfl
          · rename_i h4
            rw [if_neg h4] at h
            exact absurd rfl h
  · rfl
theorem pArr_same {a : E} {bs : List Int} {p : St} (h : (pArr a bs p).1 ≠ 0) : (pArr a bs p).2 = p := by
  unfold pArr at h ⊢
  split
  · rename_i hc
    rw [if_pos hc] at h
    split
    · rename_i h1
      rw [if_pos h1] at h
      unfold pStop at h ⊢
      split
      · rfl
      · rename_i h2
        rw [if_neg h2] at h
        exact absurd rfl h
    · rename_i h1
      rw [if_neg h1] at h
      unfold pCnt at h ⊢
      split
      · rename_i h2
        rw [if_pos h2] at h
        exact absurd rfl h
      · rename_i h2
        exact pInt_same h2
  · rfl
/-- One state begins the other. -/
def Ext (p p' : St) : Prop := (∃ r, p'.1 = p.1 ++ r) ∧ ∀ i ys, p.2 i = some ys → ∃ r, p'.2 i = some (ys ++ r)
theorem Ext.refl (p : St) : Ext p p := ⟨⟨[], by simp⟩, fun i ys h => ⟨[], by simpa using h⟩⟩
theorem Ext.trans {p q r : St} (h : Ext p q) (k : Ext q r) : Ext p r := by
  obtain ⟨⟨a, ha⟩, hb⟩ := h
  obtain ⟨⟨c, hc⟩, hd⟩ := k
  refine ⟨⟨a ++ c, by rw [hc, ha, List.append_assoc]⟩, fun i ys h => ?_⟩
  obtain ⟨e, he⟩ := hb i ys h
  obtain ⟨f, hf⟩ := hd i _ he
  exact ⟨e ++ f, by rw [hf, List.append_assoc]⟩
theorem Ext.sub {p q : St} {zs : List Int} {Y : Nat → Option (List Int)} (h : Ext p q) (k : Sub q zs Y) : Sub p zs Y := by
  obtain ⟨⟨a, ha⟩, hb⟩ := h
  obtain ⟨⟨c, hc⟩, hd⟩ := k
  refine ⟨⟨a ++ c, by rw [hc, ha, List.append_assoc]⟩, fun i ys h => ?_⟩
  obtain ⟨e, he⟩ := hb i ys h
  obtain ⟨f, hf⟩ := hd i _ he
  exact ⟨e ++ f, by rw [hf, List.append_assoc]⟩
theorem ext_pc (l r : List Nat) (f : Nat → Option (List Int)) (i : Nat) (ys : List Int) : Ext (l, f) (l ++ r, pc f i (hadP f i ++ ys)) := by
  refine ⟨⟨r, rfl⟩, fun j zs h => ?_⟩
  show ∃ r, (if j = i then some (hadP f i ++ ys) else f j) = some (zs ++ r)
  by_cases hj : j = i
  · subst hj
    rw [if_pos rfl]
    simp only at h
    exact ⟨ys, by unfold hadP; rw [h]; rfl⟩
  · rw [if_neg hj]
    exact ⟨[], by simpa using h⟩
theorem ext_row (l r : List Nat) (f : Nat → Option (List Int)) : Ext (l, f) (l ++ r, f) := ⟨⟨r, rfl⟩, fun j zs h => ⟨[], by simpa using h⟩⟩
theorem pInt_ext (d : D) (x : Int) (p : St) : Ext p (pInt d x p).2 := by
  obtain ⟨l, f⟩ := p
  unfold pInt
  split
  · unfold putN
    split
    · exact Ext.refl _
    · split
      · have := ext_pc l [] f d.B.toNat (encInt (sg x))
        rw [List.append_nil] at this
        exact this
      · split
        · unfold putW
          split
          · exact Ext.refl _
          · exact ext_row _ _ _
        · unfold Qu.putF
          split
          · exact Ext.refl _
          · exact ext_row _ _ _
  · exact Ext.refl _
theorem pArr_ext (a : E) (bs : List Int) (p : St) : Ext p (pArr a bs p).2 := by
  unfold pArr
  split
  · split
    · unfold pStop
      split
      · exact Ext.refl _
      · obtain ⟨l, f⟩ := p
        have := ext_pc l [] f a.B.toNat (bs ++ [a.S])
        rw [List.append_nil, ← List.append_assoc] at this
        exact this
    · unfold pCnt
      have h1 := pInt_ext a.d bs.length p
      split
      · refine h1.trans ?_
        generalize (pInt a.d bs.length p).2 = q
        obtain ⟨l, f⟩ := q
        have := ext_pc l [] f a.B.toNat bs
        rw [List.append_nil] at this
        exact this
      · exact h1
  · exact Ext.refl _
/-- What an act puts. -/
def deed (f : Nat → Sm) (n : Nat) (a : Ac) (p : St) : Int × St := if a.arr = true then pArr (f (wayAt a n)).A a.bs p else pInt (f (wayAt a n)).I (numOf a.N a.wh (f (wayAt a n)).I) p
theorem deed_same {f : Nat → Sm} {n : Nat} {a : Ac} {p : St} (h : (deed f n a p).1 ≠ 0) : (deed f n a p).2 = p := by
  unfold deed at h ⊢
  split
  · rename_i h1
    rw [if_pos h1] at h
    exact pArr_same h
  · rename_i h1
    rw [if_neg h1] at h
    exact pInt_same h
theorem deed_ext (f : Nat → Sm) (n : Nat) (a : Ac) (p : St) : Ext p (deed f n a p).2 := by
  unfold deed
  split
  · exact pArr_ext _ _ _
  · exact pInt_ext _ _ _
theorem deed_len (f : Nat → Sm) (n : Nat) (a : Ac) (p : St) : (deed f n a p).2.1.length ≤ p.1.length + 32 ∧ ∀ j, (hadP (deed f n a p).2.2 j).length ≤ (hadP p.2 j).length + a.bs.length + 10 := by
  unfold deed
  split
  · exact pArr_len _ _ _
  · have := pInt_len (f (wayAt a n)).I (numOf a.N a.wh (f (wayAt a n)).I) p
    exact ⟨this.1, fun j => by have := this.2 j; omega⟩
def p0 : St := ([], fun _ => none)
/-- Acts, one behind the other. -/
def runD (f : Nat → Sm) (n : Nat) (ds : List Ac) : St := ds.foldl (fun p a => (deed f n a p).2) p0
theorem runD_snoc (f : Nat → Sm) (n : Nat) (ds : List Ac) (a : Ac) : runD f n (ds ++ [a]) = (deed f n a (runD f n ds)).2 := by
  unfold runD
  rw [List.foldl_append]
  rfl
theorem runD_ext (f : Nat → Sm) (n : Nat) (ds : List Ac) : ∀ es : List Ac, Ext (runD f n ds) (runD f n (ds ++ es)) := by
  intro es
  induction es generalizing ds with
  | nil => rw [List.append_nil]; exact Ext.refl _
  | cons a l ih =>
    have h1 := ih (ds ++ [a])
    rw [List.append_assoc] at h1
    refine Ext.trans ?_ h1
    rw [runD_snoc]
    exact deed_ext _ _ _ _
/-- Each of them was put. -/
def All (f : Nat → Sm) (n : Nat) (ds : List Ac) : Prop := ∀ (i : Nat) (a : Ac), ds[i]? = some a → (deed f n a (runD f n (ds.take i))).1 = 0
theorem All.snoc {f : Nat → Sm} {n : Nat} {ds : List Ac} {a : Ac} (h : All f n ds) (ha : (deed f n a (runD f n ds)).1 = 0) : All f n (ds ++ [a]) := by
  intro i b hb
  rcases Nat.lt_or_ge i ds.length with hi | hi
  · rw [List.getElem?_append_left hi] at hb
    rw [List.take_append_of_le_length (by omega)]
    exact h i b hb
  · rw [List.getElem?_append_right hi] at hb
    have h1 : i - ds.length = 0 := by
      have := (List.getElem?_eq_some_iff.1 hb).1
      simp at this
      omega
    rw [h1] at hb
    simp only [List.getElem?_cons_zero, Option.some.injEq] at hb
    subst hb
    rw [show i = ds.length by omega, List.take_append_of_le_length (Nat.le_refl _), List.take_of_length_le (Nat.le_refl _)]
    exact ha
theorem All.nil (f : Nat → Sm) (n : Nat) : All f n [] := fun i a h => by simp at h
theorem take_snoc {ds : List Ac} {i : Nat} {a : Ac} (h : ds[i]? = some a) : ds.take (i + 1) = ds.take i ++ [a] := by
  rw [List.take_add_one, h]
  rfl
theorem runD_take {f : Nat → Sm} {n : Nat} {ds : List Ac} {i : Nat} {a : Ac} (h : ds[i]? = some a) : runD f n (ds.take (i + 1)) = (deed f n a (runD f n (ds.take i))).2 := by
  rw [take_snoc h, runD_snoc]
theorem sub_take {f : Nat → Sm} {n : Nat} {ds : List Ac} {zs : List Int} {Y : Nat → Option (List Int)} (h : Sub (runD f n ds) zs Y) (i : Nat) : Sub (runD f n (ds.take i)) zs Y := by
  have := runD_ext f n (ds.take i) (ds.drop i)
  rw [List.take_append_drop] at this
  exact this.sub h
/-- A Lens of the whole. -/
theorem atL_start (zs : List Int) (Y : Nat → Option (List Int)) : AtL zs Y p0 ⟨zs, 0, false⟩ (fun i => (Y i).map fun l => ⟨l, 0, 0⟩) := ⟨rfl, funext fun i => by simp [p0, hadP]⟩
theorem sub_whole {p : St} {zs : List Int} (h : IsPack p.1 (zs.map Int.toNat)) : Sub p zs p.2 := by
  refine ⟨⟨_, h.2⟩, fun i ys hi => ⟨[], by simpa using hi⟩⟩
theorem num_zeros : ∀ k, num (List.replicate k 0) = 0
  | 0 => rfl
  | k + 1 => by
    have h := num_zeros k
    rw [List.replicate_succ]
    simp [num] at h ⊢
    try exact h
theorem end_whole {p : St} {zs : List Int} {s : BS} {G : Rs} {E : Int} (h : IsPack p.1 (zs.map Int.toNat)) (hat : AtL zs p.2 p s G) (he : EndR s G 0 E) : E = 0 := by
  obtain ⟨hrow, hblk⟩ := hat
  subst hrow
  subst hblk
  have hlen := congrArg List.length h.2
  rw [ofB_len, List.length_append, List.length_replicate, List.length_map] at hlen
  have hgap : gap p.1.length < 8 := by unfold gap; omega
  have hf : BS.fin ⟨zs, p.1.length, false⟩ = 0 := by
    unfold BS.fin
    rw [if_neg (by simp)]
    have hz : 8 * zs.length - p.1.length = gap p.1.length := by omega
    simp only [hz]
    have hb : (⟨zs, p.1.length, false⟩ : BS).bits = p.1 ++ List.replicate (gap p.1.length) 0 := h.2
    rw [hb, if_neg]
    rintro (h1 | h1)
    · omega
    · apply h1
      unfold piece
      rw [List.drop_append_of_le_length (Nat.le_refl _), List.drop_length, List.nil_append, List.take_of_length_le (by simp)]
      exact num_zeros _
  rcases he with ⟨h, _⟩ | ⟨_, h, _⟩ | ⟨_, _, ⟨h, _⟩ | ⟨i, r, h1, h2, _⟩⟩
  · exact absurd rfl h
  · exact absurd hf h
  · exact h
  · exfalso
    simp only at h1
    cases hy : p.2 i with
    | none => rw [hy] at h1; simp at h1
    | some ys =>
      rw [hy] at h1
      simp only [Option.map_some, Option.some.injEq] at h1
      subst h1
      apply h2
      unfold RS.fin hadP
      rw [hy]
      simp
/-- Bytes are bytes. -/
def ByP (p : St) : Prop := ∀ i l, p.2 i = some l → ∀ x ∈ l, 0 ≤ x ∧ x < 256
theorem ByP.pc {p : St} (h : ByP p) (r : List Nat) (i : Nat) {ys : List Int} (hy : ∀ x ∈ ys, 0 ≤ x ∧ x < 256) : ByP (r, pc p.2 i (hadP p.2 i ++ ys)) := by
  intro j l hj x hx
  have hj' : (if j = i then some (hadP p.2 i ++ ys) else p.2 j) = some l := hj
  by_cases e : j = i
  · rw [if_pos e] at hj'
    injection hj' with hj'
    subst hj'
    rcases List.mem_append.1 hx with h1 | h1
    · unfold hadP at h1
      cases hp : p.2 i with
      | none => rw [hp] at h1; simp at h1
      | some l => rw [hp] at h1; exact h i l hp x h1
    · exact hy x h1
  · rw [if_neg e] at hj'
    exact h j l hj' x hx
theorem pInt_by (d : D) (x : Int) {p : St} (h : ByP p) : ByP (pInt d x p).2 := by
  unfold pInt
  split
  · unfold putN
    split
    · exact h
    · rename_i hx
      split
      · obtain ⟨_, s2, s3⟩ := sign_sg (n := x) (by omega) (by omega)
        exact h.pc _ _ (fun y hy => encInt_byte s2 s3 y hy)
      · split
        · unfold putW
          split <;> exact h
        · unfold Qu.putF
          split <;> exact h
  · exact h
theorem pArr_by (a : E) {bs : List Int} {p : St} (h : ByP p) (hb : ∀ x ∈ bs, 0 ≤ x ∧ x < 256) (hS : 0 ≤ a.S ∧ a.S < 256) : ByP (pArr a bs p).2 := by
  unfold pArr
  split
  · split
    · unfold pStop
      split
      · exact h
      · have := h.pc p.1 a.B.toNat (ys := bs ++ [a.S]) (fun x hx => by
          rcases List.mem_append.1 hx with h1 | h1
          · exact hb x h1
          · rw [List.mem_singleton.1 h1]; exact hS)
        rw [← List.append_assoc] at this
        exact this
    · unfold pCnt
      split
      · exact (pInt_by a.d bs.length h).pc _ _ hb
      · exact pInt_by a.d bs.length h
  · exact h
theorem deed_by {f : Nat → Sm} (n : Nat) {a : Ac} {p : St} (h : ByP p) (hb : ∀ x ∈ a.bs, 0 ≤ x ∧ x < 256) (hS : 0 ≤ (f (wayAt a n)).A.S ∧ (f (wayAt a n)).A.S < 256) : ByP (deed f n a p).2 := by
  unfold deed
  split
  · exact pArr_by _ h hb hS
  · exact pInt_by _ _ h
theorem p0_by : ByP p0 := fun i l h => by cases h
end Go.Proofs.YtgaofnmgdefdcaaGreatDoor.Le

namespace Go.Proofs.YtgaofnmgdefdcaaGreatDoor.Lb
open Go.RowKit Go.Proofs.YtgaofnmgdefdcaaGreatDoor.Gen Go.Proofs.YtgaofnmgdefdcaaGreatDoor.Ds Go.Proofs.YtgaofnmgdefdcaaGreatDoor.Wr Go.Proofs.YtgaofnmgdefdcaaGreatDoor.Qn

theorem sm_info : (Tryz.prog.info? 37).map (fun i => (i.zero, i.size, i.bytes)) = some (some (.agg #[.int .u8 0, .int .u8 0, .int .u16 0, .int .i16 0, .slice none 0 0, .int .u8 0, .bool false]), 7, 40) := by kernel_rfl
theorem act_info : (Tryz.prog.info? 33).map (fun i => (i.zero, i.size, i.bytes)) = some (some (.agg #[.int .u8 0, .int .i64 0, .int .u8 0, .slice none 0 0, .bool false]), 5, 56) := by kernel_rfl
/-! ### cells of structs, one behind the other -/
theorem fm_get {α : Type} (F : α → Array Value) (k : Nat) (h : ∀ a, (F a).size = k) : ∀ (l : List α) (i : Nat) (a : α) (j : Nat), l[i]? = some a → j < k → (l.flatMap fun a => (F a).toList)[i * k + j]? = (F a)[j]?
  | [], i, a, j, hi, _ => by simp at hi
  | x :: l, 0, a, j, hi, hj => by
    simp only [List.getElem?_cons_zero, Option.some.injEq] at hi
    subst hi
    rw [List.flatMap_cons, Nat.zero_mul, Nat.zero_add, List.getElem?_append_left (by rw [Array.length_toList, h]; exact hj)]
    simp
  | x :: l, i + 1, a, j, hi, hj => by
    rw [List.getElem?_cons_succ] at hi
    have e : (i + 1) * k + j = k + (i * k + j) := by rw [Nat.succ_mul]; omega
    rw [List.flatMap_cons, e, List.getElem?_append_right (by rw [Array.length_toList, h]; omega), Array.length_toList, h, show k + (i * k + j) - k = i * k + j by omega]
    exact fm_get F k h l i a j hi hj
theorem fm_len {α : Type} (F : α → Array Value) (k : Nat) (h : ∀ a, (F a).size = k) : ∀ l : List α, (l.flatMap fun a => (F a).toList).length = l.length * k
  | [] => by simp
  | x :: l => by
    rw [List.flatMap_cons, List.length_append, fm_len F k h l, Array.length_toList, h, List.length_cons, Nat.succ_mul]
    omega
def acv (ds : List Ac) : List Value := ds.flatMap fun a => a.v.toList
theorem acv_snoc (ds : List Ac) (a : Ac) : acv (ds ++ [a]) = acv ds ++ a.v.toList := by simp [acv]
theorem acv_len (ds : List Ac) : (acv ds).length = ds.length * 5 := fm_len (fun a : Ac => a.v) 5 (fun _ => rfl) ds
theorem acv_get {ds : List Ac} {i j : Nat} {a : Ac} (h : ds[i]? = some a) (hj : j < 5) : (acv ds)[i * 5 + j]? = a.v[j]? := fm_get (fun a : Ac => a.v) 5 (fun _ => rfl) ds i a j h hj
def smv (f : Nat → Sm) (fa : Nat → Option Addr) (fc : Nat → Nat) (n : Nat) : List Value := (List.range n).flatMap fun i => ((f i).v (fa i) (fc i)).toList
theorem smv_len (f : Nat → Sm) (fa : Nat → Option Addr) (fc : Nat → Nat) (n : Nat) : (smv f fa fc n).length = n * 7 := by
  have := fm_len (fun i => (f i).v (fa i) (fc i)) 7 (fun _ => rfl) (List.range n)
  rw [List.length_range] at this
  exact this
theorem smv_get (f : Nat → Sm) (fa : Nat → Option Addr) (fc : Nat → Nat) {n i j : Nat} (hi : i < n) (hj : j < 7) : (smv f fa fc n)[i * 7 + j]? = ((f i).v (fa i) (fc i))[j]? :=
  fm_get (fun i => (f i).v (fa i) (fc i)) 7 (fun _ => rfl) (List.range n) i i j (List.getElem?_range hi) hj
theorem smv_one (f : Nat → Sm) (fa : Nat → Option Addr) (fc : Nat → Nat) (n : Nat) : ∀ u ∈ smv f fa fc n, u.oneCell' = true := by
  intro u hu
  simp only [smv, List.mem_flatMap] at hu
  obtain ⟨i, _, hp⟩ := hu
  simp [Sm.v] at hp
  rcases hp with rfl | rfl | rfl | rfl | rfl | rfl | rfl <;> rfl
theorem ac_one (a : Ac) : ∀ u ∈ a.v.toList, u.oneCell' = true := by
  intro u hu
  simp [Ac.v, actv] at hu
  rcases hu with rfl | rfl | rfl | rfl | rfl <;> rfl
/-- The way i's block is set. -/
def wset (f : Nat → Sm) (k : Nat) : Nat → Sm := fun i => if i < k then { f i with B := (i : Int) } else f i
theorem wset_zero (f : Nat → Sm) : wset f 0 = f := by
  funext i
  unfold wset
  rw [if_neg (by omega)]
theorem smv_set (f : Nat → Sm) (fa : Nat → Option Addr) (fc : Nat → Nat) {n k : Nat} (hk : k < n) : (smv (wset f k) fa fc n).set (k * 7 + 2) (.int .u16 (k : Int)) = smv (wset f (k + 1)) fa fc n := by
  refine List.ext_getElem? fun t => ?_
  by_cases ht : t < n * 7
  · obtain ⟨i, j, rfl, hi, hj⟩ : ∃ i j, t = i * 7 + j ∧ i < n ∧ j < 7 := ⟨t / 7, t % 7, by omega, by omega, by omega⟩
    rw [smv_get _ _ _ hi hj, List.getElem?_set, smv_len]
    by_cases he : k * 7 + 2 = i * 7 + j
    · obtain ⟨rfl, rfl⟩ : k = i ∧ j = 2 := ⟨by omega, by omega⟩
      rw [if_pos rfl, if_pos (by omega)]
      unfold wset
      rw [if_pos (by omega)]
      rfl
    · rw [if_neg he, smv_get _ _ _ hi hj]
      unfold wset
      by_cases h1 : i < k
      · rw [if_pos h1, if_pos (by omega)]
      · rw [if_neg h1]
        by_cases h2 : i < k + 1
        · obtain rfl : i = k := by omega
          rw [if_pos h2]
          have hj2 : j ≠ 2 := fun e => he (by rw [e])
          have : j = 0 ∨ j = 1 ∨ j = 3 ∨ j = 4 ∨ j = 5 ∨ j = 6 := by omega
          rcases this with rfl | rfl | rfl | rfl | rfl | rfl <;> rfl
        · rw [if_neg h2]
  · rw [List.getElem?_eq_none (by rw [List.length_set, smv_len]; omega), List.getElem?_eq_none (by rw [smv_len]; omega)]
theorem own_setG {w : World} {base g n c j sz : Nat} {e : TypeId} {xs : List Value} (h : w.ownsRow base e sz (.slice (some ⟨g, 0, none⟩) n c) n xs) (u : Value) :
    (w.setCell ⟨g, j, none⟩ u).ownsRow base e sz (.slice (some ⟨g, 0, none⟩) n c) n (xs.set j u) := by
  obtain ⟨hl, h⟩ := h
  rcases h with ⟨h, _⟩ | ⟨g', cap, cur, hv, hb, hh, h1, h2, h3, h4⟩
  · cases h
  · injection hv with hv _ hc
    injection hv with hv
    injection hv with hv
    subst hv
    subst hc
    refine ⟨by simpa using hl, .inr ⟨g, c, cur.setIfInBounds j u, rfl, hb, (show Blk w g e cur from hh).setCell j _, h1, h2, by simpa using h3, ?_⟩⟩
    rw [Array.toList_setIfInBounds, List.take_set, h4]
theorem own_someG {w : World} {base n c sz : Nat} {e : TypeId} {A : Option Addr} {xs : List Value} (h : w.ownsRow base e sz (.slice A n c) n xs) (hn : 0 < n) : ∃ g, A = some ⟨g, 0, none⟩ ∧ base ≤ g ∧ g < w.heap.size := by
  rcases h.2 with ⟨_, h0⟩ | ⟨g, cap, cur, hv, hb, hh, _⟩
  · omega
  · injection hv with hv _ _
    exact ⟨g, hv, hb, (show Blk w g e cur from hh).lt⟩
theorem own_emptyG (w : World) (e : TypeId) (sz base : Nat) (hb : base ≤ w.heap.size) : (w.alloc (.cells #[] e)).ownsRow base e sz (.slice (some ⟨w.heap.size, 0, none⟩) 0 0) 0 [] :=
  ⟨by simp, .inr ⟨w.heap.size, 0, #[], rfl, hb, heap_alloc_new w _, Nat.le_refl _, by simp [maxLen], by simp, by simp⟩⟩
/-- An append of structs. -/
theorem wpList_appG {P : Program} {t e : TypeId} {i : TypeInfo} {z : Value} {size bytes : Nat} (ht : P.underlying t = some (.slice e)) (hi : P.info? e = some i) (hz : i.zero = some z) (hsize : i.size = size) (hby : i.bytes = bytes) (hzs : z.cells.size = size) (hsz : 0 < size) (hb1 : bytes ≤ 1000)
    {ops : Array Oper} {rest : List Oper} {o : Oper} {a : Go.Act} {w : World} {Q : Exit → Go.Act → World → Prop} (hgd : o.guard = none) (s x : Operand) (ho : o.op = .call { callee := .builtin .append, args := #[s, x], argTypes := #[t, t] })
    (base n m c : Nat) (v : Value) (ys news : List Value) (ad : Addr) (hs : a.eval s = v) (hown : w.ownsRow base e size v n ys) (hx : a.eval x = .slice (some ad) m c) (hl : news.length = m * size) (hnews : ∀ j u, news[j]? = some u → w.cell? (ad.add j) = some u) (h1 : ∀ u ∈ news, u.oneCell' = true)
    (h63 : n + m ≤ 100000) (hbase : base ≤ w.heap.size)
    (h : ∀ v' w', w'.ownsRow base e size v' (n + m) (ys ++ news) → w.grownBy w' v.ownBlock → (v'.ownBlock = v.ownBlock ∨ v'.ownBlock = some w.heap.size) → wpList P ops Q rest (a.put o.dst v') w') :
    wpList P ops Q (o :: rest) a w := by
  refine wpList_plain hgd fun K hK => ?_
  obtain ⟨v', w', hr, h2, h3, _, h5⟩ := run_append_own_at (P := P) w base t o.type e i z size bytes ht hi hz hsize hby hzs hsz v n ys hown ad m c news hl hnews h1 (by simp only [maxLen]; omega) (by have : (n + m) * bytes ≤ 100000 * 1000 := Nat.mul_le_mul h63 hb1; omega) hbase
  unfold Oper.wp execOp
  simp only [ho, resolve, invoke, builtin, Sem.run_bind, Sem.run_pure, Result.andThen_ok, List.map_toArray, List.map_cons, List.map_nil, hs, hx, hr]
  exact hK _ _ (h v' w' h2 h3 h5)
theorem wpList_appS {ops : Array Oper} {rest : List Oper} {o : Oper} {a : Go.Act} {w : World} {Q : Exit → Go.Act → World → Prop} (hgd : o.guard = none) (s x : Operand) (ho : o.op = .call { callee := .builtin .append, args := #[s, x], argTypes := #[22, 22] })
    (base n m c : Nat) (v : Value) (ys news : List Value) (ad : Addr) (hs : a.eval s = v) (hown : w.ownsRow base 37 7 v n ys) (hx : a.eval x = .slice (some ad) m c) (hl : news.length = m * 7) (hnews : ∀ j u, news[j]? = some u → w.cell? (ad.add j) = some u) (h1 : ∀ u ∈ news, u.oneCell' = true)
    (h63 : n + m ≤ 100000) (hbase : base ≤ w.heap.size)
    (h : ∀ v' w', w'.ownsRow base 37 7 v' (n + m) (ys ++ news) → w.grownBy w' v.ownBlock → (v'.ownBlock = v.ownBlock ∨ v'.ownBlock = some w.heap.size) → wpList Tryz.prog ops Q rest (a.put o.dst v') w') :
    wpList Tryz.prog ops Q (o :: rest) a w := by
  obtain ⟨i0, hi0, hz0, hz1, hz2⟩ := info_parts sm_info
  exact wpList_appG Tryz.underlying22 hi0 hz0 hz1 hz2 rfl (by omega) (by omega) hgd s x ho base n m c v ys news ad hs hown hx hl hnews h1 h63 hbase h
theorem wpList_appA {ops : Array Oper} {rest : List Oper} {o : Oper} {a : Go.Act} {w : World} {Q : Exit → Go.Act → World → Prop} (hgd : o.guard = none) (s x : Operand) (ho : o.op = .call { callee := .builtin .append, args := #[s, x], argTypes := #[23, 23] })
    (base n m c : Nat) (v : Value) (ys news : List Value) (ad : Addr) (hs : a.eval s = v) (hown : w.ownsRow base 33 5 v n ys) (hx : a.eval x = .slice (some ad) m c) (hl : news.length = m * 5) (hnews : ∀ j u, news[j]? = some u → w.cell? (ad.add j) = some u) (h1 : ∀ u ∈ news, u.oneCell' = true)
    (h63 : n + m ≤ 100000) (hbase : base ≤ w.heap.size)
    (h : ∀ v' w', w'.ownsRow base 33 5 v' (n + m) (ys ++ news) → w.grownBy w' v.ownBlock → (v'.ownBlock = v.ownBlock ∨ v'.ownBlock = some w.heap.size) → wpList Tryz.prog ops Q rest (a.put o.dst v') w') :
    wpList Tryz.prog ops Q (o :: rest) a w := by
  obtain ⟨i0, hi0, hz0, hz1, hz2⟩ := info_parts act_info
  exact wpList_appG Tryz.underlying23 hi0 hz0 hz1 hz2 rfl (by omega) (by omega) hgd s x ho base n m c v ys news ad hs hown hx hl hnews h1 h63 hbase h
end Go.Proofs.YtgaofnmgdefdcaaGreatDoor.Lb

namespace Go.Proofs.YtgaofnmgdefdcaaGreatDoor.Le
open Go.RowKit Go.Proofs.YtgaofnmgdefdcaaGreatDoor.Gen Go.Proofs.YtgaofnmgdefdcaaGreatDoor.Mp Go.Proofs.YtgaofnmgdefdcaaGreatDoor.Cm Go.Proofs.YtgaofnmgdefdcaaGreatDoor.Hr Go.Proofs.YtgaofnmgdefdcaaGreatDoor.Hn Go.Proofs.YtgaofnmgdefdcaaGreatDoor.Hk Go.Proofs.YtgaofnmgdefdcaaGreatDoor.Ln Go.Proofs.YtgaofnmgdefdcaaGreatDoor.Ds Go.Proofs.YtgaofnmgdefdcaaGreatDoor.Ky Go.Proofs.YtgaofnmgdefdcaaGreatDoor.Wr Go.Proofs.YtgaofnmgdefdcaaGreatDoor.Ir Go.Proofs.YtgaofnmgdefdcaaGreatDoor.Br Go.Proofs.YtgaofnmgdefdcaaGreatDoor.Qh Go.Proofs.YtgaofnmgdefdcaaGreatDoor.Qs Go.Proofs.YtgaofnmgdefdcaaGreatDoor.Qf Go.Proofs.YtgaofnmgdefdcaaGreatDoor.Qc

/-- What only new blocks turn in. -/
theorem keeps_low {w wr w1 : World} {S : Nat → Prop} (h : Keeps (fun _ => False) w wr) (k : Keeps S wr w1) (hw : ∀ x, S x → w.heap.size ≤ x) : Keeps (fun _ => False) w w1 :=
  ⟨k.os.trans h.os, k.tape.trans h.tape, k.output.trans h.output, Nat.le_trans h.size k.size, fun x hx hn => (k.block x (Nat.lt_of_lt_of_le hx h.size) (fun hs => by have := hw x hs; omega)).trans (h.block x hx hn)⟩
/-- A block's Reader is added. -/
theorem Ln.add {o : Nat → Option Nat} {B g N br bb mb i base g' : Nat} {s : BS} {G : Rs} {e : Int} {mc : Value} {P : Nat → Nat × Nat} {w w1 w2 : World} {r : RS} (h : Ln o B g s G N e br bb mb mc P w) (hi : i < 60001) (hG : G i = none)
    (k1 : Keeps (fun _ => False) w w1) (hr : IsRd base g' r w1) (hb : w.heap.size ≤ base) (k2 : Keeps (· = mb) w1 w2) (hm : IsF Tryz.prog 3 60001 ikl w2 mb (putF (fun i => (G i).map fun _ => rd (P i).2) i (rd g'))) :
    Ln (fun k => if base ≤ k ∧ k ≤ g' then some (4 + i) else o k) B g s (ru G i r) N e br bb mb mc (fun j => if j = i then (base, g') else P j) w2 := by
  have h1 := h.keeps k1 fun _ _ => id
  have hold : ∀ x l, o x = some l → (if base ≤ x ∧ x ≤ g' then some (4 + i) else o x) = some l := fun x l hx => by
    have := (h.lt x l hx).2
    rw [if_neg (by omega)]
    exact hx
  have hne : ∀ x l, o x = some l → l ≠ 2 → x ≠ mb := fun x l hx hl e => by
    rw [e, h.omap] at hx
    injection hx with hx
    exact hl hx.symm
  have hBw := (h.lt g 0 h.og)
  have hgl := hr.lt
  refine ⟨fun x l hx => ?_, h1.blk.keeps k2 (hne g 0 h.og (by omega)), hold g 0 h.og, h1.row.low k2 fun b a1 a2 => hne b 1 (h.orow b a1 a2) (by omega), fun b a1 a2 => hold b 1 (h.orow b a1 a2), hm.congr fun j _ => ?_, hold mb 2 h.omap, fun j r2 h2 => ?_, Kept.mono (h1.kept.keeps k2 fun b hb => hne b 3 hb (by omega)) (fun x hx => hold x 3 hx) fun x hx => ?_⟩
  · split at hx
    · have := k2.size
      omega
    · have := h1.lt x l hx
      have := k2.size
      omega
  · unfold putF ru
    by_cases hj : j = i
    · subst hj
      simp
    · simp [hj]
  · unfold ru at h2
    by_cases hj : j = i
    · subst hj
      rw [if_pos rfl] at h2
      injection h2 with h2
      subst h2
      refine ⟨hi, ?_, fun k a1 a2 => ?_⟩
      · simp only [if_true]
        exact hr.low k2 fun b a1 a2 e => by
          have := (h.lt mb 2 h.omap).2
          omega
      · simp only [if_true] at a1 a2 ⊢
        rw [if_pos ⟨a1, a2⟩]
    · rw [if_neg hj] at h2
      obtain ⟨a1, a2, a3⟩ := h1.rds j r2 h2
      refine ⟨a1, ?_, fun k b1 b2 => ?_⟩
      · simp only [if_neg hj]
        exact a2.low k2 fun b h1 h2 => hne b (4 + j) (a3 b h1 h2) (by omega)
      · simp only [if_neg hj] at b1 b2
        exact hold k (4 + j) (a3 k b1 b2)
  · split at hx
    · have := k2.size
      omega
    · have := h1.lt x 3 hx
      have := k2.size
      omega
/-- A new one, without blocks. -/
theorem Ln.start {B bb br : Nat} {s : BS} {w1 : World} (P : Nat → Nat × Nat) (hr : IsBr bb br s w1) (hB : B ≤ bb) :
    Ln (fun k => if k = w1.heap.size + 1 then some 0 else if k = w1.heap.size then some 2 else if bb ≤ k ∧ k ≤ br then some 1 else none) B (w1.heap.size + 1) s (fun _ => none) 0 0 br bb w1.heap.size (.map none) P ((w1.alloc (.map #[] 0)).alloc (.cells #[.pointer (some ⟨br, 0, none⟩), .map (some w1.heap.size), .map none, .int .i64 0] 107)) := by
  have hbl := hr.lt
  have hb0 := br_le hr
  have hk1 : Keeps (fun _ => False) w1 ((w1.alloc (.map #[] 0)).alloc (.cells #[.pointer (some ⟨br, 0, none⟩), .map (some w1.heap.size), .map none, .int .i64 0] 107)) := ((Keeps.refl _ _).alloc _).alloc _
  have hk2 : Keeps (fun _ => False) (w1.alloc (.map #[] 0)) ((w1.alloc (.map #[] 0)).alloc (.cells #[.pointer (some ⟨br, 0, none⟩), .map (some w1.heap.size), .map none, .int .i64 0] 107)) := (Keeps.refl _ _).alloc _
  have hsz : ((w1.alloc (.map #[] 0)).alloc (.cells #[.pointer (some ⟨br, 0, none⟩), .map (some w1.heap.size), .map none, .int .i64 0] 107)).heap.size = w1.heap.size + 2 := by simp
  have hsz1 : (w1.alloc (.map #[] 0)).heap.size = w1.heap.size + 1 := by simp
  refine ⟨fun x l hx => ?_, ?_, if_pos rfl, hr.low hk1 fun _ _ _ => id, fun k h1 h2 => ?_, ?_, ?_, fun i r h => (by cases h), ⟨fun k hk => ?_, .inl ?_⟩⟩
  · rw [hsz]
    split at hx
    · omega
    · split at hx
      · omega
      · split at hx
        · omega
        · cases hx
  · have := Blk.new (w1.alloc (.map #[] 0)) 107 #[.pointer (some ⟨br, 0, none⟩), .map (some w1.heap.size), .map none, .int .i64 0]
    rw [hsz1] at this
    exact this
  · rw [if_neg (by omega), if_neg (by omega), if_pos ⟨h1, h2⟩]
  · have := (IsF.new Tryz.prog 3 60001 ikl w1).keeps hk2 id
    exact this
  · simp
  · simp only at hk
    split at hk
    · cases hk
    · split at hk
      · cases hk
      · split at hk
        · cases hk
        · cases hk
  · rfl
set_option maxHeartbeats 8000000 in
set_option maxRecDepth 100000 in
theorem new_m (A : Option Addr) (n c : Nat) (xs : List Int) (b : Nat) (V : Nat → Option (List Int)) (fa : Nat → Option Addr) (fc : Nat → Nat) (w : World) (hx : xs.length = n) (hl : Lies w A xs) (hn : n ≤ 1000000) (hb : ∀ x ∈ xs, 0 ≤ x ∧ x < 256)
    (hm : IsF Tryz.prog 3 60001 ikl w b (fun i => (V i).map fun l => .slice (fa i) l.length (fc i))) (hV : ∀ i l, V i = some l → Lies w (fa i) l ∧ l.length ≤ 1000000 ∧ ∀ x ∈ l, 0 ≤ x ∧ x < 256) (hV0 : ∀ i, 60001 ≤ i → V i = none) :
    Calls Tryz.prog 22 #[.slice A n c, .map (some b)] w fun r w' => ∃ g F, r = .returned (.pointer (some ⟨g, 0, none⟩)) ∧ Lz w.heap.size g F ⟨xs, 0, false⟩ (fun i => (V i).map fun l => ⟨l, 0, 0⟩) 0 0 w' ∧ Keeps (fun _ => False) w w' := by
  obtain ⟨vv, hvv⟩ : ∃ vv : Nat → Option Value, (fun i => (V i).map fun l => .slice (fa i) l.length (fc i)) = vv := ⟨_, rfl⟩
  rw [hvv] at hm
  have HVV := Lib.hid hvv
  have HM := Lib.hid hm
  have HV := Lib.hid hV
  have HV0 := Lib.hid hV0
  have HR := Lib.hid (fun W (k : Keeps (fun _ => False) w W) => Br.read_n A n c xs W hx (hl.keeps k fun _ _ _ => id) hn hb)
  clear hvv hm hV hx hl hb hV0
  go_enter Tryz.func22, Tryz.ntmps22
  go_wp2_with fail
  refine (HR.out w (Keeps.refl _ _)).mono ?_
  rintro r w1 ⟨br, rfl, hr1, hk1⟩
  have HR1 := Lib.hid hr1
  have HK1 := Lib.hid hk1
  have hmm := @run_makeMap Tryz.prog
  clear hr1 hk1 HR
  go_upto_region 2 with fail
  have HL0 := Lib.hid (Ln.start (B := w.heap.size) (fun _ => (0, 0)) HR1.out (Nat.le_refl _))
  have HW0 : Hid (Keeps (fun _ => False) w1 ((w1.alloc (.map #[] 0)).alloc (.cells #[.pointer (some ⟨br, 0, none⟩), .map (some w1.heap.size), .map none, .int .i64 0] 107))) := ((Keeps.refl _ _).alloc _).alloc _
  generalize (w1.alloc (.map #[] 0)).alloc (.cells #[.pointer (some ⟨br, 0, none⟩), .map (some w1.heap.size), .map none, .int .i64 0] 107) = W at HL0 HW0 ⊢
  obtain ⟨o0, ho0⟩ : ∃ o0, (fun k => if k = w1.heap.size + 1 then some 0 else if k = w1.heap.size then some 2 else if w.heap.size ≤ k ∧ k ≤ br then some 1 else none) = o0 := ⟨_, rfl⟩
  rw [ho0] at HL0
  obtain ⟨g, hg⟩ : ∃ g, w1.heap.size + 1 = g := ⟨_, rfl⟩
  obtain ⟨mb, hmb⟩ : ∃ mb, w1.heap.size = mb := ⟨_, rfl⟩
  rw [hg] at HL0
  rw [hmb] at HL0
  rw [hg, hmb]
  have HKW := Lib.hid (HK1.out.trans HW0.out)
  have HM0 := Lib.hid (HM.out.keeps HKW.out id)
  have HBW := Lib.hid HM.out.lt
  clear ho0 hg hmb hmm
  go_upto_region 3 with (
    at_range
    refine wpList_range_f _ int_ks rfl _ _ rfl 29 Tryz.underlying28 b vv rfl HM0.out ?_
    intro w2 cn hrg2 hk2
    have HRG := Lib.hid hrg2
    have HL2 := Lib.hid (HL0.out.keeps hk2 fun _ _ => id)
    have HK2 := Lib.hid (HKW.out.trans hk2)
    clear hrg2 hk2)
  obtain ⟨r1, hr1⟩ : ∃ r1, W.heap.size = r1 := ⟨_, rfl⟩
  have HOR : Hid (o0 r1 = none) := by
    show o0 r1 = none
    cases ho : o0 r1 with
    | none => rfl
    | some l =>
      have := (HL0.out.lt r1 l ho).2
      omega
  have HWR : Hid (w.heap.size ≤ r1) := by have := HKW.out.size; show _ ≤ r1; omega
  rw [hr1] at HRG ⊢
  clear hr1 HM0 HL0
  go_frame
  go_loopw [6, 7] (fun _ _ wr => ∃ (seen : List Nat) (cn : Nat) (o : Nat → Option Nat) (P : Nat → Nat × Nat), Hid (RgF Tryz.prog 3 60001 ikl wr b r1 vv seen cn ∧ Ln o w.heap.size g ⟨xs, 0, false⟩ (fun i => if i ∈ seen then (V i).map fun l => ⟨l, 0, 0⟩ else none) 0 0 br w.heap.size mb (.map none) P wr ∧ o r1 = none ∧ Keeps (fun _ => False) w wr)) (fun _ _ wr => wr.rangeLeft b r1)
  case atStart => exact ⟨[], cn, o0, _, HRG.out, by simpa using HL2.out, HOR.out, HK2.out⟩
  case round =>
    clear HRG HL2 HOR HK2
    obtain ⟨seen, cn1, o, P, HI⟩ := hrel
    have HR := Lib.hid HI.out.1
    have HL := Lib.hid HI.out.2.1
    have HO := Lib.hid HI.out.2.2.1
    have HK := Lib.hid HI.out.2.2.2
    clear HI
    go_wp2_with (
      at_next
      refine wpList_next_f _ int_ks rfl _ rfl b r1 _ seen cn1 rfl HR.out ?_ ?_)
    · intro hall
      have HG : Hid ((fun i => if i ∈ seen then (V i).map fun l => (⟨l, 0, 0⟩ : RS) else none) = fun i => (V i).map fun l => ⟨l, 0, 0⟩) := by
        show _ = _
        funext i
        by_cases hs : i ∈ seen
        · rw [if_pos hs]
        · rw [if_neg hs]
          rcases Nat.lt_or_ge i 60001 with hi | hi
          · have : vv i = none := Classical.byContradiction fun h => hs (hall i hi h)
            rw [← HVV.out] at this
            cases hv : V i with
            | none => rfl
            | some l =>
              simp [hv] at this
          · rw [HV0.out i hi]
            rfl
      clear hall
      go_wp2_with fail
      go_ret
      have hl := HL.out
      rw [HG.out] at hl
      exact ⟨g, Ft o, rfl, ⟨o, br, w.heap.size, mb, _, P, hl, fun _ => Iff.rfl⟩, HK.out⟩
    · intro i v w7 cn7 hi hv hns hrg7 hlt7 hk7 hen
      obtain ⟨l, hl, rfl⟩ : ∃ l, V i = some l ∧ .slice (fa i) l.length (fc i) = v := by
        rw [← HVV.out] at hv
        simpa using hv
      obtain ⟨hvl, hvn, hvb⟩ := HV.out i l hl
      obtain ⟨ln, hln⟩ : ∃ ln, l.length = ln := ⟨_, rfl⟩
      have HL7 := Lib.hid (HL.out.keeps hk7 (fun k hk e => by rw [e, Ft, HO.out] at hk; exact hk rfl))
      have HK7 : Hid (Keeps (fun _ => False) w w7) := Lib.hid (keeps_low HK.out hk7 (fun z hz => by subst hz; exact HWR.out))
      have HR7 := Lib.hid hrg7
      have HLT : Hid (cn7 < wr.rangeLeft b r1) := by show _ < _; rw [HR.out.left_eq]; exact hlt7
      have HIR := Lib.hid (fun W (k : Keeps (fun _ => False) w7 W) => Ir.iread (fa i) ln (fc i) l W hln (hvl.keeps (HK7.out.trans k) fun _ _ _ => id) (by omega) hvb)
      have HGM : Hid (¬ g = mb) := by
        show ¬ g = mb
        intro e
        have h1 := HL7.out.og
        rw [e, HL7.out.omap] at h1
        cases h1
      have hc1 : w7.cell? ⟨g, 1, none⟩ = some (.map (some mb)) := HL7.out.blk.cell 1
      have HI := Lib.hid hi
      have HLI := Lib.hid hl
      have HNS := Lib.hid hns
      rw [hln] at hen ⊢
      clear hv hvl hvn hvb hln hrg7 hlt7 hk7 HR HL HK hi hl hns
      unfold ikv at hen ⊢
      go_upto_region 5 with fail
      go_region_held3 (fun w' => w'.cell? ⟨g, 1, none⟩ = some (.map (some mb))) (go_keep)
        ((have H := HIR; go_at_call 48; refine (H.out _ ((Keeps.refl _ _).drewN 1)).mono ?_; rintro e w8 ⟨g8, rfl, hr8, hk8'⟩; have hk8 : Keeps (fun _ => False) w7 w8 := hk8'.of_drew; obtain ⟨W9, hrun, hu9, hk9⟩ := Qi.IsF.update_run int_ks (HL7.out.keeps hk8 fun _ _ => id).map Tryz.underlying105 (by omega) HI.out (rd g8); have hcell9 : W9.cell? ⟨g, 1, none⟩ = some (.map (some mb)) := (hk9.cell (p := ⟨g, 1, none⟩) (Nat.lt_of_lt_of_le HL7.out.blk.lt hk8.size) HGM.out).trans ((HL7.out.keeps hk8 fun _ _ => id).blk.cell 1); have hcell8 : w8.cell? ⟨g, 1, none⟩ = some (.map (some mb)) := (HL7.out.keeps hk8 fun _ _ => id).blk.cell 1; have HRD8 := Lib.hid hr8; have HK8 := Lib.hid hk8; have HU9 := Lib.hid hu9; have HK9 := Lib.hid hk9; unfold ikv at hrun; clear hr8 hk8 hk8' hu9 hk9 HIR))
      have hG : (fun i => if i ∈ seen then (V i).map fun l => (⟨l, 0, 0⟩ : RS) else none) i = none := if_neg HNS.out
      have hl9 := HL7.out.add HI.out hG HK8.out HRD8.out (Nat.le_refl _) HK9.out HU9.out
      have hru : ru (fun i => if i ∈ seen then (V i).map fun l => (⟨l, 0, 0⟩ : RS) else none) i ⟨l, 0, 0⟩ = fun j => if j ∈ seen ++ [i] then (V j).map fun l => ⟨l, 0, 0⟩ else none := by
        funext j
        unfold ru
        by_cases e : j = i
        · subst e
          rw [if_pos rfl, if_pos (by simp), HLI.out]
          rfl
        · rw [if_neg e]
          have : j ∈ seen ++ [i] ↔ j ∈ seen := by simp [e]
          simp only [this]
      rw [hru] at hl9
      have hmb := (HL7.out.lt mb 2 HL7.out.omap)
      have hr1m : r1 ≠ mb := fun e => by
        have h1 := HO.out
        rw [e, HL7.out.omap] at h1
        cases h1
      have HR9 := Lib.hid ((HR7.out.keeps HK8.out id id).keeps HK9.out (fun e => by have := HBW.out; omega) hr1m)
      have HL9 := Lib.hid hl9
      have HO9 : Hid ((fun k => if w7.drew.heap.size ≤ k ∧ k ≤ g8 then some (4 + i) else o k) r1 = none) := by
        show (if w7.drew.heap.size ≤ r1 ∧ r1 ≤ g8 then some (4 + i) else o r1) = none
        rw [if_neg (fun h => by have h1 := HR7.out.lt; have h2 : w7.drew.heap.size = w7.heap.size := rfl; omega)]
        exact HO.out
      have HK10 : Hid (Keeps (fun _ => False) w W9) := Lib.hid (keeps_low (HK7.out.trans HK8.out) HK9.out (fun z hz => by subst hz; exact hmb.1))
      clear hG hl9 hru hmb hr1m
      go_roundw
      case rel =>
        exact ⟨_, _, _, _, _, _, _, _, _, _, _, _, _, _, ⟨seen ++ [i], cn7, _, _, HR9.out, HL9.out, HO9.out, HK10.out⟩, rfl⟩
      case measure =>
        exact Nat.lt_of_le_of_lt (Nat.le_of_eq HR9.out.left_eq) HLT.out
set_option maxHeartbeats 8000000 in
set_option maxRecDepth 100000 in
theorem new_nil (A : Option Addr) (n c : Nat) (xs : List Int) (w : World) (hx : xs.length = n) (hl : Lies w A xs) (hn : n ≤ 1000000) (hb : ∀ x ∈ xs, 0 ≤ x ∧ x < 256) :
    Calls Tryz.prog 22 #[.slice A n c, .map none] w fun r w' => ∃ g F, r = .returned (.pointer (some ⟨g, 0, none⟩)) ∧ Lz w.heap.size g F ⟨xs, 0, false⟩ (fun _ => none) 0 0 w' ∧ Keeps (fun _ => False) w w' := by
  have HR := Lib.hid (fun W (k : Keeps (fun _ => False) w W) => Br.read_n A n c xs W hx (hl.keeps k fun _ _ _ => id) hn hb)
  clear hx hl hb
  go_enter Tryz.func22, Tryz.ntmps22
  go_wp2_with fail
  refine (HR.out w (Keeps.refl _ _)).mono ?_
  rintro r w1 ⟨br, rfl, hr1, hk1⟩
  have HR1 := Lib.hid hr1
  have HK1 := Lib.hid hk1
  have hmm := @run_makeMap Tryz.prog
  clear hr1 hk1 HR
  go_upto_region 2 with fail
  have HL0 := Lib.hid (Ln.start (B := w.heap.size) (fun _ => (0, 0)) HR1.out (Nat.le_refl _))
  have HW0 : Hid (Keeps (fun _ => False) w1 ((w1.alloc (.map #[] 0)).alloc (.cells #[.pointer (some ⟨br, 0, none⟩), .map (some w1.heap.size), .map none, .int .i64 0] 107))) := ((Keeps.refl _ _).alloc _).alloc _
  generalize (w1.alloc (.map #[] 0)).alloc (.cells #[.pointer (some ⟨br, 0, none⟩), .map (some w1.heap.size), .map none, .int .i64 0] 107) = W at HL0 HW0 ⊢
  obtain ⟨o0, ho0⟩ : ∃ o0, (fun k => if k = w1.heap.size + 1 then some 0 else if k = w1.heap.size then some 2 else if w.heap.size ≤ k ∧ k ≤ br then some 1 else none) = o0 := ⟨_, rfl⟩
  rw [ho0] at HL0
  obtain ⟨g, hg⟩ : ∃ g, w1.heap.size + 1 = g := ⟨_, rfl⟩
  obtain ⟨mb, hmb⟩ : ∃ mb, w1.heap.size = mb := ⟨_, rfl⟩
  rw [hg] at HL0
  rw [hmb] at HL0
  rw [hg, hmb]
  have HKW := Lib.hid (HK1.out.trans HW0.out)
  have hrn := run_range_nilMap (P := Tryz.prog) W 28 3 29 Tryz.underlying28
  have hnx := fun ty => run_next_nilMap (P := Tryz.prog) W ty 0 0 #[]
  have HKF : Hid (Keeps (fun _ => False) W (W.alloc (.mapIter none 0 #[] 0))) := (Keeps.refl _ _).alloc _
  clear ho0 hg hmb hmm
  go_wp2
  go_loopw [6] (fun _ wr => wr = W.alloc (.mapIter none 0 #[] 0)) (fun _ _ => 0)
  case atStart => rfl
  case round =>
    subst hrel
    go_wp2
    go_ret
    exact ⟨g, Ft o0, rfl, ⟨o0, br, w.heap.size, mb, _, _, HL0.out.keeps HKF.out fun _ _ => id, fun _ => Iff.rfl⟩, HKW.out.trans HKF.out⟩
end Go.Proofs.YtgaofnmgdefdcaaGreatDoor.Le

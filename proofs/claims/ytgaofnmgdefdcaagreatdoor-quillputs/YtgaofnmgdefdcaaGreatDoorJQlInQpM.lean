/- What the laws on series are handed in, as plain data: ways by small numbers, acts, numbers; they lie below what a law makes. Names no function of the program. -/
/- The statements' own model of a series (QuillPuts): its row of bits, its blocks, by labels of memory's blocks. -/
import Derived.Test.YtgaofnmgdefdcaaGreatDoorQlNum
import Derived.Test.YtgaofnmgdefdcaaGreatDoorDsSmA
import Derived.Test.YtgaofnmgdefdcaaGreatDoorJQlIntQlArr
import Derived.Test.YtgaofnmgdefdcaaGreatDoorJQlCodeQpW
import Derived.Test.YtgaofnmgdefdcaaGreatDoorJWireTakeAnyApp
import Derived.Test.YtgaofnmgdefdcaaGreatDoorItfRef
import Derived.Test.YtgaofnmgdefdcaaGreatDoorJQlFindQlInto

namespace Go.Proofs.YtgaofnmgdefdcaaGreatDoor.Qn
open Go.RowKit Go.Proofs.YtgaofnmgdefdcaaGreatDoor.Gen Go.Proofs.YtgaofnmgdefdcaaGreatDoor.Hr Go.Proofs.YtgaofnmgdefdcaaGreatDoor.Hn Go.Proofs.YtgaofnmgdefdcaaGreatDoor.Ds Go.Proofs.YtgaofnmgdefdcaaGreatDoor.Ky Go.Proofs.YtgaofnmgdefdcaaGreatDoor.Ib Go.Proofs.YtgaofnmgdefdcaaGreatDoor.It Go.Proofs.YtgaofnmgdefdcaaGreatDoor.Bp Go.Proofs.YtgaofnmgdefdcaaGreatDoor.Qu

/-- Ways that came in. -/
structure Ways (w : World) (A : Option Addr) (n : Nat) (f : Nat → Sm) (fa : Nat → Option Addr) (fc : Nat → Nat) (b o : Nat) : Prop where
  ok : ∀ i, i < n → (f i).ok
  at_ : 0 < n → A = some ⟨b, o, none⟩ ∧ b < w.heap.size
  cell : ∀ i, i < n → ∀ j, j < 7 → w.cell? ⟨b, o + i * 7 + j, none⟩ = ((f i).v (fa i) (fc i))[j]?
/-- An act. -/
structure Ac where
  way : Int
  N : Int
  wh : Int
  A : Option Addr
  n : Nat
  c : Nat
  arr : Bool
  bs : List Int
def Ac.v (a : Ac) : Array Value := actv a.way a.N a.wh a.A a.n a.c a.arr
structure Ac.ok (a : Ac) (w : World) : Prop where
  way : 0 ≤ a.way ∧ a.way < 256
  num : -9223372036854775808 ≤ a.N ∧ a.N ≤ 9223372036854775807
  wh : 0 ≤ a.wh ∧ a.wh < 256
  len : a.bs.length = a.n
  cap : a.A = none → a.c = 0
  lies : Lies w a.A a.bs
  byte : ∀ y ∈ a.bs, 0 ≤ y ∧ y < 256
structure Acts (w : World) (A : Option Addr) (n : Nat) (f : Nat → Ac) (b o : Nat) : Prop where
  ok : ∀ i, i < n → (f i).ok w
  at_ : 0 < n → A = some ⟨b, o, none⟩ ∧ b < w.heap.size
  cell : ∀ i, i < n → ∀ j, j < 5 → w.cell? ⟨b, o + i * 5 + j, none⟩ = (f i).v[j]?
section
variable {w w1 : World} {A : Option Addr} {n b o : Nat}
theorem Ways.keeps {f : Nat → Sm} {fa : Nat → Option Addr} {fc : Nat → Nat} (h : Ways w A n f fa fc b o) (k : Keeps (w.heap.size ≤ ·) w w1) : Ways w1 A n f fa fc b o :=
  ⟨h.ok, fun h0 => ⟨(h.at_ h0).1, Nat.lt_of_lt_of_le (h.at_ h0).2 k.size⟩, fun i hi j hj => (k.cell (p := ⟨b, o + i * 7 + j, none⟩) (h.at_ (by omega)).2 (by have := (h.at_ (by omega)).2; show ¬ w.heap.size ≤ b; omega)).trans (h.cell i hi j hj)⟩
theorem Ac.ok.keeps {a : Ac} (h : a.ok w) (k : Keeps (w.heap.size ≤ ·) w w1) : a.ok w1 := by
  refine ⟨h.way, h.num, h.wh, h.len, h.cap, ?_, h.byte⟩
  rcases h.lies with h1 | ⟨b, o, h1, hb, _⟩
  · exact .inl h1
  · exact h.lies.keeps k fun b' o' e hs => by
      rw [h1] at e
      injection e with e
      injection e with e
      omega
theorem Acts.keeps {f : Nat → Ac} (h : Acts w A n f b o) (k : Keeps (w.heap.size ≤ ·) w w1) : Acts w1 A n f b o :=
  ⟨fun i hi => (h.ok i hi).keeps k, fun h0 => ⟨(h.at_ h0).1, Nat.lt_of_lt_of_le (h.at_ h0).2 k.size⟩, fun i hi j hj => (k.cell (p := ⟨b, o + i * 5 + j, none⟩) (h.at_ (by omega)).2 (by have := (h.at_ (by omega)).2; show ¬ w.heap.size ≤ b; omega)).trans (h.cell i hi j hj)⟩
/-- An act's bytes lie below what is made. -/
theorem Ac.ok.low {a : Ac} (h : a.ok w) : a.bs ≠ [] → ∀ b o, a.A = some ⟨b, o, none⟩ → b < w.heap.size := fun h0 b o e => by
  rcases h.lies with h1 | ⟨b', o', h1, hb, _⟩
  · exact absurd h1 h0
  · rw [h1] at e
    injection e with e
    injection e with e
    omega
end
/-- The way that an act names. -/
def wayAt (a : Ac) (n : Nat) : Nat := (a.way % (n : Int)).toNat
theorem wayAt_lt {a : Ac} {n : Nat} (h : 0 ≤ a.way) (hn : 0 < n) : a.way.tmod (n : Int) = (wayAt a n : Int) ∧ wayAt a n < n := by
  have h1 := Int.emod_nonneg a.way (show (n : Int) ≠ 0 by omega)
  have h2 := Int.emod_lt_of_pos a.way (show (0 : Int) < n by omega)
  refine ⟨?_, ?_⟩
  · rw [Int.tmod_eq_emod_of_nonneg h]
    unfold wayAt
    omega
  · unfold wayAt
    omega
/-! ### what a deed leaves alone, how much it adds -/
theorem pInt_far (d : D) (x : Int) (s : St) (k : Nat) (h : d.K = 1 → d.B.toNat ≠ k) : (pInt d x s).2.2 k = s.2 k := by
  unfold pInt
  split
  · unfold putN
    split
    · rfl
    · split
      · rename_i h1
        show pc s.2 d.B.toNat _ k = _
        unfold pc
        rw [if_neg (fun e => h h1 e.symm)]
      · split
        · unfold putW
          split <;> rfl
        · unfold putF
          split <;> rfl
  · rfl
theorem pArr_far (a : E) (bs : List Int) (s : St) (k : Nat) (h1 : a.B.toNat ≠ k) (h2 : a.d.K = 1 → a.d.B.toNat ≠ k) : (pArr a bs s).2.2 k = s.2 k := by
  unfold pArr
  split
  · split
    · unfold pStop
      split
      · rfl
      · show pc s.2 a.B.toNat _ k = _
        unfold pc
        rw [if_neg (fun e => h1 e.symm)]
    · unfold pCnt
      split
      · show pc (pInt a.d bs.length s).2.2 a.B.toNat _ k = _
        unfold pc
        rw [if_neg (fun e => h1 e.symm)]
        exact pInt_far a.d bs.length s k h2
      · exact pInt_far a.d bs.length s k h2
  · rfl
theorem pArr_len (a : E) (bs : List Int) (s : St) : (pArr a bs s).2.1.length ≤ s.1.length + 32 ∧ ∀ j, (hadP (pArr a bs s).2.2 j).length ≤ (hadP s.2 j).length + bs.length + 10 := by
  have h0 : s.1.length ≤ s.1.length + 32 ∧ ∀ j, (hadP s.2 j).length ≤ (hadP s.2 j).length + bs.length + 10 := ⟨by omega, fun j => by omega⟩
  have hi := pInt_len a.d bs.length s
  unfold pArr
  split
  · split
    · unfold pStop
      split
      · exact h0
      · refine ⟨by simp, fun j => ?_⟩
        simp only [hadP_pc]
        split
        · rename_i hj
          subst hj
          simp only [List.length_append, List.length_singleton]
          omega
        · omega
    · unfold pCnt
      split
      · refine ⟨hi.1, fun j => ?_⟩
        simp only [hadP_pc]
        have h1 := hi.2 j
        split
        · rename_i hj
          subst hj
          rw [List.length_append]
          omega
        · omega
      · exact ⟨hi.1, fun j => by have := hi.2 j; omega⟩
  · exact h0
theorem fits_small {d : D} (h : chkI d = 0) : ∀ y ∈ (if d.K = 3 then d.L else []), Fits y := by
  intro y hy
  split at hy
  · rename_i h3
    have hw : newE d.L = 0 := by simpa [chkI, h3] using h
    have := newE_in hw y hy
    exact ⟨⟨by omega, by omega⟩, ⟨by omega, by omega⟩⟩
  · simp at hy
theorem fits_I {s : Sm} (h : s.ok) : ∀ y ∈ s.I.L, Fits y := by
  have h1 := fits_small (Sm.I_ok h).1
  by_cases h3 : s.I.K = 3
  · rw [if_pos h3] at h1
    exact h1
  · intro y hy
    exfalso
    unfold Sm.I at h3 hy
    split at hy
    · simp at hy
    · split at hy
      · simp at hy
      · rename_i h4 h5
        rw [if_neg h4, if_neg h5] at h3
        exact h3 rfl
theorem fits_A {s : Sm} (h : s.ok) : ∀ y ∈ s.A.d.L, Fits y := by
  intro y hy
  unfold Sm.A at hy
  split at hy
  · simp [D0] at hy
  · exact fits_I h y hy
theorem A_S {s : Sm} (h : s.ok) : 0 ≤ s.A.S ∧ s.A.S < 256 := by
  unfold Sm.A
  split
  · exact h.S
  · show 0 ≤ (0 : Int) ∧ (0 : Int) < 256
    omega
end Go.Proofs.YtgaofnmgdefdcaaGreatDoor.Qn

namespace Go.Proofs.YtgaofnmgdefdcaaGreatDoor.Qm
open Go.RowKit Go.Proofs.YtgaofnmgdefdcaaGreatDoor.Gen Go.Proofs.YtgaofnmgdefdcaaGreatDoor.Hu Go.Proofs.YtgaofnmgdefdcaaGreatDoor.Mp Go.Proofs.YtgaofnmgdefdcaaGreatDoor.Cm Go.Proofs.YtgaofnmgdefdcaaGreatDoor.Hr Go.Proofs.YtgaofnmgdefdcaaGreatDoor.Hn Go.Proofs.YtgaofnmgdefdcaaGreatDoor.Hk Go.Proofs.YtgaofnmgdefdcaaGreatDoor.Ln Go.Proofs.YtgaofnmgdefdcaaGreatDoor.Ds Go.Proofs.YtgaofnmgdefdcaaGreatDoor.Ky Go.Proofs.YtgaofnmgdefdcaaGreatDoor.Wr Go.Proofs.YtgaofnmgdefdcaaGreatDoor.Ib Go.Proofs.YtgaofnmgdefdcaaGreatDoor.Bp Go.Proofs.YtgaofnmgdefdcaaGreatDoor.Qh Go.Proofs.YtgaofnmgdefdcaaGreatDoor.Qs Go.Proofs.YtgaofnmgdefdcaaGreatDoor.It Go.Proofs.YtgaofnmgdefdcaaGreatDoor.Qi Go.Proofs.YtgaofnmgdefdcaaGreatDoor.Qu Go.Proofs.YtgaofnmgdefdcaaGreatDoor.Qn Go.Proofs.YtgaofnmgdefdcaaGreatDoor.Bq

/-- The model in memory: o labels its blocks: 0 itself, 1 the map, 2 the row, 3 + i block i's row. -/
structure Md (o : Nat → Option Nat) (base g mb : Nat) (Ar : Option Addr) (cr : Nat) (fa : Nat → Option Addr) (fc : Nat → Nat) (p : St) (w : World) : Prop where
  lt : ∀ k x, o k = some x → base ≤ k ∧ k < w.heap.size
  blk : Blk w g 31 #[.slice Ar p.1.length cr, .map (some mb)]
  og : o g = some 0
  om : o mb = some 1
  row : w.ownsRow base 5 1 (.slice Ar p.1.length cr) p.1.length (bv (ib p.1))
  orow : ∀ b, (Value.slice Ar p.1.length cr).ownBlock = some b → o b = some 2
  map : IsF Tryz.prog 3 60001 ikl w mb (fun i => (p.2 i).map fun l => .slice (fa i) l.length (fc i))
  own : ∀ i l, p.2 i = some l → w.ownsRow base 5 1 (.slice (fa i) l.length (fc i)) l.length (bv l) ∧ ∀ b, (Value.slice (fa i) l.length (fc i)).ownBlock = some b → o b = some (3 + i)
section
variable {o : Nat → Option Nat} {base g mb cr : Nat} {Ar : Option Addr} {fa : Nat → Option Addr} {fc : Nat → Nat} {p : St} {w w1 w2 : World} {S : Nat → Prop}
theorem Md.keeps (h : Md o base g mb Ar cr fa fc p w) (k : Keeps S w w1) (hn : ∀ b, o b ≠ none → ¬ S b) : Md o base g mb Ar cr fa fc p w1 :=
  ⟨fun x y hx => ⟨(h.lt x y hx).1, Nat.lt_of_lt_of_le (h.lt x y hx).2 k.size⟩, h.blk.keeps k (hn g (by rw [h.og]; simp)), h.og, h.om, own_keeps h.row k fun b hb => hn b (by rw [h.orow b hb]; simp), h.orow, h.map.keeps k (hn mb (by rw [h.om]; simp)), fun i l hl => ⟨own_keeps (h.own i l hl).1 k fun b hb => hn b (by rw [(h.own i l hl).2 b hb]; simp), (h.own i l hl).2⟩⟩
theorem Md.more (h : Md o base g mb Ar cr fa fc p w) (k : Keeps (fun _ => False) w w1) : Md o base g mb Ar cr fa fc p w1 := h.keeps k fun _ _ => id
/-- A block's row, or none. -/
theorem Md.had (h : Md o base g mb Ar cr fa fc p w) (i : Nat) : ∃ A c, w.ownsRow base 5 1 (.slice A (hadP p.2 i).length c) (hadP p.2 i).length (bv (hadP p.2 i)) ∧ (∀ b, (Value.slice A (hadP p.2 i).length c).ownBlock = some b → o b = some (3 + i)) ∧
    (i < 60001 → ∀ W, Keeps (fun k => ¬ k = mb) w W → (Instr.lookup 28 (.map (some mb)) (.int .i64 (i : Int)) false).run Tryz.prog W = .ok (.slice A (hadP p.2 i).length c) W) := by
  have hz : ∀ w : World, (zeroValue 29).run Tryz.prog w = .ok (.slice none 0 0) w := fun w => by kernel_rfl
  cases hp : p.2 i with
  | none =>
    have e : hadP p.2 i = [] := by unfold hadP; rw [hp]; rfl
    rw [e]
    refine ⟨none, 0, World.ownsRow_nil _ _ _ _, fun b hb => by simp [Value.ownBlock] at hb, fun hi W k => ?_⟩
    exact ((h.map.keeps k (fun hh => hh rfl)).look int_ks Tryz.underlying28 (hz W) hi).2 (by rw [hp]; rfl) |>.1
  | some l =>
    have e : hadP p.2 i = l := by unfold hadP; rw [hp]; rfl
    rw [e]
    refine ⟨fa i, fc i, (h.own i l hp).1, (h.own i l hp).2, fun hi W k => ?_⟩
    exact (((h.map.keeps k (fun hh => hh rfl)).look int_ks Tryz.underlying28 (hz W) hi).1 _ (by rw [hp]; rfl)).1
theorem lab_sub {o : Nat → Option Nat} {v : Value} {x n : Nat} (h : ∀ b, v.ownBlock = some b → o b = some x ∨ n ≤ b) : ∀ k, (if v.ownBlock = some k then some x else o k) ≠ none → o k ≠ none ∨ n ≤ k := by
  intro k hk
  split at hk
  · rename_i hb
    rcases h k hb with h1 | h1
    · exact .inl (by rw [h1]; simp)
    · exact .inr h1
  · exact .inl hk
def lab (o : Nat → Option Nat) (v : Value) (x : Nat) : Nat → Option Nat := fun k => if v.ownBlock = some k then some x else o k
/-- A block's row is made longer, and put into the map. -/
theorem Md.put {i n c : Nat} {A : Option Addr} {ys : List Int} (h : Md o base g mb Ar cr fa fc p w) (hi : i < 60001) (k : Keeps (fun k => o k = some (3 + i)) w w2) (ho : w2.ownsRow base 5 1 (.slice A n c) n (bv ys)) (hn : ys.length = n) (hat : ∀ b, (Value.slice A n c).ownBlock = some b → o b = some (3 + i) ∨ w.heap.size ≤ b) :
    ∃ w3, (Instr.mapUpdate 28 (.map (some mb)) (.int .i64 (i : Int)) (.slice A n c)).run Tryz.prog w2 = .ok () w3 ∧
      Md (lab o (.slice A n c) (3 + i)) base g mb Ar cr (fun j => if j = i then A else fa j) (fun j => if j = i then c else fc j) (p.1, pc p.2 i ys) w3 ∧ Keeps (fun k => o k = some (3 + i) ∨ k = mb) w w3 ∧ Keeps (· = mb) w2 w3 := by
  have hm : IsF Tryz.prog 3 60001 ikl w2 mb (fun i => (p.2 i).map fun l => .slice (fa i) l.length (fc i)) := h.map.keeps k (fun e => by rw [h.om] at e; injection e with e; omega)
  obtain ⟨w3, hrun, hu, hk⟩ := Qi.IsF.update_run int_ks hm Tryz.underlying28 (by omega) hi (.slice A n c)
  have hnm : ∀ b, (Value.slice A n c).ownBlock = some b → ¬ b = mb := fun b hb e => by
    rcases ho.2 with ⟨h1, _⟩ | ⟨g', cap, cur, h1, _, hh, _⟩
    · rw [h1] at hb
      simp [Value.ownBlock] at hb
    · rw [h1] at hb
      have : g' = b := by simpa [Value.ownBlock] using hb
      subst this
      exact hm.ne_blk hh e
  have hl : ∀ b, (Value.slice A n c).ownBlock = some b → lab o (.slice A n c) (3 + i) b = some (3 + i) := fun b hb => if_pos hb
  have hold : ∀ b x, o b = some x → x ≠ 3 + i → lab o (.slice A n c) (3 + i) b = some x := fun b x hx hne => by
    unfold lab
    rw [if_neg, hx]
    intro hb
    rcases hat b hb with h1 | h1
    · rw [hx] at h1
      injection h1 with h1
      exact hne h1
    · have := (h.lt b x hx).2
      omega
  have hks : ∀ b x, o b = some x → x ≠ 3 + i → x ≠ 1 → ¬ (o b = some (3 + i) ∨ b = mb) := fun b x hx h1 h2 e => by
    rcases e with e | e
    · rw [hx] at e
      injection e with e
      exact h1 e
    · rw [e, h.om] at hx
      injection hx with hx
      exact h2 hx.symm
  have kk : Keeps (fun k => o k = some (3 + i) ∨ k = mb) w w3 := (k.mono fun _ _ e => .inl e).trans (hk.mono fun _ _ e => .inr e)
  refine ⟨w3, hrun, ⟨fun b x hx => ?_, h.blk.keeps kk (hks g 0 h.og (by omega) (by omega)), hold g 0 h.og (by omega), hold mb 1 h.om (by omega), own_keeps h.row kk fun b hb => hks b 2 (h.orow b hb) (by omega) (by omega), fun b hb => hold b 2 (h.orow b hb) (by omega), hu.congr fun j _ => ?_, fun j l hj => ?_⟩, kk, hk⟩
  · unfold lab at hx
    split at hx
    · rename_i hb
      have h1 := ho.lt b hb
      exact ⟨h1.1, Nat.lt_of_lt_of_le h1.2 hk.size⟩
    · exact ⟨(h.lt b x hx).1, Nat.lt_of_lt_of_le (h.lt b x hx).2 kk.size⟩
  · unfold Cm.putF pc
    by_cases e : j = i
    · subst e
      simp [hn]
    · simp [e]
  · have hj' : (if j = i then some ys else p.2 j) = some l := hj
    by_cases e : j = i
    · rw [if_pos e] at hj'
      injection hj' with hj'
      subst hj'
      subst e
      simp only [if_true]
      rw [hn]
      exact ⟨own_keeps ho hk hnm, hl⟩
    · rw [if_neg e] at hj'
      simp only [if_neg e]
      obtain ⟨h1, h2⟩ := h.own j l hj'
      exact ⟨own_keeps h1 kk fun b hb => hks b (3 + j) (h2 b hb) (by omega) (by omega), fun b hb => hold b (3 + j) (h2 b hb) (by omega)⟩
/-- The row is made longer. -/
theorem Md.put_row {n c : Nat} {A : Option Addr} {l : List Nat} (h : Md o base g mb Ar cr fa fc p w) (k : Keeps (fun k => o k = some 2) w w2) (ho : w2.ownsRow base 5 1 (.slice A n c) n (bv (ib l))) (hn : l.length = n) (hat : ∀ b, (Value.slice A n c).ownBlock = some b → o b = some 2 ∨ w.heap.size ≤ b) :
    Md (lab o (.slice A n c) 2) base g mb A c fa fc (l, p.2) (w2.setCell ⟨g, 0, none⟩ (.slice A n c)) ∧ Keeps (fun k => o k = some 2 ∨ k = g) w (w2.setCell ⟨g, 0, none⟩ (.slice A n c)) := by
  have hg2 : Blk w2 g 31 #[.slice Ar p.1.length cr, .map (some mb)] := h.blk.keeps k (fun e => by rw [h.og] at e; cases e)
  have hk : Keeps (· = g) w2 (w2.setCell ⟨g, 0, none⟩ (.slice A n c)) := (Keeps.refl _ _).setOwn 0 _
  have kk : Keeps (fun k => o k = some 2 ∨ k = g) w (w2.setCell ⟨g, 0, none⟩ (.slice A n c)) := (k.mono fun _ _ e => .inl e).trans (hk.mono fun _ _ e => .inr e)
  have hold : ∀ b x, o b = some x → x ≠ 2 → lab o (.slice A n c) 2 b = some x := fun b x hx hne => by
    unfold lab
    rw [if_neg, hx]
    intro hb
    rcases hat b hb with h1 | h1
    · rw [hx] at h1
      injection h1 with h1
      exact hne h1
    · have := (h.lt b x hx).2
      omega
  have hks : ∀ b x, o b = some x → x ≠ 2 → x ≠ 0 → ¬ (o b = some 2 ∨ b = g) := fun b x hx h1 h2 e => by
    rcases e with e | e
    · rw [hx] at e
      injection e with e
      exact h1 e
    · rw [e, h.og] at hx
      injection hx with hx
      exact h2 hx.symm
  refine ⟨⟨fun b x hx => ?_, ?_, hold g 0 h.og (by omega), hold mb 1 h.om (by omega), ?_, fun b hb => if_pos (by rw [← hn]; exact hb), h.map.keeps kk (hks mb 1 h.om (by omega) (by omega)), fun j l hj => ?_⟩, kk⟩
  · unfold lab at hx
    split at hx
    · rename_i hb
      have h1 := ho.lt b hb
      exact ⟨h1.1, Nat.lt_of_lt_of_le h1.2 hk.size⟩
    · exact ⟨(h.lt b x hx).1, Nat.lt_of_lt_of_le (h.lt b x hx).2 kk.size⟩
  · have := hg2.setCell 0 (.slice A n c)
    simp only [hn]
    simpa using this
  · simp only [hn]
    exact own_keeps ho hk fun b hb e => own_ne ho hg2 (by decide) (e ▸ hb)
  · obtain ⟨h1, h2⟩ := h.own j l hj
    exact ⟨own_keeps h1 kk fun b hb => hks b (3 + j) (h2 b hb) (by omega) (by omega), fun b hb => hold b (3 + j) (h2 b hb) (by omega)⟩
end
end Go.Proofs.YtgaofnmgdefdcaaGreatDoor.Qm

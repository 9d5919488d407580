/- Facts that hang on some blocks alone; steps that turn these alone, and new ones. Names no function of the program. -/
/- Maps as functions of the numbers of their keys, the order left open; an entry that is made ahead of what is stored into it. No program is named here. -/
import Derived.Test.YtgaofnmgdefdcaaGreatDoorJGenBitPlain
import Derived.Test.YtgaofnmgdefdcaaGreatDoorJHufCmpHufMap
import Derived.WideKeyEntry
import Derived.DeepKeys4

namespace Go.Proofs.YtgaofnmgdefdcaaGreatDoor.Qh
open Go.RowKit Go.Proofs.YtgaofnmgdefdcaaGreatDoor.Gen

/-- R hangs on the blocks that F holds of, all of them there. -/
def Held (F : Nat → Prop) (R : World → Prop) (w : World) : Prop :=
  (∀ k, F k → k < w.heap.size) ∧ ∀ S w1, Keeps S w w1 → (∀ k, F k → ¬ S k) → R w1
section
variable {F F' S : Nat → Prop} {R R' : World → Prop} {w w1 w2 : World}
theorem Held.out (h : Held F R w) : R w := h.2 (fun _ => False) w (Keeps.refl _ _) (fun _ _ => id)
theorem Held.lt (h : Held F R w) {k : Nat} (hk : F k) : k < w.heap.size := h.1 k hk
theorem Held.keeps (h : Held F R w) (k : Keeps S w w1) (hn : ∀ b, F b → ¬ S b) : Held F R w1 :=
  ⟨fun b hb => Nat.lt_of_lt_of_le (h.1 b hb) k.size, fun S' w2 k2 hn2 =>
    h.2 (fun b => S b ∨ S' b) w2 ((k.mono fun _ _ => .inl).trans (k2.mono fun _ _ => .inr)) fun b hb hx => hx.elim (hn b hb) (hn2 b hb)⟩
theorem Held.more (h : Held F R w) (k : Keeps (fun _ => False) w w1) : Held F R w1 := h.keeps k fun _ _ => id
theorem Held.mono (h : Held F R w) (hF : ∀ k, F k → F' k) (hl : ∀ k, F' k → k < w.heap.size) : Held F' R w :=
  ⟨hl, fun S w1 k hn => h.2 S w1 k fun b hb => hn b (hF b hb)⟩
theorem Held.imp (h : Held F R w) (hr : ∀ u, R u → R' u) : Held F R' w := ⟨h.1, fun S w1 k hn => hr w1 (h.2 S w1 k hn)⟩
theorem Held.and (h : Held F R w) (h' : Held F' R' w) : Held (fun k => F k ∨ F' k) (fun u => R u ∧ R' u) w :=
  ⟨fun k hk => hk.elim (h.1 k) (h'.1 k), fun S w1 k hn => ⟨h.2 S w1 k fun b hb => hn b (.inl hb), h'.2 S w1 k fun b hb => hn b (.inr hb)⟩⟩
/-- From w to w1 only blocks of F have turned; what is F' now was of F, or is new. -/
structure Step (F F' : Nat → Prop) (w w1 : World) : Prop where
  keeps : Keeps F w w1
  sub : ∀ k, F' k → F k ∨ w.heap.size ≤ k
theorem Step.refl (F : Nat → Prop) (w : World) : Step F F w w := ⟨Keeps.refl _ _, fun _ => .inl⟩
theorem Step.trans {F1 F2 : Nat → Prop} (h : Step F F1 w w1) (h2 : Step F1 F2 w1 w2) : Step F F2 w w2 := by
  refine ⟨⟨h2.keeps.os.trans h.keeps.os, h2.keeps.tape.trans h.keeps.tape, h2.keeps.output.trans h.keeps.output, Nat.le_trans h.keeps.size h2.keeps.size, fun k hk hn => ?_⟩, fun k hk => ?_⟩
  · refine (h2.keeps.block k (Nat.lt_of_lt_of_le hk h.keeps.size) fun h1 => ?_).trans (h.keeps.block k hk hn)
    rcases h.sub k h1 with h3 | h3
    · exact hn h3
    · omega
  · rcases h2.sub k hk with h3 | h3
    · exact h.sub k h3
    · exact .inr (Nat.le_trans h.keeps.size h3)
theorem Step.quiet (k : Keeps (fun _ => False) w w1) : Step F F w w1 := ⟨k.none_, fun _ => .inl⟩
theorem Step.more (h : Step F F' w w1) (k : Keeps (fun _ => False) w1 w2) : Step F F' w w2 := h.trans (.quiet k)
theorem Step.pre (k : Keeps (fun _ => False) w w1) (h : Step F F' w1 w2) : Step F F' w w2 := (Step.quiet k).trans h
theorem Step.of_drew (h : Step F F' w.drew w1) : Step F F' w w1 := ⟨h.keeps.of_drew, h.sub⟩
/-- What hangs on other blocks stays. -/
theorem Held.step {G : Nat → Prop} (h : Held G R w) (s : Step F F' w w1) (hd : ∀ k, G k → ¬ F k) : Held G R w1 := h.keeps s.keeps hd
theorem Held.apart {G : Nat → Prop} (h : Held G R w) (s : Step F F' w w1) (hd : ∀ k, G k → ¬ F k) : ∀ k, G k → ¬ F' k := fun k hk hf => by
  rcases s.sub k hf with h1 | h1
  · exact hd k hk h1
  · have := h.1 k hk
    omega
end
end Go.Proofs.YtgaofnmgdefdcaaGreatDoor.Qh

namespace Go.Proofs.YtgaofnmgdefdcaaGreatDoor.Cm
open Go.RowKit Go.ChangeMaps Go.MapKept Go.Proofs.YtgaofnmgdefdcaaGreatDoor.Gen Go.Proofs.YtgaofnmgdefdcaaGreatDoor.Mp Go.Maps

section
variable {P : Program} {k : TypeId} {w w1 : World} {b r : Nat} {m met : List (Lit × Value)}
theorem keeps_setBlock {w : World} {b : Nat} {es : Array MapEntry} {ck : Nat} {o' : Obj} (h : w.heap[b]? = some (.map es ck)) : Keeps (· = b) w (setBlock w b o') :=
  ⟨rfl, rfl, rfl, by simp [setBlock], fun i _ hi => heap_setBlock_other h _ hi⟩
theorem setBlock_same {w : World} {b : Nat} {es : Array MapEntry} {ck : Nat} (h : w.heap[b]? = some (.map es ck)) : setBlock w b (.map es ck) = w := by
  have e : w.heap.setIfInBounds b (.map es ck) = w.heap := by
    apply Array.ext_getElem?
    intro i
    by_cases hi : i = b
    · subst hi; exact (heap_setBlock_same h _).trans h.symm
    · exact heap_setBlock_other h _ hi
  unfold setBlock
  rw [e]
theorem IsM.same (h : IsM P k w b m) (e : w1.heap[b]? = w.heap[b]?) : IsM P k w1 b m := by
  obtain ⟨D, ⟨es, clock, h1, h2⟩, h3⟩ := h
  exact ⟨D, ⟨es, clock, e.trans h1, h2⟩, h3⟩
/-- An entry made, then what is stored into it; what is looked up between is what was looked up ahead. -/
theorem IsM.entry {t e : TypeId} (h : IsM P k w b m) (L : WideMaps.KeyLaw P k) (ht : P.underlying t = some (.map k e)) {z : Value} (hz : ∀ u : World, (zeroValue e).run P u = .ok z u) {key : Value} {kl : Lit} (hkey : keyOf P k key = some kl) (hl : m.length ≤ 1000000) :
    ∃ v0 st w1, (Instr.mapEntry t (.map (some b)) key).run P w = .ok (.tuple #[v0, goInt st]) w1 ∧ Keeps (· = b) w w1 ∧
      (∀ c, (Instr.lookup t (.map (some b)) key false).run P w = .ok c w → (Instr.lookup t (.map (some b)) key false).run P w1 = .ok c w1) ∧
      ∀ (w2 : World) (val : Value), w2.heap[b]? = w1.heap[b]? → ∃ w3, (Instr.entryStore t (.map (some b)) (goInt st) val).run P w2 = .ok () w3 ∧ IsM P k w3 b (upd m kl val) ∧ Keeps (· = b) w2 w3 := by
  obtain ⟨D, h1, h3⟩ := h
  have hown := h1
  obtain ⟨es, clock, hb, F, hs, hD⟩ := h1
  obtain ⟨v0, st, es1, clock1, hE, hcase, hS⟩ := WideElems.entry_then_store L ht hz hb F hkey
  refine ⟨v0, st, setBlock w b (.map es1 clock1), hE, keeps_setBlock hb, ?_, fun w2 val hw2 => ?_⟩
  · intro c hc
    rcases L.find w hkey es.toList F.keys with ⟨f1, f2⟩ | ⟨j, e0, f1, f2, f3⟩
    · have e1 := hE
      simp [Instr.mapEntry, run_underlying ht, MapKept.run_getObj_map hb, L.check w false hkey, f1, hz, MapKept.run_setObj_map _ hb, Result.andThen] at e1
      obtain ⟨_, e2⟩ := e1
      have hc2 := hc
      simp [Instr.lookup, run_underlying ht, MapKept.run_getObj_map hb, L.check w _ hkey, f1, hz, Result.andThen] at hc2
      subst hc2
      have hb1 : (setBlock w b (.map es1 clock1)).heap[b]? = some (.map (es.push ⟨key, z, clock⟩) (clock + 1)) := by
        rw [← e2]
        exact heap_setBlock_same hb _
      generalize setBlock w b (.map es1 clock1) = W1 at hb1 ⊢
      have hks : ∀ e ∈ (es.push ⟨key, z, clock⟩).toList, ∃ l, keyOf P k e.key = some l := by
        intro x hx
        simp only [Array.toList_push, List.mem_append, List.mem_singleton] at hx
        rcases hx with hx | rfl
        · exact F.keys x hx
        · exact ⟨kl, hkey⟩
      rcases L.find W1 hkey _ hks with ⟨g1, g2⟩ | ⟨j, e0, g1, g2, g3⟩
      · exact absurd rfl (g2 ⟨key, z, clock⟩ (by simp))
      · have hm := List.mem_of_getElem? g2
        simp only [Array.toList_push, List.mem_append, List.mem_singleton] at hm
        rcases hm with hm | rfl
        · exact absurd g3 (f2 e0 hm)
        · simp only [Array.toList_push] at g1
          simp [Instr.lookup, run_underlying ht, MapKept.run_getObj_map hb1, L.check W1 _ hkey, g1, Result.andThen]
    · have hj : es[j]? = some e0 := by simpa using f2
      have hsame : es.modify j (fun e => { e with key := key }) = es := by
        apply Array.ext_getElem?
        intro i
        rw [Array.getElem?_modify]
        split
        · next hi =>
          subst hi
          rw [hj, ← f3]
          rfl
        · rfl
      have e1 := hE
      simp [Instr.mapEntry, run_underlying ht, MapKept.run_getObj_map hb, L.check w false hkey, f1, hj, f3, L.stays w hkey, hsame, MapKept.run_setObj_map _ hb, Result.andThen] at e1
      obtain ⟨_, e2⟩ := e1
      have e3 : setBlock w b (.map es1 clock1) = w := by
        rw [← e2]
        exact setBlock_same hb
      rw [e3]
      exact hc
  · obtain ⟨es', clock', g1, g2⟩ := hS w2 val (hw2.trans (heap_setBlock_same hb _))
    have hb2 : w2.heap[b]? = some (.map es1 clock1) := hw2.trans (heap_setBlock_same hb _)
    refine ⟨_, g1, ?_, keeps_setBlock hb2⟩
    obtain ⟨w', r1, r2, _⟩ := hown.update (Keyed.of_law L) ht (by simp only [maxLen]; omega) hkey (d := .held val) (ps := []) (val := val) rfl
    rw [g2] at r1
    injection r1 with _ r1
    subst r1
    exact IsM.same (IsM.of r2 (h3.put ((Keyed.of_law L).key hkey) val)) ((heap_setBlock_same hb2 _).trans (heap_setBlock_same hb _).symm)
end

/-! ### maps as functions of the numbers of their keys -/
/-- Keys in memory, and as they are told apart: of each number below N one. -/
structure Ks (P : Program) (k : TypeId) (N : Nat) (kv : Nat → Value) (kl : Nat → Lit) : Prop where
  keyed : Keyed P k
  ok : ∀ i, i < N → keyOf P k (kv i) = some (kl i)
  inj : ∀ i j, i < N → j < N → kv i = kv j → i = j
section
variable {P : Program} {k : TypeId} {N : Nat} {kv : Nat → Value} {kl : Nat → Lit}
theorem Ks.lit (K : Ks P k N kv kl) {i : Nat} (h : i < N) : WideAt.IsKeyLit (kl i) := K.keyed.key (K.ok i h)
theorem Ks.linj (K : Ks P k N kv kl) {i j : Nat} (hi : i < N) (hj : j < N) (h : kl i = kl j) : i = j :=
  K.inj i j hi hj (K.keyed.inj (K.ok i hi) (by rw [h]; exact K.ok j hj))
/-- These entries are those of this function. -/
structure Fm (kl : Nat → Lit) (N : Nat) (val : Nat → Option Value) (m : List (Lit × Value)) : Prop where
  sub : ∀ p ∈ m, ∃ i, i < N ∧ p.1 = kl i ∧ val i = some p.2
  all : ∀ i, i < N → ∀ v, val i = some v → (kl i, v) ∈ m
def putF (val : Nat → Option Value) (i : Nat) (v : Value) (j : Nat) : Option Value := if j = i then some v else val j
theorem Fm.put (K : Ks P k N kv kl) {val : Nat → Option Value} {m : List (Lit × Value)} (h : Fm kl N val m) {i : Nat} (hi : i < N) (v : Value) : Fm kl N (putF val i v) (upd m (kl i) v) := by
  refine ⟨fun p hp => ?_, fun j hj u hu => ?_⟩
  · rcases (mem_upd (K.lit hi)).1 hp with ⟨h1, h2⟩ | rfl
    · obtain ⟨j, hj, e1, e2⟩ := h.sub p h1
      refine ⟨j, hj, e1, ?_⟩
      rw [putF, if_neg (fun e => h2 (by rw [e1, e]))]
      exact e2
    · exact ⟨i, hi, rfl, by rw [putF, if_pos rfl]⟩
  · rw [mem_upd (K.lit hi)]
    unfold putF at hu
    split at hu
    · next e =>
      injection hu with hu
      subst e
      subst hu
      exact .inr rfl
    · next e => exact .inl ⟨h.all j hj u hu, fun e2 => e (K.linj hj hi e2)⟩
theorem Fm.keys (K : Ks P k N kv kl) {val : Nat → Option Value} {m : List (Lit × Value)} (h : Fm kl N val m) {i : Nat} (hi : i < N) : kl i ∈ m.map (·.1) ↔ val i ≠ none := by
  constructor
  · intro hm
    obtain ⟨p, hp, e⟩ := List.mem_map.1 hm
    obtain ⟨j, hj, e1, e2⟩ := h.sub p hp
    have := K.linj hj hi (e1.symm.trans e)
    subst this
    rw [e2]
    simp
  · intro hv
    cases hc : val i with
    | none => exact absurd hc hv
    | some v => exact List.mem_map.2 ⟨_, h.all i hi v hc, rfl⟩
/-- How many keys there are. -/
def cntF (val : Nat → Option Value) (N : Nat) : Nat := ((List.range N).filter fun i => (val i).isSome).length
theorem Fm.len (K : Ks P k N kv kl) {val : Nat → Option Value} {m : List (Lit × Value)} (h : Fm kl N val m) (hn : (m.map (·.1)).Nodup) : m.length = cntF val N := by
  have h1 : (((List.range N).filter fun i => (val i).isSome).map kl).Nodup := by
    have hr : ((List.range N).filter fun i => (val i).isSome).Nodup := List.nodup_range.sublist List.filter_sublist
    refine List.pairwise_map.2 (hr.imp_of_mem ?_)
    intro a b ha hb hne e
    simp only [List.mem_filter, List.mem_range] at ha hb
    exact hne (K.linj ha.1 hb.1 e)
  have h2 := nodup_all hn h1 (fun x hx => by
    obtain ⟨p, hp, rfl⟩ := List.mem_map.1 hx
    obtain ⟨i, hi, e1, e2⟩ := h.sub p hp
    exact List.mem_map.2 ⟨i, by simp [hi, e2], e1.symm⟩) (fun x hx => by
    obtain ⟨i, hi, rfl⟩ := List.mem_map.1 hx
    simp only [List.mem_filter, List.mem_range] at hi
    rw [h.keys K hi.1]
    intro e
    rw [e] at hi
    simp at hi)
  have h3 := h2.length_eq
  rw [List.length_map, List.length_map] at h3
  exact h3
/-- Block b is a map that is this function. -/
def IsF (P : Program) (k : TypeId) (N : Nat) (kl : Nat → Lit) (w : World) (b : Nat) (val : Nat → Option Value) : Prop := ∃ m, IsM P k w b m ∧ Fm kl N val m
variable {w w1 : World} {b r : Nat} {val : Nat → Option Value}
theorem IsF.lt (h : IsF P k N kl w b val) : b < w.heap.size := by obtain ⟨m, h1, _⟩ := h; exact h1.lt
theorem IsF.keeps {S : Nat → Prop} (h : IsF P k N kl w b val) (hk : Keeps S w w1) (hn : ¬ S b) : IsF P k N kl w1 b val := by obtain ⟨m, h1, h2⟩ := h; exact ⟨m, h1.keeps hk hn, h2⟩
theorem IsF.congr {val' : Nat → Option Value} (h : IsF P k N kl w b val) (e : ∀ i, i < N → val i = val' i) : IsF P k N kl w b val' := by
  obtain ⟨m, h1, h2⟩ := h
  refine ⟨m, h1, fun p hp => ?_, fun i hi v hv => h2.all i hi v (by rw [e i hi]; exact hv)⟩
  obtain ⟨i, hi, e1, e2⟩ := h2.sub p hp
  exact ⟨i, hi, e1, by rw [← e i hi]; exact e2⟩
theorem IsF.ne_blk {g : Nat} {t : TypeId} {cs : Array Value} (h : IsF P k N kl w b val) (hb : Blk w g t cs) : g ≠ b := by obtain ⟨m, h1, _⟩ := h; exact h1.ne_blk hb
theorem IsF.new (P : Program) (k : TypeId) (N : Nat) (kl : Nat → Lit) (w : World) : IsF P k N kl (w.alloc (.map #[] 0)) w.heap.size (fun _ => none) :=
  ⟨[], IsM.new P k w, ⟨fun p h => (by cases h), fun i _ v h => (by cases h)⟩⟩
theorem IsF.m_le (K : Ks P k N kv kl) {m : List (Lit × Value)} (h : IsM P k w b m) (hf : Fm kl N val m) : m.length ≤ N := by
  rw [hf.len K h.nd, cntF]
  have := List.length_filter_le (fun i => (val i).isSome) (List.range N)
  rw [List.length_range] at this
  exact this
theorem IsF.look (K : Ks P k N kv kl) {e t : TypeId} (h : IsF P k N kl w b val) (ht : P.underlying t = some (.map k e)) {z : Value} (hz : (zeroValue e).run P w = .ok z w) {i : Nat} (hi : i < N) :
    (∀ v, val i = some v → (Instr.lookup t (.map (some b)) (kv i) false).run P w = .ok v w ∧ (Instr.lookup t (.map (some b)) (kv i) true).run P w = .ok (.tuple #[v, .bool true]) w) ∧
    (val i = none → (Instr.lookup t (.map (some b)) (kv i) false).run P w = .ok z w ∧ (Instr.lookup t (.map (some b)) (kv i) true).run P w = .ok (.tuple #[z, .bool false]) w) := by
  obtain ⟨m, h1, h2⟩ := h
  obtain ⟨l1, l2⟩ := h1.look w K.keyed ht hz (K.ok i hi)
  exact ⟨fun v hv => l1 v (h2.all i hi v hv), fun hv => l2 (fun hm => (h2.keys K hi).1 hm hv)⟩
theorem IsF.len_run (K : Ks P k N kv kl) {e t : TypeId} {n : Nat} (h : IsF P k N kl w b val) (ht : P.underlying t = some (.map k e)) (hn : cntF val N = n) (ty : TypeId) : (Builtin.len_ #[t] ty #[.map (some b)]).run P w = .ok (.int .i64 (n : Int)) w := by
  obtain ⟨m, h1, h2⟩ := h
  exact h1.len_run w ht (by rw [h2.len K h1.nd, hn]) ty
theorem IsF.entry (K : Ks P k N kv kl) (L : WideMaps.KeyLaw P k) {e t : TypeId} (h : IsF P k N kl w b val) (ht : P.underlying t = some (.map k e)) {z : Value} (hz : ∀ u : World, (zeroValue e).run P u = .ok z u) {i : Nat} (hi : i < N) (hN : N ≤ 1000000) :
    ∃ v0 st w1, (Instr.mapEntry t (.map (some b)) (kv i)).run P w = .ok (.tuple #[v0, goInt st]) w1 ∧ Keeps (· = b) w w1 ∧
      (∀ c, (Instr.lookup t (.map (some b)) (kv i) false).run P w = .ok c w → (Instr.lookup t (.map (some b)) (kv i) false).run P w1 = .ok c w1) ∧
      ∀ (w2 : World) (v : Value), w2.heap[b]? = w1.heap[b]? → ∃ w3, (Instr.entryStore t (.map (some b)) (goInt st) v).run P w2 = .ok () w3 ∧ IsF P k N kl w3 b (putF val i v) ∧ Keeps (· = b) w2 w3 := by
  obtain ⟨m, h1, h2⟩ := h
  obtain ⟨v0, st, w1, r1, r2, r3, r4⟩ := Cm.IsM.entry h1 L ht hz (K.ok i hi) (by have := IsF.m_le K h1 h2; omega)
  refine ⟨v0, st, w1, r1, r2, r3, fun w2 v hw2 => ?_⟩
  obtain ⟨w3, s1, s2, s3⟩ := r4 w2 v hw2
  exact ⟨w3, s1, ⟨_, s2, h2.put K hi v⟩, s3⟩
/-- A range over it is under way: these keys have come. -/
def RgF (P : Program) (k : TypeId) (N : Nat) (kl : Nat → Lit) (w : World) (b r : Nat) (val : Nat → Option Value) (seen : List Nat) (cnt : Nat) : Prop :=
  ∃ m met, Rgs P k w b r m met cnt ∧ Fm kl N val m ∧ (∀ i ∈ seen, i < N ∧ val i ≠ none) ∧ ∀ i, i < N → (kl i ∈ met.map (·.1) ↔ i ∈ seen)
variable {seen : List Nat} {cnt : Nat}
theorem RgF.isF (h : RgF P k N kl w b r val seen cnt) : IsF P k N kl w b val := by obtain ⟨m, met, h1, h2, _⟩ := h; exact ⟨m, h1.isM, h2⟩
theorem RgF.left_eq (h : RgF P k N kl w b r val seen cnt) : w.rangeLeft b r = cnt := by obtain ⟨m, met, h1, _⟩ := h; exact h1.left_eq
theorem RgF.lt (h : RgF P k N kl w b r val seen cnt) : r < w.heap.size := by obtain ⟨m, met, h1, _⟩ := h; exact h1.lt
theorem RgF.keeps {S : Nat → Prop} (h : RgF P k N kl w b r val seen cnt) (hk : Keeps S w w1) (hb : ¬ S b) (hr : ¬ S r) : RgF P k N kl w1 b r val seen cnt := by
  obtain ⟨m, met, h1, h2⟩ := h; exact ⟨m, met, h1.keeps hk hb hr, h2⟩
theorem RgF.ne_blk {g : Nat} {t : TypeId} {cs : Array Value} (h : RgF P k N kl w b r val seen cnt) (hb : Blk w g t cs) : g ≠ r := by obtain ⟨m, met, h1, _⟩ := h; exact h1.ne_blk hb
theorem RgF.seen_in (h : RgF P k N kl w b r val seen cnt) : ∀ i ∈ seen, i < N ∧ val i ≠ none := by obtain ⟨m, met, _, _, h3, _⟩ := h; exact h3
end

section
variable {P : Program} {k : TypeId} {N : Nat} {kv : Nat → Value} {kl : Nat → Lit} (w : World) {ops : Array Oper} {rest : List Oper} {o : Oper} {a : Act} {Q : Exit → Act → World → Prop}
theorem wpList_update_f (K : Ks P k N kv kl) (hg : o.guard = none) (x y v : Operand) (t : TypeId) (hop : o.op = Op.mapUpdate t x y v) (e : TypeId) (ht : P.underlying t = some (.map k e)) (b : Nat) (val : Nat → Option Value) (hm : a.eval x = .map (some b)) (h : IsF P k N kl w b val) (hN : N ≤ 1000000)
    (i : Nat) (hi : i < N) (u : Value) (hx : a.eval y = kv i) (hv : a.eval v = u) (hK : ∀ w', IsF P k N kl w' b (putF val i u) → Keeps (· = b) w w' → wpList P ops Q rest (a.put o.dst undef) w') :
    wpList P ops Q (o :: rest) a w := by
  obtain ⟨m, h1, h2⟩ := h
  exact wpList_update_m w hg x y v t hop k e K.keyed ht b m hm h1 (by have := IsF.m_le K h1 h2; omega) (kv i) u (kl i) hx hv (K.ok i hi) fun w' r1 r2 => hK w' ⟨_, r1, h2.put K hi u⟩ r2
theorem wpList_range_f (K : Ks P k N kv kl) (hg : o.guard = none) (x : Operand) (t : TypeId) (hop : o.op = Op.range t x) (e : TypeId) (ht : P.underlying t = some (.map k e)) (b : Nat) (val : Nat → Option Value)
    (hm : a.eval x = .map (some b)) (h : IsF P k N kl w b val) (hK : ∀ w' cnt, RgF P k N kl w' b w.heap.size val [] cnt → Keeps (fun _ => False) w w' → wpList P ops Q rest (a.put o.dst (.pointer (some ⟨w.heap.size, 0, none⟩))) w') : wpList P ops Q (o :: rest) a w := by
  obtain ⟨m, h1, h2⟩ := h
  exact wpList_range_m w hg x t hop k e K.keyed ht b m hm h1 fun w' r1 r2 => hK w' _ ⟨m, [], r1, h2, by simp, by simp⟩ r2
theorem wpList_next_f (K : Ks P k N kv kl) (hg : o.guard = none) (it : Operand) (hop : o.op = Op.next it false) (b r : Nat) (val : Nat → Option Value) (seen : List Nat) (cnt : Nat)
    (hit : a.eval it = .pointer (some ⟨r, 0, none⟩)) (h : RgF P k N kl w b r val seen cnt)
    (hDone : (∀ i, i < N → val i ≠ none → i ∈ seen) → wpList P ops Q rest (a.put o.dst (.tuple #[.bool false])) w)
    (hMore : ∀ (i : Nat) (v : Value) (w' : World) (cnt' : Nat), i < N → val i = some v → i ∉ seen → RgF P k N kl w' b r val (seen ++ [i]) cnt' → cnt' < cnt → Keeps (· = r) w w' →
      (Instr.entry (.pointer (some ⟨r, 0, none⟩))).run P w' = .ok (.tuple #[kv i, v]) w' → wpList P ops Q rest (a.put o.dst (.tuple #[.bool true, kv i, v])) w') :
    wpList P ops Q (o :: rest) a w := by
  obtain ⟨m, met, h1, h2, h3, h4⟩ := h
  refine wpList_next_m (α := Value) (β := Value) w hg it hop k K.keyed id id (fun key kl _ => ⟨key, rfl⟩) b r m met cnt (fun p _ => ⟨p.2, rfl⟩) hit h1 ?_ ?_
  · intro hp
    refine hDone fun i hi hv => (h4 i hi).1 ?_
    rw [(hp.map (·.1)).mem_iff]
    exact (h2.keys K hi).2 hv
  · intro x c l w' cnt' hkey hmem hnot hrg hlt hkp hen
    simp only [id] at hkey hmem hrg hen ⊢
    obtain ⟨i, hi, e1, e2⟩ := h2.sub _ hmem
    simp only at e1 e2
    subst e1
    have hxi := K.keyed.inj hkey (K.ok i hi)
    subst hxi
    have hns : i ∉ seen := fun hs => hnot ((h4 i hi).2 hs)
    refine hMore i c w' cnt' hi e2 hns ⟨m, _, hrg, h2, ?_, ?_⟩ hlt hkp hen
    · intro j hj
      rcases List.mem_append.1 hj with hj | hj
      · exact h3 j hj
      · rw [List.mem_singleton] at hj
        subst hj
        exact ⟨hi, by rw [e2]; simp⟩
    · intro j hj
      rw [List.map_append, List.mem_append, h4 j hj, List.mem_append]
      simp only [List.map_cons, List.map_nil, List.mem_singleton]
      constructor
      · rintro (h | h)
        · exact .inl h
        · exact .inr (K.linj hj hi h)
      · rintro (h | h)
        · exact .inl h
        · exact .inr (by rw [h])
end
end Go.Proofs.YtgaofnmgdefdcaaGreatDoor.Cm

/- cmp.Compare of whole numbers. -/
/- Maps as lists of their entries (key, value), the order left open: made, written, looked up, ranged over. No program is named here. -/
import Derived.Test.YtgaofnmgdefdcaaGreatDoorJHufRowHufEv
import Derived.Lib.Small
import Derived.Test.YtgaofnmgdefdcaaGreatDoorJGenBitPlain
import Derived.Maps.Own
import Derived.Maps.OwnOps
import Derived.Maps.OwnSet
import Derived.Maps.RangeWalk

namespace Go.Proofs.YtgaofnmgdefdcaaGreatDoor.Cm
open Go.RowKit Go.Proofs.YtgaofnmgdefdcaaGreatDoor.Gen

theorem nanI_ (x : Int) (w : World) : Calls Tryz.prog 120 #[.int .i64 x] w fun r w' => r = .returned (.bool false) ∧ w' = w := by
  go_enter Tryz.func120, Tryz.ntmps120
  go_wp2
  all_goals
    go_ret
    refine ⟨?_, rfl⟩
    simp
theorem cmpI_ (x y : Int) (w : World) : Calls Tryz.prog 103 #[.int .i64 x, .int .i64 y] w fun r w' => r = .returned (.int .i64 (Go.Lib.compareInt x y)) ∧ w' = w := by
  have H1 := Lib.hid (fun w => nanI_ x w)
  have H2 := Lib.hid (fun w => nanI_ y w)
  go_enter Tryz.func103, Tryz.ntmps103
  go_wp2_with (
    first
      | (refine (H1.out _).mono ?_; clear H1; rintro e w' ⟨rfl, rfl⟩)
      | (refine (H2.out _).mono ?_; rintro e w' ⟨rfl, rfl⟩))
  all_goals
    go_ret
    refine ⟨?_, rfl⟩
    unfold Go.Lib.compareInt
    try simp_all
    try (first | omega | (split <;> first | rfl | omega))
end Go.Proofs.YtgaofnmgdefdcaaGreatDoor.Cm

namespace Go.Proofs.YtgaofnmgdefdcaaGreatDoor.Mp
open Go.RowKit Go.Proofs.YtgaofnmgdefdcaaGreatDoor.Gen Go.Maps

/-- An element, as it is. -/
def Rv (v : Value) : Option (DataW Value × List MemPlace) := some (.held v, [])
theorem Rv_inv {v : Value} {d : DataW Value} {ps : List MemPlace} (h : Rv v = some (d, ps)) : d = .held v := by
  unfold Rv at h
  injection h with h
  injection h with h _
  exact h.symm

/-- A datum reads as these entries. -/
structure Reads (D : DataW Value) (m : List (Lit × Value)) : Prop where
  tidy : Tidy D
  nd : (m.map (·.1)).Nodup
  has : ∀ kl, Maps.has D kl = true ↔ kl ∈ m.map (·.1)
  at_ : ∀ p ∈ m, ∀ z, D.atKey p.1 z = .held p.2
  size : Maps.size D = m.length
theorem Reads.empty : Reads (.map []) [] := ⟨tidy_empty, by simp, by simp [Maps.has], by simp, rfl⟩
/-- Entries behind a store. -/
def upd (m : List (Lit × Value)) (kl : Lit) (v : Value) : List (Lit × Value) := m.filter (fun p => !p.1.sameKey kl) ++ [(kl, v)]
theorem same_iff {kl : Lit} (hk : WideAt.IsKeyLit kl) (a : Lit) : a.sameKey kl = true ↔ a = kl := ⟨WideAt.sameKey_eq, fun e => by subst e; exact WideAt.sameKey_self hk⟩
theorem mem_rest {m : List (Lit × Value)} {kl : Lit} (hk : WideAt.IsKeyLit kl) {p : Lit × Value} : p ∈ m.filter (fun p => !p.1.sameKey kl) ↔ p ∈ m ∧ p.1 ≠ kl := by
  rw [List.mem_filter, Bool.not_eq_true', ← Bool.not_eq_true, same_iff hk]
theorem filter_length {m : List (Lit × Value)} {kl : Lit} (hk : WideAt.IsKeyLit kl) (h : (m.map (·.1)).Nodup) : (kl ∈ m.map (·.1) → (m.filter (fun p => !p.1.sameKey kl)).length + 1 = m.length) ∧ (kl ∉ m.map (·.1) → (m.filter (fun p => !p.1.sameKey kl)).length = m.length) := by
  induction m with
  | nil => simp
  | cons p m ih =>
    simp only [List.map_cons, List.nodup_cons] at h
    have ih := ih h.2
    by_cases hp : p.1 = kl
    · have h1 : p.1.sameKey kl = true := (same_iff hk _).2 hp
      have h2 := ih.2 (hp ▸ h.1)
      rw [List.filter_cons, h1]
      simp only [Bool.not_true, Bool.false_eq_true, if_false, List.length_cons]
      exact ⟨fun _ => by omega, fun hn => absurd (by simp [hp]) hn⟩
    · have h1 : p.1.sameKey kl = false := by rw [← Bool.not_eq_true, same_iff hk]; exact hp
      rw [List.filter_cons, h1]
      simp only [Bool.not_false, if_true, List.length_cons, List.map_cons, List.mem_cons]
      refine ⟨fun hm => ?_, fun hm => ?_⟩
      · rcases hm with e | hm
        · exact absurd e.symm hp
        · have := ih.1 hm; omega
      · have := ih.2 (fun e => hm (.inr e)); omega
theorem upd_keys {m : List (Lit × Value)} {kl k : Lit} {v : Value} (hk : WideAt.IsKeyLit kl) : k ∈ (upd m kl v).map (·.1) ↔ k = kl ∨ k ∈ m.map (·.1) := by
  simp only [upd, List.map_append, List.mem_append, List.mem_map, mem_rest hk, List.map_cons, List.map_nil, List.mem_singleton]
  constructor
  · rintro (⟨p, ⟨h1, _⟩, rfl⟩ | rfl)
    · exact .inr ⟨p, h1, rfl⟩
    · exact .inl rfl
  · rintro (rfl | ⟨p, h1, rfl⟩)
    · exact .inr rfl
    · by_cases h : p.1 = kl
      · exact .inr h
      · exact .inl ⟨p, ⟨h1, h⟩, rfl⟩
theorem upd_nodup {m : List (Lit × Value)} {kl : Lit} {v : Value} (hk : WideAt.IsKeyLit kl) (h : (m.map (·.1)).Nodup) : ((upd m kl v).map (·.1)).Nodup := by
  unfold upd
  rw [List.map_append, List.nodup_append]
  refine ⟨h.sublist (List.filter_sublist.map _), by simp, ?_⟩
  intro a ha b hb
  simp only [List.map_cons, List.map_nil, List.mem_singleton] at hb
  subst hb
  rw [List.mem_map] at ha
  obtain ⟨p, h2, rfl⟩ := ha
  exact ((mem_rest hk).1 h2).2
theorem mem_upd {m : List (Lit × Value)} {kl : Lit} {v : Value} {p : Lit × Value} (hk : WideAt.IsKeyLit kl) : p ∈ upd m kl v ↔ (p ∈ m ∧ p.1 ≠ kl) ∨ p = (kl, v) := by
  simp only [upd, List.mem_append, mem_rest hk, List.mem_singleton]
theorem upd_new {m : List (Lit × Value)} {kl : Lit} {v : Value} (hk : WideAt.IsKeyLit kl) (h : kl ∉ m.map (·.1)) : upd m kl v = m ++ [(kl, v)] := by
  unfold upd
  congr 1
  rw [List.filter_eq_self]
  intro p hp
  rw [Bool.not_eq_true', ← Bool.not_eq_true, same_iff hk]
  exact fun e => h (e ▸ List.mem_map_of_mem hp)
theorem Reads.put {D : DataW Value} {m : List (Lit × Value)} (h : Reads D m) {kl : Lit} (hk : WideAt.IsKeyLit kl) (v : Value) : Reads (D.put kl (.held v)) (upd m kl v) := by
  refine ⟨h.tidy.put hk _, upd_nodup hk h.nd, fun k => ?_, fun p hp z => ?_, ?_⟩
  · rw [upd_keys hk]
    by_cases hkk : k = kl
    · subst hkk
      simp [has_put_same h.tidy.isMap hk]
    · rw [has_put_other hkk, h.has]
      simp [hkk]
  · rcases (mem_upd hk).1 hp with ⟨h1, h2⟩ | rfl
    · rw [atKey_put_other h2, h.at_ p h1]
    · exact atKey_put_same h.tidy.isMap hk _ _
  · rw [size_put h.tidy, h.size, upd, List.length_append, List.length_singleton]
    have hf := filter_length hk h.nd
    by_cases hm : kl ∈ m.map (·.1)
    · rw [if_pos ((h.has kl).2 hm)]; exact (hf.1 hm).symm
    · rw [if_neg (fun e => hm ((h.has kl).1 e)), hf.2 hm]
theorem nodup_sub {α : Type} : ∀ {met m : List α}, met.Nodup → (∀ x ∈ met, x ∈ m) → ∃ R, m.Perm (met ++ R)
  | [], m, _, _ => ⟨m, .refl _⟩
  | a :: met, m, h, hs => by
    rw [List.nodup_cons] at h
    obtain ⟨s, t, rfl⟩ := List.append_of_mem (hs a (by simp))
    obtain ⟨R, hR⟩ := nodup_sub (m := s ++ t) h.2 fun x hx => by
      have := hs x (by simp [hx])
      simp only [List.mem_append, List.mem_cons] at this ⊢
      rcases this with h1 | rfl | h1
      · exact .inl h1
      · exact absurd hx h.1
      · exact .inr h1
    exact ⟨R, List.perm_middle.trans (hR.cons a)⟩
theorem nodup_all {α : Type} {met m : List α} (h : met.Nodup) (hm : m.Nodup) (hs : ∀ x ∈ met, x ∈ m) (ha : ∀ x ∈ m, x ∈ met) : met.Perm m := by
  obtain ⟨R, hR⟩ := nodup_sub h hs
  cases R with
  | nil => simpa using hR.symm
  | cons x R =>
    have h1 := (hR.nodup_iff).1 hm
    rw [List.nodup_append] at h1
    have h2 := ha x (hR.symm.subset (by simp))
    exact absurd rfl (h1.2.2 x h2 x (by simp))
theorem nodup_of_map {α β : Type} {f : α → β} : ∀ {l : List α}, (l.map f).Nodup → l.Nodup
  | [], _ => .nil
  | a :: l, h => by
    simp only [List.map_cons, List.nodup_cons] at h
    exact List.nodup_cons.2 ⟨fun ha => h.1 (List.mem_map_of_mem ha), nodup_of_map h.2⟩
theorem key_inj {m : List (Lit × Value)} (h : (m.map (·.1)).Nodup) {p q : Lit × Value} (hp : p ∈ m) (hq : q ∈ m) (e : p.1 = q.1) : p = q := by
  induction m with
  | nil => cases hp
  | cons a m ih =>
    simp only [List.map_cons, List.nodup_cons] at h
    rcases List.mem_cons.1 hp with rfl | hp1 <;> rcases List.mem_cons.1 hq with rfl | hq1
    · rfl
    · exact absurd (e ▸ List.mem_map_of_mem hq1) h.1
    · exact absurd (e ▸ List.mem_map_of_mem hp1) h.1
    · exact ih h.2 hp1 hq1

section
variable {P : Program} {k : TypeId} {w w1 : World} {b r : Nat} {m met : List (Lit × Value)}
/-- Block b is a map of just these entries, each key once. -/
def IsM (P : Program) (k : TypeId) (w : World) (b : Nat) (m : List (Lit × Value)) : Prop := ∃ D, w.ownsMap P k Rv b m.length D ∧ Reads D m
theorem IsM.of {n : Nat} {D : DataW Value} (h : w.ownsMap P k Rv b n D) (hr : Reads D m) : IsM P k w b m := by
  refine ⟨D, ?_, hr⟩
  obtain ⟨es, clock, h1, h2, _, h4⟩ := h
  refine ⟨es, clock, h1, h2, ?_, h4⟩
  rw [← hr.size, h4, Maps.size_eq, length_read]
  exact Nat.le_refl _
theorem IsM.lt (h : IsM P k w b m) : b < w.heap.size := by obtain ⟨D, h1, _⟩ := h; exact h1.lt
theorem IsM.nd (h : IsM P k w b m) : (m.map (·.1)).Nodup := by obtain ⟨D, _, h3⟩ := h; exact h3.nd
theorem IsM.keeps {S : Nat → Prop} (h : IsM P k w b m) (hk : Keeps S w w1) (hn : ¬ S b) : IsM P k w1 b m := by
  have hb := h.lt
  obtain ⟨D, ⟨es, clock, h1, h2⟩, h3⟩ := h
  exact ⟨D, ⟨es, clock, (hk.block b hb hn).trans h1, h2⟩, h3⟩
theorem IsM.ne_blk {g : Nat} {t : TypeId} {cs : Array Value} (h : IsM P k w b m) (hb : Blk w g t cs) : g ≠ b := by
  rintro rfl
  obtain ⟨D, ⟨es, clock, h1, _⟩, _⟩ := h
  unfold Blk at hb
  rw [hb] at h1
  cases h1
theorem IsM.new (P : Program) (k : TypeId) (w : World) : IsM P k (w.alloc (.map #[] 0)) w.heap.size [] :=
  ⟨_, World.ownsMap_made w P k Rv, Reads.empty⟩
/-- A range over it is under way: these entries have come. -/
def Rgs (P : Program) (k : TypeId) (w : World) (b r : Nat) (m met : List (Lit × Value)) (cnt : Nat) : Prop :=
  ∃ n D left, w.ranges P k Rv b r n D left cnt ∧ Reads D m ∧ (met.map (·.1)).Nodup ∧ (∀ p ∈ met, p ∈ m) ∧ ∀ kl, left kl = true ↔ kl ∈ m.map (·.1) ∧ kl ∉ met.map (·.1)
theorem Rgs.isM {cnt : Nat} (h : Rgs P k w b r m met cnt) : IsM P k w b m := by
  obtain ⟨n, D, left, h1, h3, _⟩ := h
  exact IsM.of h1.owns h3
theorem Rgs.left_eq {cnt : Nat} (h : Rgs P k w b r m met cnt) : w.rangeLeft b r = cnt := by
  obtain ⟨n, D, left, h1, _⟩ := h
  exact h1.left_eq
theorem Rgs.lt {cnt : Nat} (h : Rgs P k w b r m met cnt) : r < w.heap.size := by
  obtain ⟨n, D, left, h1, _⟩ := h
  exact h1.lt
theorem Rgs.ne {cnt : Nat} (h : Rgs P k w b r m met cnt) : r ≠ b := by
  obtain ⟨n, D, left, h1, _⟩ := h
  exact h1.ne
theorem Rgs.keeps {S : Nat → Prop} {cnt : Nat} (h : Rgs P k w b r m met cnt) (hk : Keeps S w w1) (hb : ¬ S b) (hr : ¬ S r) : Rgs P k w1 b r m met cnt := by
  have hb' := h.isM.lt
  have hr' := h.lt
  obtain ⟨n, D, left, ⟨es, clock, since, seen, c0, h1, h2, h3, h4, h5, h6⟩, rest⟩ := h
  exact ⟨n, D, left, ⟨es, clock, since, seen, c0, (hk.block b hb' hb).trans h1, h2, h3, h4, (hk.block r hr' hr).trans h5, h6⟩, rest⟩
theorem Rgs.ne_blk {cnt g : Nat} {t : TypeId} {cs : Array Value} (h : Rgs P k w b r m met cnt) (hb : Blk w g t cs) : g ≠ r := by
  rintro rfl
  obtain ⟨n, D, left, ⟨es, clock, since, seen, c0, _, _, _, _, h5, _⟩, _⟩ := h
  unfold Blk at hb
  rw [hb] at h5
  cases h5
theorem Rgs.len {cnt : Nat} (h : Rgs P k w b r m met cnt) : met.length ≤ m.length := by
  obtain ⟨n, D, left, _, _, h4, h5, _⟩ := h
  obtain ⟨R, hR⟩ := nodup_sub (nodup_of_map h4) h5
  have := hR.length_eq
  rw [List.length_append] at this
  omega
end

section
variable {P : Program} (w : World) {ops : Array Oper} {rest : List Oper} {o : Oper} {a : Act} {Q : Exit → Act → World → Prop}

theorem wpList_len_m (hg : o.guard = none) (x : Operand) (t : TypeId) (hop : o.op = Op.call { callee := Callee.builtin Builtin.len, args := #[x], argTypes := #[t] }) (k e : TypeId) (ht : P.underlying t = some (.map k e)) (b n : Nat) (m : List (Lit × Value))
    (hm : a.eval x = .map (some b)) (h : IsM P k w b m) (hn : m.length = n) (hK : wpList P ops Q rest (a.put o.dst (.int .i64 (n : Int))) w) : wpList P ops Q (o :: rest) a w := by
  obtain ⟨D, h1, h3⟩ := h
  refine wpList_len_own w hg x t hop k e ht Rv b _ D hm h1 ?_
  rw [h3.size, hn]
  exact hK
theorem wpList_range_m (hg : o.guard = none) (x : Operand) (t : TypeId) (hop : o.op = Op.range t x) (k e : TypeId) (K : Keyed P k) (ht : P.underlying t = some (.map k e)) (b : Nat) (m : List (Lit × Value))
    (hm : a.eval x = .map (some b)) (h : IsM P k w b m) (hK : ∀ w', Rgs P k w' b w.heap.size m [] m.length → Keeps (fun _ => False) w w' → wpList P ops Q rest (a.put o.dst (.pointer (some ⟨w.heap.size, 0, none⟩))) w') : wpList P ops Q (o :: rest) a w := by
  obtain ⟨D, h1, h3⟩ := h
  refine wpList_range_own w hg x t hop k e K ht Rv b _ D hm h1 fun w' r1 r2 _ => hK w' ⟨_, D, _, by rw [← h3.size]; exact r1, h3, by simp, by simp, fun kl => ?_⟩ (Keeps.grown (Keeps.refl _ _) r2 (fun _ h => by cases h))
  rw [h3.has]
  simp
theorem wpList_next_m {α β : Type} (hg : o.guard = none) (it : Operand) (hop : o.op = Op.next it false) (k : TypeId) (K : Keyed P k) (mkK : α → Value) (mkV : β → Value) (invK : ∀ key kl, keyOf P k key = some kl → ∃ x, key = mkK x)
    (b r : Nat) (m met : List (Lit × Value)) (cnt : Nat) (invV : ∀ p ∈ m, ∃ c, p.2 = mkV c)
    (hit : a.eval it = .pointer (some ⟨r, 0, none⟩)) (h : Rgs P k w b r m met cnt)
    (hDone : met.Perm m → wpList P ops Q rest (a.put o.dst (.tuple #[.bool false])) w)
    (hMore : ∀ (x : α) (c : β) (kl : Lit) (w' : World) (cnt' : Nat), keyOf P k (mkK x) = some kl → (kl, mkV c) ∈ m → kl ∉ met.map (·.1) → Rgs P k w' b r m (met ++ [(kl, mkV c)]) cnt' → cnt' < cnt → Keeps (· = r) w w' →
      (Instr.entry (.pointer (some ⟨r, 0, none⟩))).run P w' = .ok (.tuple #[mkK x, mkV c]) w' → wpList P ops Q rest (a.put o.dst (.tuple #[.bool true, mkK x, mkV c])) w') :
    wpList P ops Q (o :: rest) a w := by
  obtain ⟨n, D, left, h1, h3, h4, h5, h6⟩ := h
  refine wpList_plain hg fun K' hK' => ?_
  unfold Oper.wp
  rcases h1.next K o.type with ⟨h0, hl, hrun⟩ | ⟨key, v, kl, y, w', cnt', hkey, hlk, hv, hat, hrun, hrg, hlt, hgr, hsz, hen⟩
  · simp [execOp, hop, hit, hrun, Result.andThen]
    refine hK' _ _ (hDone (nodup_all (nodup_of_map h4) (nodup_of_map h3.nd) h5 fun p hp => ?_))
    have h7 := (h6 p.1)
    rw [hl p.1] at h7
    have h8 : p.1 ∈ met.map (·.1) := Classical.byContradiction fun hn => absurd (h7.2 ⟨List.mem_map_of_mem hp, hn⟩) (by simp)
    rw [List.mem_map] at h8
    obtain ⟨q, hq, e⟩ := h8
    rw [key_inj h3.nd hp (h5 q hq) e.symm]
    exact hq
  · have h7 := (h6 kl).1 hlk
    have h8 := h7.1
    rw [List.mem_map] at h8
    obtain ⟨p, hp, rfl⟩ := h8
    have h9 := hat (.held undef)
    rw [h3.at_ p hp] at h9
    obtain ⟨yd, yp⟩ := y
    have h10 := Rv_inv hv
    simp only at h9
    rw [h10] at h9
    injection h9 with h9
    obtain ⟨c, hc⟩ := invV p hp
    obtain ⟨x, rfl⟩ := invK key p.1 hkey
    rw [← h9, hc] at hrun hen
    simp [execOp, hop, hit, hrun, Result.andThen]
    have hpm : (p.1, mkV c) ∈ m := by rw [← hc]; exact hp
    refine hK' _ _ (hMore x c p.1 w' cnt' hkey hpm h7.2 ⟨n, D, _, hrg, h3, ?_, ?_, fun kl => ?_⟩ hlt ?_ hen)
    · rw [List.map_append, List.nodup_append]
      refine ⟨h4, by simp, fun a ha b hb => ?_⟩
      simp only [List.map_cons, List.map_nil, List.mem_singleton] at hb
      subst hb
      exact fun e => h7.2 (e ▸ ha)
    · intro q hq
      rcases List.mem_append.1 hq with hq | hq
      · exact h5 q hq
      · rw [List.mem_singleton] at hq
        rw [hq]
        exact hpm
    · have hk := K.key hkey
      simp only [Bool.and_eq_true, Bool.not_eq_true', List.map_append, List.mem_append, List.map_cons, List.map_nil, List.mem_singleton, not_or]
      rw [h6 kl, ← Bool.not_eq_true, same_iff hk]
      exact ⟨fun ⟨⟨x, y⟩, z⟩ => ⟨x, y, z⟩, fun ⟨x, y, z⟩ => ⟨⟨x, y⟩, z⟩⟩
    · exact Keeps.grown (Keeps.refl _ _) hgr (fun j hj => .inl (by injection hj with hj; exact hj.symm))
/-- A look-up of a key that is there; of one that isn't. -/
theorem IsM.look {k e t : TypeId} {b : Nat} {m : List (Lit × Value)} (h : IsM P k w b m) (K : Keyed P k) (ht : P.underlying t = some (.map k e)) {z : Value} (hz : (zeroValue e).run P w = .ok z w) {key : Value} {kl : Lit} (hkey : keyOf P k key = some kl) :
    (∀ v, (kl, v) ∈ m → (Instr.lookup t (.map (some b)) key false).run P w = .ok v w ∧ (Instr.lookup t (.map (some b)) key true).run P w = .ok (.tuple #[v, .bool true]) w) ∧
    (kl ∉ m.map (·.1) → (Instr.lookup t (.map (some b)) key false).run P w = .ok z w ∧ (Instr.lookup t (.map (some b)) key true).run P w = .ok (.tuple #[z, .bool false]) w) := by
  obtain ⟨D, h1, h3⟩ := h
  obtain ⟨v1, p1, r1, e1⟩ := h1.lookup K ht hz (zd := .held z) (zp := []) rfl hkey
  obtain ⟨v2, p2, r2, e2⟩ := h1.look_ok K ht hz (zd := .held z) (zp := []) rfl hkey
  have e1 := Rv_inv e1
  have e2 := Rv_inv e2
  refine ⟨fun v hv => ?_, fun hn => ?_⟩
  · rw [h3.at_ _ hv] at e1 e2
    injection e1 with e1
    injection e2 with e2
    subst e1
    subst e2
    refine ⟨r1, ?_⟩
    rw [r2, (h3.has kl).2 (List.mem_map_of_mem hv)]
  · have hf : Maps.has D kl = false := by
      rw [← Bool.not_eq_true, h3.has]
      exact hn
    rw [atKey_of_not_has hf] at e1 e2
    injection e1 with e1
    injection e2 with e2
    subst e1
    subst e2
    refine ⟨r1, ?_⟩
    rw [r2, hf]
theorem wpList_update_m (hg : o.guard = none) (x y v : Operand) (t : TypeId) (hop : o.op = Op.mapUpdate t x y v) (k e : TypeId) (K : Keyed P k) (ht : P.underlying t = some (.map k e)) (b : Nat) (m : List (Lit × Value)) (hm : a.eval x = .map (some b)) (h : IsM P k w b m) (hl : m.length ≤ 1000000)
    (key val : Value) (kl : Lit) (hx : a.eval y = key) (hv : a.eval v = val) (hkey : keyOf P k key = some kl) (hK : ∀ w', IsM P k w' b (upd m kl val) → Keeps (· = b) w w' → wpList P ops Q rest (a.put o.dst undef) w') :
    wpList P ops Q (o :: rest) a w := by
  obtain ⟨D, h1, h3⟩ := h
  refine wpList_mapUpdate_own w hg x y v t hop k e K ht Rv b _ D hm h1 (by simp only [maxLen]; omega) key val kl hx hv hkey (.held val) [] rfl fun w' r1 r2 => ?_
  exact hK w' (IsM.of r1 (h3.put (K.key hkey) val)) (Keeps.grown (Keeps.refl _ _) r2 (fun j hj => .inl (by injection hj with hj; exact hj.symm)))
theorem IsM.len_run {k e t : TypeId} {b n : Nat} {m : List (Lit × Value)} (h : IsM P k w b m) (ht : P.underlying t = some (.map k e)) (hn : m.length = n) (ty : TypeId) : (Builtin.len_ #[t] ty #[.map (some b)]).run P w = .ok (.int .i64 (n : Int)) w := by
  obtain ⟨D, h1, h3⟩ := h
  rw [h1.len ht ty, h3.size, hn]
theorem wpList_insert_m (hg : o.guard = none) (x y v : Operand) (t : TypeId) (hop : o.op = Op.insert t x y v) (k e : TypeId) (K : Keyed P k) (ht : P.underlying t = some (.map k e)) (b : Nat) (m : List (Lit × Value)) (hm : a.eval x = .map (some b)) (h : IsM P k w b m) (hl : m.length ≤ 1000000)
    (key val : Value) (kl : Lit) (hx : a.eval y = key) (hv : a.eval v = val) (hkey : keyOf P k key = some kl) (hK : ∀ w', IsM P k w' b (upd m kl val) → Keeps (· = b) w w' → wpList P ops Q rest (a.put o.dst undef) w') :
    wpList P ops Q (o :: rest) a w := by
  obtain ⟨D, h1, h3⟩ := h
  refine wpList_plain hg fun K' hK' => ?_
  obtain ⟨w', hrun, r1, r2⟩ := h1.update K ht (by simp only [maxLen]; omega) hkey (d := .held val) (ps := []) (val := val) rfl
  unfold Oper.wp
  simp [execOp, hop, hm, hx, hv, hrun, Result.andThen]
  exact hK' _ _ (hK w' (IsM.of r1 (h3.put (K.key hkey) val)) (Keeps.grown (Keeps.refl _ _) r2 (fun j hj => .inl (by injection hj with hj; exact hj.symm))))
end
end Go.Proofs.YtgaofnmgdefdcaaGreatDoor.Mp

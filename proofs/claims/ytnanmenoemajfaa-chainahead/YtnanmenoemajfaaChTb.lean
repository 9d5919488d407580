/- The tables of bytes by the ones ahead; their bytes, there and back; then all of it: plain data. -/
import Derived.Test.YtnanmenoemajfaaChPl
namespace Go.Proofs.Ytnanmenoemajfaa.Ch
open Go.Proofs.Ytnanmenoemajfaa.Gen Go.Proofs.Ytnanmenoemajfaa.Wr Go.Proofs.Ytnanmenoemajfaa.Ww Go.Proofs.Ytnanmenoemajfaa.It Go.Proofs.Ytnanmenoemajfaa.Ir Go.Proofs.Ytnanmenoemajfaa.Ib Go.Proofs.Ytnanmenoemajfaa.Fq Go.Proofs.Ytnanmenoemajfaa.Fb Go.Proofs.Ytnanmenoemajfaa.Rp

/-! ### pairs, counted -/
/-- The number of a pair: what is ahead, and what is behind it. -/
def ky (n : Nat) (b : List Int) (t : Nat) : Nat := 256 * (cx n b t).toNat + (b.getD (pos n t) 0).toNat
/-- The pairs of a quarter's first d places; of the first i quarters. -/
def pq (n : Nat) (b : List Int) (i : Nat) : Nat → List Nat
  | 0 => []
  | d + 1 => pq n b i d ++ [ky n b (4 * d + i)]
def pa (n : Nat) (b : List Int) : Nat → List Nat
  | 0 => []
  | i + 1 => pa n b i ++ pq n b i (ql n i)
theorem pq_len (n : Nat) (b : List Int) (i : Nat) : ∀ d, (pq n b i d).length = d
  | 0 => rfl
  | d + 1 => by rw [pq, List.length_append, pq_len n b i d]; rfl
theorem pa_len (n : Nat) (b : List Int) : ∀ {i : Nat}, i ≤ 4 → (pa n b i).length = qo n i
  | 0, _ => by simp [pa, qo]
  | i + 1, h => by rw [pa, List.length_append, pa_len n b (i := i) (by omega), pq_len, qo_next n (by omega)]
theorem mem_pq {n : Nat} {b : List Int} {i x : Nat} : ∀ {d : Nat}, x ∈ pq n b i d ↔ ∃ j, j < d ∧ x = ky n b (4 * j + i)
  | 0 => by simp [pq]
  | d + 1 => by
    rw [pq, List.mem_append, mem_pq (d := d), List.mem_singleton]
    constructor
    · rintro (⟨j, h1, h2⟩ | rfl)
      · exact ⟨j, by omega, h2⟩
      · exact ⟨d, by omega, rfl⟩
    · rintro ⟨j, h1, h2⟩
      by_cases e : j = d
      · subst e; exact .inr h2
      · exact .inl ⟨j, by omega, h2⟩
theorem mem_pa {n : Nat} {b : List Int} {x : Nat} : ∀ {i : Nat}, i ≤ 4 → (x ∈ pa n b i ↔ ∃ q j, q < i ∧ j < ql n q ∧ x = ky n b (4 * j + q))
  | 0, _ => by simp [pa]
  | i + 1, h => by
    rw [pa, List.mem_append, mem_pa (i := i) (by omega), mem_pq]
    constructor
    · rintro (⟨q, j, h1, h2, h3⟩ | ⟨j, h2, h3⟩)
      · exact ⟨q, j, by omega, h2, h3⟩
      · exact ⟨i, j, by omega, h2, h3⟩
    · rintro ⟨q, j, h1, h2, h3⟩
      by_cases e : q = i
      · subst e; exact .inr ⟨j, h2, h3⟩
      · exact .inl ⟨q, j, by omega, h2, h3⟩
theorem mem_all {n : Nat} {b : List Int} {x : Nat} : x ∈ pa n b 4 ↔ ∃ t, Val n t ∧ x = ky n b t := by
  rw [mem_pa (Nat.le_refl _)]
  constructor
  · rintro ⟨q, j, h1, h2, h3⟩
    exact ⟨_, (val_at h1).2 h2, h3⟩
  · rintro ⟨t, h1, h2⟩
    exact ⟨t % 4, t / 4, by omega, h1, by rw [h2, step_eq]⟩
theorem byte_at_ {b : List Int} (hb : ∀ x ∈ b, 0 ≤ x ∧ x < 256) (p : Nat) : 0 ≤ b.getD p 0 ∧ b.getD p 0 < 256 := by
  by_cases h : p < b.length
  · exact hb _ (getD_mem h)
  · rw [List.getD, List.getElem?_eq_none (by omega)]; simp
theorem ky_lt {n : Nat} {b : List Int} (hb : ∀ x ∈ b, 0 ≤ x ∧ x < 256) (t : Nat) : ky n b t < 65536 := by
  have h1 := cx_byte (n := n) (t := t) hb
  have h2 := byte_at_ hb (pos n t)
  unfold ky
  omega
theorem pa_lt {n : Nat} {b : List Int} (hb : ∀ x ∈ b, 0 ≤ x ∧ x < 256) : ∀ x ∈ pa n b 4, x < 65536 := by
  intro x hx
  obtain ⟨t, _, rfl⟩ := mem_all.1 hx
  exact ky_lt hb t
/-- How often each byte comes behind this one, by the pairs. -/
def rowOf (L : List Nat) (a : Nat) : List Int := (List.range 256).map fun c => ((L.count (256 * a + c) : Nat) : Int)
theorem rowOf_len (L : List Nat) (a : Nat) : (rowOf L a).length = 256 := by simp [rowOf]
theorem rowOf_get {L : List Nat} {a c : Nat} (h : c < 256) : (rowOf L a).getD c 0 = ((L.count (256 * a + c) : Nat) : Int) := by
  simp [rowOf, List.getD, List.getElem?_map, List.getElem?_range h]
theorem rowOf_in {L : List Nat} (hl : L.length ≤ 1000000) (a : Nat) : InR (rowOf L a) := by
  intro x hx
  simp only [rowOf, List.mem_map] at hx
  obtain ⟨c, _, rfl⟩ := hx
  have := List.count_le_length (a := 256 * a + c) (l := L)
  omega
theorem rowOf_sum {L : List Nat} (hl : L.length ≤ 1000000) {a c : Nat} (hc : c < 256) (h : 256 * a + c ∈ L) : (rowOf L a).sum ≠ 0 ∧ 0 < (rowOf L a).getD c 0 := by
  have h1 := List.count_pos_iff.2 h
  have h2 := InR.mem_le (rowOf_in hl a) _ (getD_mem (l := rowOf L a) (d := c) (by rw [rowOf_len]; exact hc))
  rw [rowOf_get hc] at h2 ⊢
  omega
theorem sum_pos : ∀ {l : List Int}, (∀ x ∈ l, 0 ≤ x) → l.sum ≠ 0 → ∃ i, i < l.length ∧ 0 < l.getD i 0
  | [], _, h => by simp at h
  | x :: l, h0, h => by
    by_cases hx : 0 < x
    · exact ⟨0, by simp, by simpa using hx⟩
    · have h1 := h0 x (by simp)
      have h2 : l.sum ≠ 0 := by rw [List.sum_cons] at h; omega
      obtain ⟨i, hi, hp⟩ := sum_pos (fun y hy => h0 y (by simp [hy])) h2
      exact ⟨i + 1, by simp; omega, by simpa using hp⟩
theorem rowOf_hit {L : List Nat} {a : Nat} (h : (rowOf L a).sum ≠ 0) : ∃ c, c < 256 ∧ 256 * a + c ∈ L := by
  obtain ⟨c, h1, h2⟩ := sum_pos (l := rowOf L a) (fun x hx => by
    simp only [rowOf, List.mem_map] at hx
    obtain ⟨c, _, rfl⟩ := hx
    omega) h
  rw [rowOf_len] at h1
  rw [rowOf_get h1] at h2
  exact ⟨c, h1, List.count_pos_iff.1 (by omega)⟩
/-- The tables of pairs; of bytes. -/
def tabL (L : List Nat) (a : Nat) : Option (List Int) := if 256 ≤ a ∨ (rowOf L a).sum = 0 then none else some (scal (rowOf L a))
def tabs (b : List Int) : Nat → Option (List Int) := tabL (pa b.length b 4)
theorem tabL_tb {L : List Nat} (hl : L.length ≤ 1000000) : ∀ a l, tabL L a = some l → Tb l := by
  intro a l h
  unfold tabL at h
  split at h
  · cases h
  · injection h with h
    subst h
    obtain ⟨h1, h2, h3⟩ := scal_ok (rowOf_len L a) (rowOf_in hl a)
    exact ⟨h1, h2, h3⟩
theorem tabL_none {L : List Nat} {a : Nat} (h : 256 ≤ a) : tabL L a = none := by rw [tabL, if_pos (.inl h)]
theorem tabL_hit {L : List Nat} (hl : L.length ≤ 1000000) {a c : Nat} (ha : a < 256) (hc : c < 256) (h : 256 * a + c ∈ L) : tabL L a = some (scal (rowOf L a)) ∧ 0 < (scal (rowOf L a)).getD c 0 := by
  obtain ⟨h1, h2⟩ := rowOf_sum hl hc h
  refine ⟨by rw [tabL, if_neg (by omega)], scal_pos (rowOf_len L a) (rowOf_in hl a) hc h2⟩
theorem tabs_step {n : Nat} {b : List Int} (hn : b.length = n) (hl : n ≤ 1000000) (hb : ∀ x ∈ b, 0 ≤ x ∧ x < 256) {t : Nat} (hv : Val n t) : ∃ l, tabs b (cx n b t).toNat = some l ∧ Tb l ∧ Rp.Has l (b.getD (pos n t) 0) := by
  have h1 := cx_byte (n := n) (t := t) hb
  have h2 := byte_at_ hb (pos n t)
  have hpl : (pa b.length b 4).length ≤ 1000000 := by rw [pa_len _ _ (Nat.le_refl _), hn]; simp [qo]; omega
  have hm : 256 * (cx n b t).toNat + (b.getD (pos n t) 0).toNat ∈ pa b.length b 4 := by rw [hn]; exact mem_all.2 ⟨t, hv, rfl⟩
  obtain ⟨g1, g2⟩ := tabL_hit hpl (a := (cx n b t).toNat) (c := (b.getD (pos n t) 0).toNat) (by omega) (by omega) hm
  exact ⟨_, g1, tabL_tb hpl _ _ g1, h2.1, h2.2, g2⟩
theorem tabs_good {n : Nat} {b : List Int} (hn : b.length = n) (hl : n ≤ 1000000) (hb : ∀ x ∈ b, 0 ≤ x ∧ x < 256) : Good (tt (tabs b)) n b ∧ Full (tabs b) n b := by
  refine ⟨fun t hv => ?_, fun t hv => ?_⟩
  · obtain ⟨l, h1, h2, h3⟩ := tabs_step hn hl hb hv
    rw [tt, h1]
    exact ⟨h2, h3⟩
  · obtain ⟨l, h1, _, _⟩ := tabs_step hn hl hb hv
    exact ⟨l, h1⟩

/-! ### the tables' bytes -/
def tbB (tb : Nat → Option (List Int)) : Nat → List Int
  | 0 => []
  | d + 1 => tbB tb d ++ (match tb d with | none => [] | some l => (d : Int) :: tabB l)
def tbN (tb : Nat → Option (List Int)) : Nat → Nat
  | 0 => 0
  | d + 1 => tbN tb d + (match tb d with | none => 0 | some _ => 1)
theorem tbB_none {tb : Nat → Option (List Int)} {d : Nat} (h : tb d = none) : tbB tb (d + 1) = tbB tb d ∧ tbN tb (d + 1) = tbN tb d := by simp [tbB, tbN, h]
theorem tbB_some {tb : Nat → Option (List Int)} {d : Nat} {l : List Int} (h : tb d = some l) : tbB tb (d + 1) = tbB tb d ++ (d : Int) :: tabB l ∧ tbN tb (d + 1) = tbN tb d + 1 := by simp [tbB, tbN, h]
theorem tbB_skip {tb : Nat → Option (List Int)} {d : Nat} : ∀ {e : Nat}, d ≤ e → (∀ a, d ≤ a → a < e → tb a = none) → tbB tb e = tbB tb d ∧ tbN tb e = tbN tb d
  | 0, h, _ => by obtain rfl : d = 0 := by omega
                  exact ⟨rfl, rfl⟩
  | e + 1, h, hn => by
    by_cases he : d = e + 1
    · subst he; exact ⟨rfl, rfl⟩
    · obtain ⟨h1, h2⟩ := tbB_skip (d := d) (e := e) (by omega) fun a h1 h2 => hn a h1 (by omega)
      obtain ⟨g1, g2⟩ := tbB_none (hn e (by omega) (by omega))
      exact ⟨g1.trans h1, g2.trans h2⟩
theorem tbB_congr {tb tb' : Nat → Option (List Int)} : ∀ {d : Nat}, (∀ a, a < d → tb a = tb' a) → tbB tb d = tbB tb' d ∧ tbN tb d = tbN tb' d
  | 0, _ => ⟨rfl, rfl⟩
  | d + 1, h => by
    obtain ⟨h1, h2⟩ := tbB_congr (d := d) fun a ha => h a (by omega)
    simp only [tbB, tbN, h1, h2, h d (by omega), and_self]
theorem tbN_le (tb : Nat → Option (List Int)) : ∀ d, tbN tb d ≤ d
  | 0 => Nat.le_refl _
  | d + 1 => by
    have := tbN_le tb d
    unfold tbN
    split <;> omega
theorem tbN_mono (tb : Nat → Option (List Int)) {d : Nat} : ∀ {e : Nat}, d ≤ e → tbN tb d ≤ tbN tb e
  | 0, h => by obtain rfl : d = 0 := by omega
               exact Nat.le_refl _
  | e + 1, h => by
    by_cases he : d = e + 1
    · subst he; exact Nat.le_refl _
    · have h1 := tbN_mono tb (d := d) (e := e) (by omega)
      rw [tbN]
      omega
theorem tbB_pre (tb : Nat → Option (List Int)) {d : Nat} : ∀ {e : Nat}, d ≤ e → ∃ R, tbB tb e = tbB tb d ++ R
  | 0, h => ⟨[], by obtain rfl : d = 0 := by omega
                    simp⟩
  | e + 1, h => by
    by_cases he : d = e + 1
    · exact ⟨[], by rw [he]; simp⟩
    · obtain ⟨R, hR⟩ := tbB_pre tb (d := d) (e := e) (by omega)
      exact ⟨R ++ (match tb e with | none => [] | some l => (e : Int) :: tabB l), by rw [tbB, hR, List.append_assoc]⟩
theorem tbB_len (tb : Nat → Option (List Int)) (d : Nat) : (tbB tb d).length ≤ 2566 * d := by
  induction d with
  | zero => exact Nat.zero_le _
  | succ d h =>
    rw [Nat.mul_add]
    cases hl : tb d with
    | none => rw [(tbB_none hl).1]; omega
    | some l =>
      have := tabB_len l
      rw [(tbB_some hl).1, List.length_append, List.length_cons]
      omega
theorem tbB_byte {tb : Nat → Option (List Int)} (ht : ∀ a l, tb a = some l → Tb l) : ∀ {d : Nat}, d ≤ 256 → ∀ x ∈ tbB tb d, 0 ≤ x ∧ x < 256
  | 0, _, x, hx => by simp [tbB] at hx
  | d + 1, hd, x, hx => by
    rw [tbB] at hx
    rcases List.mem_append.1 hx with hx | hx
    · exact tbB_byte ht (d := d) (by omega) x hx
    · cases hl : tb d with
      | none => rw [hl] at hx; cases hx
      | some l =>
        rw [hl] at hx
        rcases List.mem_cons.1 hx with rfl | hx
        · omega
        · exact tabB_byte (fun y hy => by have := (ht _ _ hl).fine y hy; omega) x hx
/-- A table laid. -/
def upT (tb : Nat → Option (List Int)) (c : Nat) (l : List Int) (a : Nat) : Option (List Int) := if a = c then some l else tb a
/-- Tables taken, each byte above the last. -/
def tkL : Nat → Int → (Nat → Option (List Int)) → RS → (Nat → Option (List Int)) × RS
  | 0, _, tb, s => (tb, s)
  | m + 1, last, tb, s =>
    tkL m s.byte.1 (upT tb s.byte.1.toNat (takeT (if s.byte.1 ≤ last then s.byte.2.fail 21 else s.byte.2)).1) (takeT (if s.byte.1 ≤ last then s.byte.2.fail 21 else s.byte.2)).2
def takeTs (s : RS) : (Nat → Option (List Int)) × RS := tkL (RS.count s 256).1.toNat (-1) (fun _ => none) (RS.count s 256).2
theorem tkL_next {m : Nat} {last c : Int} {tb : Nat → Option (List Int)} {s s1 s2 : RS} {l : List Int} (hb : s.byte = (c, s1)) (hc : ¬ c ≤ last) (hl : takeT s1 = (l, s2)) : tkL (m + 1) last tb s = tkL m c (upT tb c.toNat l) s2 := by
  rw [tkL, hb]
  simp only
  rw [if_neg hc, hl]
theorem takeT_bad {s : RS} (h : s.e ≠ 0) : (takeT s).2.e ≠ 0 ∧ (takeT s).1 = zs := by
  have hc : RS.count s 256 = (0, s) := by rw [RS.count, int_bad h, if_neg (by omega)]
  have hend : (if chk zs ≠ 0 then s.fail (chk zs) else s).e ≠ 0 := by
    split
    · next h => exact fail_ne h
    · exact h
  rw [takeT, hc]
  simp only [Int.toNat_zero, takeLoop, if_true]
  exact ⟨hend, by rw [takeEnd, if_pos hend]⟩
theorem tkL_bad : ∀ (m : Nat) {last : Int} {tb : Nat → Option (List Int)} {s : RS}, s.e ≠ 0 → (tkL m last tb s).2.e ≠ 0
  | 0, _, _, _, h => h
  | m + 1, last, tb, s, h => by
    rw [tkL, byte_bad h]
    simp only
    apply tkL_bad m
    apply (takeT_bad _).1
    split
    · rw [RS.fail, if_neg h]; exact h
    · exact h
theorem takeTs_bad {s : RS} (h : s.e ≠ 0) : (takeTs s).2.e ≠ 0 := by
  rw [takeTs, show RS.count s 256 = (0, s) by rw [RS.count, int_bad h, if_neg (by omega)]]
  exact tkL_bad _ h
theorem tkL_any {xs : List Int} (hx : ∀ x ∈ xs, 0 ≤ x ∧ x < 256) (hmx : xs.length ≤ 1000000) : ∀ (m d : Nat) (tb : Nat → Option (List Int)) (k : Nat), k ≤ xs.length → d ≤ 256 → (∀ a, d ≤ a → tb a = none) → (∀ a l, tb a = some l → Tb l) →
    ((tkL m ((d : Int) - 1) tb ⟨xs, k, 0⟩).2.e ≠ 0) ∨
    ∃ tb' j, tkL m ((d : Int) - 1) tb ⟨xs, k, 0⟩ = (tb', ⟨xs, k + j, 0⟩) ∧ k + j ≤ xs.length ∧ (∀ a, 256 ≤ a → tb' a = none) ∧ (∀ a l, tb' a = some l → Tb l) ∧ tbB tb' 256 = tbB tb d ++ (xs.drop k).take j ∧ tbN tb' 256 = tbN tb d + m
  | 0, d, tb, k, hk, hd, hn, ht => by
    right
    obtain ⟨h1, h2⟩ := tbB_skip (tb := tb) hd fun a h _ => hn a h
    exact ⟨tb, 0, rfl, hk, fun a ha => hn a (by omega), ht, by rw [h1]; simp, by rw [h2]; rfl⟩
  | m + 1, d, tb, k, hk, hd, hn, ht => by
    rcases byte_any (k := k) hx with h | ⟨c, hc, h, hk1, hdr⟩
    · left
      rw [tkL, h]
      simp only
      apply tkL_bad
      apply (takeT_bad _).1
      split
      · exact fail_ne (by decide)
      · simp
    · by_cases hcl : (c : Int) ≤ (d : Int) - 1
      · left
        rw [tkL, h]
        simp only
        rw [if_pos hcl]
        exact tkL_bad _ (takeT_bad (fail_ne (by decide))).1
      · rcases tab_any (k := k + 1) hx hk1 hmx with ⟨h1, _⟩ | ⟨l, j, h1, h2, h3, h4⟩
        · left
          rw [tkL, h]
          simp only
          rw [if_neg hcl]
          exact tkL_bad _ h1
        · rw [tkL_next h hcl h1, Int.toNat_natCast]
          have ih := tkL_any hx hmx m (c + 1) (upT tb c l) (k + 1 + j) h3 (by omega) (fun a ha => by rw [upT, if_neg (by omega)]; exact hn a (by omega)) (fun a l' hl' => by
            unfold upT at hl'
            split at hl'
            · injection hl' with hl'; rw [← hl']; exact h2
            · exact ht a l' hl')
          rw [show (((c + 1 : Nat) : Int)) - 1 = (c : Int) by omega] at ih
          rcases ih with ih | ⟨tb', j2, i1, i2, i3, i4, i5, i6⟩
          · exact .inl ih
          · right
            have hup : upT tb c l c = some l := by rw [upT, if_pos rfl]
            obtain ⟨g1, g2⟩ := tbB_some hup
            obtain ⟨c1, c2⟩ := tbB_congr (tb := upT tb c l) (tb' := tb) (d := c) fun a ha => by rw [upT, if_neg (by omega)]
            obtain ⟨s1, s2⟩ := tbB_skip (tb := tb) (d := d) (e := c) (by omega) fun a h _ => hn a h
            have e : (xs.drop k).take (1 + j + j2) = (c : Int) :: (tabB l ++ (xs.drop (k + 1 + j)).take j2) := by
              rw [hdr, show 1 + j + j2 = (j + j2) + 1 by omega, List.take_succ_cons, List.take_add, List.drop_drop, h4]
            have e2 : k + (1 + j + j2) = k + 1 + j + j2 := by omega
            refine ⟨tb', 1 + j + j2, ?_, by omega, i3, i4, ?_, by omega⟩
            · rw [e2]; exact i1
            · rw [e, i5, g1, c1, s1, List.append_assoc, List.cons_append]
/-- A table's first ones. -/
def restr (tb : Nat → Option (List Int)) (d a : Nat) : Option (List Int) := if a < d then tb a else none
theorem restr_none {tb : Nat → Option (List Int)} {d : Nat} (h : tb d = none) : restr tb (d + 1) = restr tb d := by
  funext a
  unfold restr
  by_cases h1 : a < d
  · rw [if_pos h1, if_pos (by omega)]
  · rw [if_neg h1]
    by_cases h2 : a = d
    · subst h2; rw [if_pos (by omega), h]
    · rw [if_neg (by omega)]
theorem restr_some {tb : Nat → Option (List Int)} {d : Nat} {l : List Int} (h : tb d = some l) : upT (restr tb d) d l = restr tb (d + 1) := by
  funext a
  unfold upT restr
  by_cases h2 : a = d
  · subst h2; rw [if_pos rfl, if_pos (by omega), h]
  · rw [if_neg h2]
    by_cases h1 : a < d
    · rw [if_pos h1, if_pos (by omega)]
    · rw [if_neg h1, if_neg (by omega)]
theorem tkL_back {tb : Nat → Option (List Int)} (ht : ∀ a l, tb a = some l → Tb l) {xs T : List Int} (N m : Nat) : ∀ (d : Nat), d + m = N → ∀ (last : Int) (k : Nat) (R : List Int), last < (d : Int) → xs.drop k = R ++ T → tbB tb d ++ R = tbB tb N →
    tkL (tbN tb N - tbN tb d) last (restr tb d) ⟨xs, k, 0⟩ = (restr tb N, ⟨xs, k + R.length, 0⟩) := by
  induction m with
  | zero =>
    intro d hd last k R _ _ hb
    obtain rfl : d = N := by omega
    have hR0 : R = [] := by
      have := congrArg List.length hb
      simp only [List.length_append] at this
      exact List.eq_nil_of_length_eq_zero (by omega)
    subst hR0
    rw [Nat.sub_self, tkL]
    simp
  | succ m ih0 =>
    intro d hd last k R hla hR hb
    cases hl : tb d with
    | none =>
      obtain ⟨g1, g2⟩ := tbB_none hl
      have ih := ih0 (d + 1) (by omega) last k R (by omega) hR (by rw [g1]; exact hb)
      rw [g2, restr_none hl] at ih
      exact ih
    | some l =>
      obtain ⟨g1, g2⟩ := tbB_some hl
      have hmo := tbN_mono tb (d := d + 1) (e := N) (by omega)
      obtain ⟨R2, hR2⟩ := tbB_pre tb (d := d + 1) (e := N) (by omega)
      have hRe : R = (d : Int) :: (tabB l ++ R2) := by
        rw [hR2, g1, List.append_assoc] at hb
        rw [List.append_cancel_left hb, List.cons_append]
      have hd1 : xs.drop k = (d : Int) :: (tabB l ++ (R2 ++ T)) := by rw [hR, hRe, List.cons_append, List.append_assoc]
      obtain ⟨b1, b2⟩ := byte_one hd1
      have t1 := tab_back (ht _ _ hl) b2
      have ih := ih0 (d + 1) (by omega) (d : Int) (k + 1 + (tabB l).length) R2 (by omega) (by rw [← List.drop_drop, b2, List.drop_left]) (by rw [hR2])
      have e2 : k + R.length = k + 1 + (tabB l).length + R2.length := by rw [hRe, List.length_cons, List.length_append]; omega
      have e3 : tbN tb N - tbN tb d = (tbN tb N - tbN tb (d + 1)) + 1 := by omega
      have h4 : ¬ (d : Int) ≤ last := by omega
      rw [e2, e3, tkL_next b1 h4 t1, Int.toNat_natCast, restr_some hl]
      exact ih
theorem restr_all {tb : Nat → Option (List Int)} (h : ∀ a, 256 ≤ a → tb a = none) : restr tb 256 = tb := by
  funext a
  unfold restr
  split
  · rfl
  · rw [h a (by omega)]
theorem restr_zero (tb : Nat → Option (List Int)) : restr tb 0 = fun _ => none := by
  funext a
  simp [restr]
/-- All tables, and how many. -/
def tbA (tb : Nat → Option (List Int)) : List Int := encInt (tbN tb 256 : Int) ++ tbB tb 256
theorem takeTs_back {tb : Nat → Option (List Int)} (ht : ∀ a l, tb a = some l → Tb l) (h : ∀ a, 256 ≤ a → tb a = none) {xs T : List Int} {k : Nat} (hd : xs.drop k = tbA tb ++ T) : takeTs ⟨xs, k, 0⟩ = (tb, ⟨xs, k + (tbA tb).length, 0⟩) := by
  have hn := tbN_le tb 256
  have hd1 : xs.drop k = encInt (tbN tb 256 : Int) ++ (tbB tb 256 ++ T) := by rw [hd, tbA, List.append_assoc]
  have hi := int_back (all := xs) (k := k) (n := (tbN tb 256 : Int)) (rest := tbB tb 256 ++ T) hd1 (by omega) (by omega)
  have hc : RS.count ⟨xs, k, 0⟩ 256 = ((tbN tb 256 : Int), ⟨xs, k + (encInt (tbN tb 256 : Int)).length, 0⟩) := by
    rw [RS.count, hi, if_neg (by simp only; omega)]
  have hlo := tkL_back ht (xs := xs) (T := T) 256 256 0 rfl (-1) (k + (encInt (tbN tb 256 : Int)).length) (tbB tb 256) (by omega) (by rw [← List.drop_drop, hd1, List.drop_left]) (by rw [show tbB tb 0 = [] from rfl, List.nil_append])
  rw [restr_zero, restr_all h, show tbN tb 0 = 0 from rfl, Nat.sub_zero] at hlo
  rw [takeTs, hc]
  simp only [Int.toNat_natCast]
  rw [hlo, tbA, List.length_append, Nat.add_assoc]
theorem count_any {xs : List Int} {k : Nat} (hx : ∀ x ∈ xs, 0 ≤ x ∧ x < 256) (hk : k ≤ xs.length) (hmx : xs.length ≤ 1000000) (most : Int) :
    ((RS.count ⟨xs, k, 0⟩ most).2.e ≠ 0 ∧ (RS.count ⟨xs, k, 0⟩ most).1 = 0) ∨ ∃ n f, RS.count ⟨xs, k, 0⟩ most = (n, ⟨xs, k + f, 0⟩) ∧ k + f ≤ xs.length ∧ 0 ≤ n ∧ n ≤ most ∧ n < 4294967296 ∧ encInt n = (xs.drop k).take f := by
  rcases int_all hx hk hmx with he | ⟨n, f, hi, hkf, hn0, hn1, hen⟩
  · left
    have hz := int_zero he
    rw [RS.count]
    split
    · exact ⟨by rw [RS.fail, if_neg he]; exact he, rfl⟩
    · exact ⟨he, hz⟩
  · by_cases hm : most < n
    · left
      rw [RS.count, hi, if_pos hm]
      exact ⟨fail_ne (by decide), rfl⟩
    · right
      exact ⟨n, 1 + f, by rw [RS.count, hi, if_neg hm], by omega, by omega, by omega, by omega, hen⟩
theorem takeTs_any {xs : List Int} {k : Nat} (hx : ∀ x ∈ xs, 0 ≤ x ∧ x < 256) (hk : k ≤ xs.length) (hmx : xs.length ≤ 1000000) :
    ((takeTs ⟨xs, k, 0⟩).2.e ≠ 0) ∨ ∃ tb j, takeTs ⟨xs, k, 0⟩ = (tb, ⟨xs, k + j, 0⟩) ∧ k + j ≤ xs.length ∧ (∀ a, 256 ≤ a → tb a = none) ∧ (∀ a l, tb a = some l → Tb l) ∧ tbA tb = (xs.drop k).take j := by
  rcases count_any hx hk hmx 256 with ⟨h1, h2⟩ | ⟨n, f, hc, hkf, hn0, hn1, hn2, hen⟩
  · left
    rw [takeTs]
    exact tkL_bad _ h1
  · have h := tkL_any hx hmx n.toNat 0 (fun _ => none) (k + f) hkf (by omega) (fun _ _ => rfl) (fun _ _ h => by cases h)
    rw [show ((0 : Nat) : Int) - 1 = -1 by omega] at h
    rw [takeTs, hc]
    simp only
    rcases h with h | ⟨tb, j, h1, h2, h3, h4, h5, h6⟩
    · exact .inl h
    · right
      have e2 : k + (f + j) = k + f + j := by omega
      refine ⟨tb, f + j, by rw [e2]; exact h1, by omega, h3, h4, ?_⟩
      rw [tbA, h5, h6, show tbB (fun _ => none) 0 = [] from rfl, show tbN (fun _ => none) 0 = 0 from rfl, List.nil_append, Nat.zero_add, show ((n.toNat : Nat) : Int) = n by omega, hen, take_mid]
end Go.Proofs.Ytnanmenoemajfaa.Ch

/- Bytes that go round and round are told in few: plain data. -/
import Derived.Test.YtnanmenoemajfaaChAll
import Derived.Test.YtnanmenoemajfaaRnSh
namespace Go.Proofs.Ytnanmenoemajfaa.Ch
open Go.Proofs.Ytnanmenoemajfaa.Gen Go.Proofs.Ytnanmenoemajfaa.Wr Go.Proofs.Ytnanmenoemajfaa.Ww Go.Proofs.Ytnanmenoemajfaa.It Go.Proofs.Ytnanmenoemajfaa.Ir Go.Proofs.Ytnanmenoemajfaa.Ib Go.Proofs.Ytnanmenoemajfaa.Fq Go.Proofs.Ytnanmenoemajfaa.Fb Go.Proofs.Ytnanmenoemajfaa.Rp

/-! ### parts of what doesn't come, and of what comes alone -/
theorem dec1_le (l : List Int) (i : Nat) : (dec1 l).getD i 0 ≤ l.getD i 0 := by
  unfold dec1
  by_cases h : gre l 256 < l.length
  · rw [getD_set h]
    split
    · next e => rw [← e]; omega
    · exact Int.le_refl _
  · rw [List.set_eq_of_length_le (by omega)]
    exact Int.le_refl _
theorem lose_le (l : List Int) (i : Nat) : ∀ j, (lose l j).getD i 0 ≤ l.getD i 0
  | 0 => Int.le_refl _
  | j + 1 => Int.le_trans (dec1_le (lose l j) i) (lose_le l i j)
theorem scal_zero {c : List Int} (hc : c.length = 256) (hs : 0 < c.sum) {i : Nat} (hi : i < 256) (h0 : c.getD i 0 ≤ 0) : (scal c).getD i 0 ≤ 0 := by
  have hl : (pts c).length = 256 := by rw [pts_len, hc]
  have h1 : (pts c).getD i 0 ≤ 0 := by rw [pts_get c (by omega), part1, if_neg (by omega)]; omega
  unfold scal
  split
  · have hg := gre_pos hc hs
    rw [getD_set (by rw [hl]; exact gre_lt c (by omega))]
    split
    · next e => rw [e] at h0; omega
    · exact h1
  · exact Int.le_trans (lose_le _ _ _) h1
theorem scal_one (c : Nat) (hc : c < 256) {n : Int} (hn : 0 < n) : scal (zs.set c n) = zs.set c 4096 := by
  have hs : (zs.set c n).sum = n := by rw [sum_set _ _ _ (by rw [zs_len]; exact hc), zs_sum, zs_getD]; omega
  have hp : pts (zs.set c n) = zs.set c 4096 := by
    rw [pts, hs, List.map_set]
    have hz : zs.map (part1 n) = zs := by rw [zs, List.map_replicate]; rfl
    rw [hz]
    have : part1 n n = 4096 := by
      rw [part1, if_pos hn, Int.mul_comm, Int.mul_ediv_cancel _ (by omega)]
      rfl
    rw [this]
  have hps : (zs.set c 4096).sum = 4096 := by rw [sum_set _ _ _ (by rw [zs_len]; exact hc), zs_sum, zs_getD]; omega
  rw [scal, hp, hps, if_neg (by omega)]
  rfl
theorem row_one {L : List Nat} {a c : Nat} (hc : c < 256) (h : ∀ d, d < 256 → 256 * a + d ∈ L → d = c) : rowOf L a = zs.set c ((L.count (256 * a + c) : Nat) : Int) := by
  apply List.ext_getElem?
  intro i
  by_cases hi : i < 256
  · have h1 : (rowOf L a)[i]? = some ((rowOf L a).getD i 0) := by rw [List.getD, List.getElem?_eq_getElem (by rw [rowOf_len]; exact hi)]; rfl
    have h2 : (zs.set c ((L.count (256 * a + c) : Nat) : Int))[i]? = some ((zs.set c ((L.count (256 * a + c) : Nat) : Int)).getD i 0) := by rw [List.getD, List.getElem?_eq_getElem (by rw [List.length_set, zs_len]; exact hi)]; rfl
    rw [h1, h2, rowOf_get hi, zs_set c hc]
    split
    · next e => rw [e]
    · next e =>
      have : L.count (256 * a + i) = 0 := List.count_eq_zero.2 fun hm => e (h i hi hm)
      rw [this]
      rfl
  · rw [List.getElem?_eq_none (by rw [rowOf_len]; omega), List.getElem?_eq_none (by rw [List.length_set, zs_len]; omega)]

/-! ### how long tables are -/
theorem bod_le {l : List Int} (hf : Fine l) (hl : l.length = 256) : ∀ d, d ≤ 256 → (bod l d).length ≤ 4 * mny l d
  | 0, _ => by simp [bod]
  | d + 1, hd => by
    have ih := bod_le hf hl d (by omega)
    unfold bod mny
    split
    · have h1 := nxt_le l d
      have h2 := hf _ (getD_mem (l := l) (d := d) (by omega))
      have h3 := (enc_short (n := ((d - nxt l d : Nat) : Int)) (by omega) (by omega)).2.1 (by omega)
      have h4 := (enc_short (n := l.getD d 0) (by omega) (by omega)).2.1 (by omega)
      simp only [List.length_append]
      omega
    · exact ih
theorem count_next (C : List Nat) (d : Nat) : C.countP (fun c => decide (c < d + 1)) = C.countP (fun c => decide (c < d)) + C.count d := by
  induction C with
  | nil => rfl
  | cons x C ih =>
    simp only [List.countP_cons, List.count_cons, ih]
    by_cases h1 : x < d
    · have h2 : ¬ x = d := by omega
      simp [h1, h2, show x < d + 1 by omega]
      omega
    · by_cases h2 : x = d
      · subst h2
        simp
        omega
      · simp [h1, h2, show ¬ x < d + 1 by omega]
theorem mny_in {l : List Int} {C : List Nat} (h : ∀ c, c < 256 → 0 < l.getD c 0 → c ∈ C) : ∀ d, d ≤ 256 → mny l d ≤ C.countP (fun c => decide (c < d))
  | 0, _ => by simp [mny]
  | d + 1, hd => by
    have ih := mny_in h d (by omega)
    rw [count_next]
    unfold mny
    split
    · next hp =>
      have := List.count_pos_iff.2 (h d (by omega) hp)
      omega
    · omega
theorem tabB_in {l : List Int} {C : List Nat} (hf : Fine l) (hl : l.length = 256) (h : ∀ c, c < 256 → 0 < l.getD c 0 → c ∈ C) : (tabB l).length ≤ 2 + 4 * C.length := by
  have h1 := mny_in h 256 (Nat.le_refl _)
  have h2 := List.countP_le_length (p := fun c => decide (c < 256)) (l := C)
  have h3 := bod_le hf hl 256 (Nat.le_refl _)
  have h4 := mny_le l 256
  have h5 := (enc_short (n := ((mny l 256 : Nat) : Int)) (by omega) (by omega)).2.1 (by omega)
  simp only [tabB, List.length_append]
  omega
theorem tabB_one {c : Nat} (hc : c < 256) : (tabB (zs.set c 4096)).length ≤ 5 := by
  obtain ⟨b1, b2⟩ := bod_one c hc
  have l2 := (enc_short (n := (c : Int)) (by omega) (by omega)).2.1 (by omega)
  have l3 := (enc_short (n := 4096) (by omega) (by omega)).2.1 (by omega)
  have l4 := (enc_short (n := ((1 : Nat) : Int)) (by omega) (by omega)).2.2 (by omega)
  rw [tabB, b1, b2]
  simp only [List.length_append]
  omega

/-- The tables' bytes, so far. -/
theorem tbB_next (tb : Nat → Option (List Int)) (k d m : Nat) (hm : (tbB tb d).length ≤ m) (h : tb d = none ∨ ∃ l, tb d = some l ∧ (tabB l).length ≤ k) : (tbB tb (d + 1)).length ≤ m + (k + 1) := by
  rcases h with he | ⟨l, he, hl⟩
  · rw [(tbB_none he).1]; omega
  · have e := (tbB_some he).1
    generalize tabB l = T at e hl
    rw [e, List.length_append, List.length_cons]
    exact Nat.add_le_add hm (Nat.add_le_add_right hl 1)
theorem tbB_gen {tb : Nat → Option (List Int)} {k : Nat} (h0 : tb 0 = none ∨ ∃ l, tb 0 = some l ∧ (tabB l).length ≤ 18) (h1 : ∀ a, 1 ≤ a → a < 256 → tb a = none ∨ ∃ l, a ≤ k ∧ tb a = some l ∧ (tabB l).length ≤ 5) (d : Nat) :
    d ≤ 256 → (tbB tb d).length ≤ 19 + 6 * (min d (k + 1)) := by
  induction d with
  | zero => intro _; exact Nat.zero_le _
  | succ d ih =>
    intro hd
    have ih := ih (by omega)
    by_cases hz : d = 0
    · have h2 := tbB_next tb 18 d 0 (by rw [hz]; exact Nat.le_refl 0) (by rw [hz]; exact h0)
      omega
    · rcases h1 d (by omega) (by omega) with he | ⟨l, hak, he, hl⟩
      · have h2 := tbB_skip (tb := tb) (d := d) (e := d + 1) (by omega) (fun a h3 h4 => (show a = d by omega) ▸ he)
        rw [h2.1]
        omega
      · have h2 := tbB_next tb 5 d _ ih (.inr ⟨l, he, hl⟩)
        omega

/-! ### round and round -/
/-- What goes round: bytes 1 to k. -/
def Turns (k : Nat) (b : List Int) : Prop := ∀ p, p < b.length → b.getD p 0 = ((1 + p % k : Nat) : Int)
section
variable {n k : Nat} {b : List Int}
theorem turn_byte (hk : 1 ≤ k) (hk5 : k ≤ 5) (h : Turns k b) : ∀ x ∈ b, 0 ≤ x ∧ x < 256 := by
  intro x hx
  obtain ⟨p, hp, rfl⟩ := List.getElem_of_mem hx
  have h1 := h p hp
  rw [List.getD, List.getElem?_eq_getElem hp] at h1
  simp only [Option.getD_some] at h1
  have := Nat.mod_lt p (show 0 < k by omega)
  omega
/-- What is ahead tells what comes. -/
theorem turn_step (hk : 1 ≤ k) (hk5 : k ≤ 5) (hn : b.length = n) (h : Turns k b) {t : Nat} (hv : Val n t) : (t / 4 = 0 ∧ cx n b t = 0) ∨ (t / 4 ≠ 0 ∧ ∃ a : Nat, cx n b t = (a : Int) ∧ 1 ≤ a ∧ a ≤ k ∧ b.getD (pos n t) 0 = ((1 + a % k : Nat) : Int)) := by
  by_cases h0 : t / 4 = 0
  · exact .inl ⟨h0, by rw [cx, if_pos h0]⟩
  · refine .inr ⟨h0, 1 + (pos n t - 1) % k, ?_, by omega, ?_, ?_⟩
    · obtain ⟨g1, g2, g3, g4⟩ := pos_ahead hv h0
      have := pos_lt g1
      rw [cx, if_neg h0, h _ (by omega)]
    · have := Nat.mod_lt (pos n t - 1) (show 0 < k by omega)
      omega
    · obtain ⟨g1, g2, g3, g4⟩ := pos_ahead hv h0
      have h1 := pos_lt hv
      rw [h _ (by omega)]
      have h2 : pos n t % k = (1 + (pos n t - 1) % k) % k := by
        rw [Nat.add_mod, Nat.mod_mod, ← Nat.add_mod]
        congr 1
        omega
      rw [h2]
theorem mem_key (hn : b.length = n) (hb : ∀ x ∈ b, 0 ≤ x ∧ x < 256) {a c : Nat} (ha : a < 256) (hc : c < 256) (hm : 256 * a + c ∈ pa n b 4) : ∃ t, Val n t ∧ cx n b t = (a : Int) ∧ b.getD (pos n t) 0 = (c : Int) := by
  obtain ⟨t, hv, he⟩ := mem_all.1 hm
  have h1 := cx_byte (n := n) (t := t) hb
  have h2 := byte_at_ hb (pos n t)
  unfold ky at he
  exact ⟨t, hv, by omega, by omega⟩
/-- The tables: of one follower each, but that of what is ahead of all. -/
theorem turn_tab (hk : 1 ≤ k) (hk5 : k ≤ 5) (hn : b.length = n) (hnl : n ≤ 1000000) (h : Turns k b) {a : Nat} (ha : 1 ≤ a) (ha2 : a < 256) : tabs b a = none ∨ a ≤ k ∧ tabs b a = some (zs.set (1 + a % k) 4096) := by
  have hb := turn_byte hk hk5 h
  have hck : 1 + a % k < 256 := by have := Nat.mod_lt a (show 0 < k by omega); omega
  have hone : ∀ d, d < 256 → 256 * a + d ∈ pa n b 4 → d = 1 + a % k ∧ a ≤ k := by
    intro d hd hm
    obtain ⟨t, hv, h1, h2⟩ := mem_key hn hb ha2 hd hm
    rcases turn_step hk hk5 hn h hv with ⟨_, h0⟩ | ⟨_, a', h3, h4, h5, h6⟩
    · omega
    · obtain rfl : a = a' := by omega
      exact ⟨by omega, h5⟩
  have hr := row_one (L := pa n b 4) (a := a) hck (fun d hd hm => (hone d hd hm).1)
  rw [tabs, hn, tabL]
  split
  · exact .inl rfl
  · next hne =>
    have hs : (rowOf (pa n b 4) a).sum ≠ 0 := fun e => hne (.inr e)
    obtain ⟨c, hc, hm⟩ := rowOf_hit hs
    obtain ⟨rfl, hak⟩ := hone c hc hm
    refine .inr ⟨hak, ?_⟩
    rw [hr, scal_one _ hck (by have := List.count_pos_iff.2 hm; omega)]
/-- What comes first in a quarter. -/
def firsts (n : Nat) (b : List Int) : List Nat := [(b.getD (qo n 0) 0).toNat, (b.getD (qo n 1) 0).toNat, (b.getD (qo n 2) 0).toNat, (b.getD (qo n 3) 0).toNat]
theorem turn_first (hk : 1 ≤ k) (hk5 : k ≤ 5) (hn : b.length = n) (hnl : n ≤ 1000000) (h : Turns k b) : tabs b 0 = none ∨ ∃ l, tabs b 0 = some l ∧ (tabB l).length ≤ 18 := by
  have hb := turn_byte hk hk5 h
  have hpl : (pa n b 4).length ≤ 1000000 := by rw [pa_len _ _ (Nat.le_refl _)]; simp [qo]; omega
  rw [tabs, hn, tabL]
  split
  · exact .inl rfl
  · next hne =>
    have hs : (rowOf (pa n b 4) 0).sum ≠ 0 := fun e => hne (.inr e)
    have hin := rowOf_in hpl 0
    have hsp : 0 < (rowOf (pa n b 4) 0).sum := by have := InR.sum hin; omega
    obtain ⟨h1, h2, h3⟩ := scal_ok (rowOf_len _ 0) hin
    refine .inr ⟨_, rfl, ?_⟩
    refine tabB_in (C := firsts n b) h2 h1 (fun c hc hp => ?_)
    have hrow : 0 < (rowOf (pa n b 4) 0).getD c 0 := by
      rcases Int.lt_or_le 0 ((rowOf (pa n b 4) 0).getD c 0) with hx | hx
      · exact hx
      · have := scal_zero (rowOf_len _ 0) hsp hc hx
        omega
    rw [rowOf_get hc] at hrow
    obtain ⟨t, hv, g1, g2⟩ := mem_key hn hb (a := 0) (by omega) hc (List.count_pos_iff.1 (by omega))
    rcases turn_step hk hk5 hn h hv with ⟨h0, _⟩ | ⟨_, a', h3, h4, _⟩
    · have ht : t = 0 ∨ t = 1 ∨ t = 2 ∨ t = 3 := by omega
      have hpos : pos n t = qo n (t % 4) := by rw [pos, h0]; rfl
      rw [hpos] at g2
      unfold firsts
      rcases ht with rfl | rfl | rfl | rfl
      · have g3 : b.getD (qo n 0) 0 = (c : Int) := g2
        simp only [List.mem_cons, List.not_mem_nil, or_false]
        omega
      · have g3 : b.getD (qo n 1) 0 = (c : Int) := g2
        simp only [List.mem_cons, List.not_mem_nil, or_false]
        omega
      · have g3 : b.getD (qo n 2) 0 = (c : Int) := g2
        simp only [List.mem_cons, List.not_mem_nil, or_false]
        omega
      · have g3 : b.getD (qo n 3) 0 = (c : Int) := g2
        simp only [List.mem_cons, List.not_mem_nil, or_false]
        omega
    · omega
theorem turn_tab2 (hk : 1 ≤ k) (hk5 : k ≤ 5) (hn : b.length = n) (hnl : n ≤ 1000000) (h : Turns k b) {a : Nat} (ha : 1 ≤ a) (ha2 : a < 256) : tabs b a = none ∨ ∃ l, a ≤ k ∧ tabs b a = some l ∧ (tabB l).length ≤ 5 := by
  rcases turn_tab hk hk5 hn hnl h ha ha2 with he | ⟨hak, he⟩
  · exact .inl he
  · exact .inr ⟨_, hak, he, tabB_one (by have := Nat.mod_lt a (show 0 < k by omega); omega)⟩
theorem turn_tbB (hk : 1 ≤ k) (hk5 : k ≤ 5) (hn : b.length = n) (hnl : n ≤ 1000000) (h : Turns k b) : (tbB (tabs b) 256).length ≤ 19 + 6 * (min 256 (k + 1)) :=
  tbB_gen (turn_first hk hk5 hn hnl h) (fun _ h1 h2 => turn_tab2 hk hk5 hn hnl h h1 h2) 256 (Nat.le_refl _)
/-- Nothing goes out but by the quarters' firsts. -/
theorem turn_out (hk : 1 ≤ k) (hk5 : k ≤ 5) (hn : b.length = n) (hnl : n ≤ 1000000) (h : Turns k b) : ∀ (m t : Nat), (encC (tt (tabs b)) n b low4 m t).2.length ≤ 2 * (4 - t)
  | 0, t => by simp [encC]
  | m + 1, t => by
    have hb := turn_byte hk hk5 h
    have hg := (tabs_good hn hnl hb).1
    have ih := turn_out hk hk5 hn hnl h m (t + 1)
    by_cases hv : Val n t
    · have hst := (encC_in hg low4_st m (t + 1)).1
      have hin := hst.at_ t
      rw [encC_next hv rfl rfl rfl]
      simp only [List.length_append, List.length_reverse]
      rcases turn_step hk hk5 hn h hv with ⟨h0, _⟩ | ⟨h0, a, h3, h4, h5, h6⟩
      · obtain ⟨g1, g2⟩ := hg t hv
        obtain ⟨h7, _⟩ := has_part g1 g2
        have := gone_len hin h7
        omega
      · have hck : 1 + a % k < 256 := by have := Nat.mod_lt a (show 0 < k by omega); omega
        have htb : tt (tabs b) (cx n b t).toNat = zs.set (1 + a % k) 4096 := by
          have hm : 256 * a + (1 + a % k) ∈ pa n b 4 := mem_all.2 ⟨t, hv, by unfold ky; rw [h3, h6, Int.toNat_natCast, Int.toNat_natCast]⟩
          rw [h3, Int.toNat_natCast, tt]
          rcases turn_tab hk hk5 hn hnl h (a := a) h4 (by omega) with he | ⟨_, he⟩
          · obtain ⟨l, hl, _⟩ := tabs_step hn hnl hb hv
            rw [h3, Int.toNat_natCast, he] at hl
            cases hl
          · rw [he]; rfl
        have hp : prt (tt (tabs b) (cx n b t).toNat) (b.getD (pos n t) 0) = 4096 := by
          rw [htb, h6, prt, Int.toNat_natCast, zs_set _ hck, if_pos rfl]; rfl
        rw [hp, (gone_rep hin).1]
        simp only [List.length_nil]
        omega
    · rw [encC_skip hv]
      omega
theorem pk_turn (hk : 1 ≤ k) (hk5 : k ≤ 5) (hn : b.length = n) (hnl : n ≤ 16000) (hne : b ≠ []) (h : Turns k b) : (pk b).length ≤ 90 := by
  have hb := turn_byte hk hk5 h
  have h1 := (enc_short (n := (n : Int)) (by omega) (by omega)).2.1 (by omega)
  have h2 := turn_tbB hk hk5 hn (by omega) h
  have h3 := tbN_le (tabs b) 256
  have h4 := (enc_short (n := ((tbN (tabs b) 256 : Nat) : Int)) (by omega) (by omega)).2.1 (by omega)
  have h5 := turn_out hk hk5 hn (by omega) h (nst n) 0
  have h6 := (encC_in (tabs_good hn (by omega) hb).1 low4_st (nst n) 0).1
  have h7 := wb_len (encC (tt (tabs b)) n b low4 (nst n) 0).1
  rw [h6.1] at h7
  rw [pk, if_neg hne, encA, tbA, hn]
  simp only [List.length_append]
  omega
end
end Go.Proofs.Ytnanmenoemajfaa.Ch

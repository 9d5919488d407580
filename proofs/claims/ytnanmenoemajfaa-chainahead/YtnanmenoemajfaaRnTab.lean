/- A table's bytes anywhere in a row, there and back; then all of it: plain data. -/
import Derived.Test.YtnanmenoemajfaaRnAll
namespace Go.Proofs.Ytnanmenoemajfaa.Rp
open Go.Proofs.Ytnanmenoemajfaa.Gen Go.Proofs.Ytnanmenoemajfaa.Wr Go.Proofs.Ytnanmenoemajfaa.Ww Go.Proofs.Ytnanmenoemajfaa.It Go.Proofs.Ytnanmenoemajfaa.Ir Go.Proofs.Ytnanmenoemajfaa.Ib Go.Proofs.Ytnanmenoemajfaa.Fq Go.Proofs.Ytnanmenoemajfaa.Fb

theorem loop_back2 {l : List Int} (hl : l.length = 256) (h0 : ∀ x ∈ l, 0 ≤ x ∧ x < 4294967296) (xs T : List Int) : ∀ (m d : Nat), d + m = 256 → ∀ (k : Nat) (R : List Int), xs.drop k = R ++ T → bod l d ++ R = bod l 256 →
    takeLoop (mny l 256 - mny l d) (laid l d) (nxt l d) ⟨xs, k, 0⟩ = (l, ⟨xs, k + R.length, 0⟩, true)
  | 0, d, hd, k, R, hR, hb => by
    obtain rfl : d = 256 := by omega
    have hR0 : R = [] := by
      have := congrArg List.length hb
      simp only [List.length_append] at this
      exact List.eq_nil_of_length_eq_zero (by omega)
    subst hR0
    rw [Nat.sub_self, takeLoop, laid_all hl]
    simp
  | m + 1, d, hd, k, R, hR, hb => by
    have hdl : d < 256 := by omega
    have hm := h0 _ (getD_mem (l := l) (d := d) (by omega))
    by_cases hp : 0 < l.getD d 0
    · have hn1 : nxt l (d + 1) = d + 1 := by rw [nxt, if_pos hp]
      have hm1 : mny l (d + 1) = mny l d + 1 := by rw [mny, if_pos hp]
      have hb1 : bod l (d + 1) = bod l d ++ (encInt (((d - nxt l d : Nat) : Int)) ++ encInt (l.getD d 0)) := by rw [bod, if_pos hp]
      have hmo := mny_mono l (d := d + 1) (e := 256) (by omega)
      have hnl := nxt_le l d
      obtain ⟨R2, hR2⟩ := bod_pre l (d := d + 1) (e := 256) (by omega)
      have hRe : R = encInt (((d - nxt l d : Nat) : Int)) ++ (encInt (l.getD d 0) ++ R2) := by
        rw [hR2, hb1, List.append_assoc] at hb
        have := List.append_cancel_left hb
        rw [this, List.append_assoc]
      have hi1 := int_back (all := xs) (k := k) (n := ((d - nxt l d : Nat) : Int)) (rest := encInt (l.getD d 0) ++ (R2 ++ T)) (by rw [hR, hRe]; simp only [List.append_assoc]) (by omega) (by omega)
      have hd2 : xs.drop (k + (encInt (((d - nxt l d : Nat) : Int))).length) = encInt (l.getD d 0) ++ (R2 ++ T) := by
        rw [← List.drop_drop, hR, hRe, List.append_assoc, List.append_assoc, List.drop_left]
      have hi2 := int_back (all := xs) (k := k + (encInt (((d - nxt l d : Nat) : Int))).length) (n := l.getD d 0) (rest := R2 ++ T) hd2 hm.1 hm.2
      have ih := loop_back2 hl h0 xs T m (d + 1) (by omega) (k + (encInt (((d - nxt l d : Nat) : Int))).length + (encInt (l.getD d 0)).length) R2
        (by rw [← List.drop_drop, hd2, List.drop_left]) hR2.symm
      rw [show mny l 256 - mny l d = (mny l 256 - mny l (d + 1)) + 1 by omega, takeLoop, hi1]
      simp only [Int.toNat_natCast]
      rw [show nxt l d + (d - nxt l d) = d by omega, hi2, if_neg (by omega)]
      simp only
      rw [if_neg (by omega), laid_set hl hdl]
      rw [hn1] at ih
      rw [ih, hRe]
      simp [Nat.add_assoc]
    · have hz : l.getD d 0 = 0 := by omega
      have hn1 : nxt l (d + 1) = nxt l d := by rw [nxt, if_neg hp]
      have hm1 : mny l (d + 1) = mny l d := by rw [mny, if_neg hp]
      have hb1 : bod l (d + 1) = bod l d := by rw [bod, if_neg hp]
      have ih := loop_back2 hl h0 xs T m (d + 1) (by omega) k R hR (by rw [hb1]; exact hb)
      rw [hn1, hm1, ← laid_same hl hdl hz] at ih
      exact ih
theorem tab_back {l : List Int} (h : Tb l) {xs T : List Int} {k : Nat} (hd : xs.drop k = tabB l ++ T) : takeT ⟨xs, k, 0⟩ = (l, ⟨xs, k + (tabB l).length, 0⟩) := by
  have h0 : ∀ x ∈ l, 0 ≤ x ∧ x < 4294967296 := fun x hx => by have := h.fine x hx; omega
  have hm := mny_le l 256
  have hd1 : xs.drop k = encInt ((mny l 256 : Nat) : Int) ++ (bod l 256 ++ T) := by rw [hd, tabB, List.append_assoc]
  have hi := int_back (all := xs) (k := k) (n := ((mny l 256 : Nat) : Int)) (rest := bod l 256 ++ T) hd1 (by omega) (by omega)
  have hc : RS.count ⟨xs, k, 0⟩ 256 = (((mny l 256 : Nat) : Int), ⟨xs, k + (encInt ((mny l 256 : Nat) : Int)).length, 0⟩) := by
    rw [RS.count, hi, if_neg (by simp only; omega)]
  have hlo := loop_back2 h.len h0 xs T 256 0 rfl (k + (encInt ((mny l 256 : Nat) : Int)).length) (bod l 256) (by rw [← List.drop_drop, hd1, List.drop_left]) (by rw [show bod l 0 = [] from rfl, List.nil_append])
  have hck : chk l = 0 := by rw [chk, if_pos h.fine, if_pos h.sum]
  rw [laid_zero, show List.replicate 256 (0 : Int) = zs from rfl] at hlo
  rw [show mny l 0 = 0 from rfl, show nxt l 0 = 0 from rfl, Nat.sub_zero] at hlo
  rw [takeT, hc]
  simp only [Int.toNat_natCast]
  rw [hlo]
  simp only [if_true, takeEnd, hck, ne_eq, not_true_eq_false, if_false]
  rw [tabB, List.length_append, Nat.add_assoc]
theorem tab_any {xs : List Int} {k : Nat} (hx : ∀ x ∈ xs, 0 ≤ x ∧ x < 256) (hk : k ≤ xs.length) (hmx : xs.length ≤ 1000000) :
    ((takeT ⟨xs, k, 0⟩).2.e ≠ 0 ∧ (takeT ⟨xs, k, 0⟩).1 = zs) ∨
    ∃ t j, takeT ⟨xs, k, 0⟩ = (t, ⟨xs, k + j, 0⟩) ∧ Tb t ∧ k + j ≤ xs.length ∧ tabB t = (xs.drop k).take j := by
  have hend : ∀ (t : List Int) (s : RS), s.e ≠ 0 → ((takeEnd t s).2.e ≠ 0 ∧ (takeEnd t s).1 = zs) := by
    intro t s hs
    have : (if chk t ≠ 0 then s.fail (chk t) else s).e ≠ 0 := by
      split
      · next h => exact fail_ne h
      · exact hs
    exact ⟨this, by rw [takeEnd, if_pos this]⟩
  rcases int_all hx hk hmx with he | ⟨n, f, hi, hkf, hn0, hn1, hen⟩
  · left
    have hc : RS.count ⟨xs, k, 0⟩ 256 = (0, (RS.int ⟨xs, k, 0⟩).2) := by
      have hz := int_zero he
      rw [RS.count, hz, if_neg (by omega)]
      exact Prod.ext hz rfl
    rw [takeT, hc]
    simp only [Int.toNat_zero, takeLoop, if_true]
    exact hend _ _ he
  · by_cases hm : 256 < n
    · left
      have hc : RS.count ⟨xs, k, 0⟩ 256 = (0, (⟨xs, k + (1 + f), 0⟩ : RS).fail 7) := by rw [RS.count, hi, if_pos hm]
      rw [takeT, hc]
      simp only [Int.toNat_zero, takeLoop, if_true]
      exact hend _ _ (fail_ne (by decide))
    · have hc : RS.count ⟨xs, k, 0⟩ 256 = (n, ⟨xs, k + (1 + f), 0⟩) := by rw [RS.count, hi, if_neg hm]
      have hl0 : Lp xs (k + (1 + f)) zs 0 (k + (1 + f)) 0 :=
        ⟨zs_len, fun x hx => by have := List.eq_of_mem_replicate hx; omega, fun i _ => zs_getD i, (zs_bod 256).2.1, (zs_bod 256).2.2, Nat.le_refl _, hkf, by rw [(zs_bod 256).1, Nat.sub_self, List.take_zero]⟩
      rw [takeT, hc]
      simp only
      rcases loop_any hx hmx _ n.toNat zs 0 _ 0 hl0 with ⟨h1, h2, h3⟩ | ⟨t, nx, k2, h1, h2⟩
      · left
        rw [h1]
        exact ⟨h3, h2⟩
      · rw [h1]
        simp only [if_true]
        have hlo := h2.low
        by_cases hck : chk t = 0
        · right
          have hft : Fine t ∧ t.sum = 4096 := by
            rw [chk] at hck
            split at hck
            · next hf =>
              split at hck
              · next hs => exact ⟨hf, hs⟩
              · omega
            · omega
          refine ⟨t, k2 - k, ?_, ⟨h2.len, hft.1, hft.2⟩, by have := h2.high; omega, ?_⟩
          · rw [takeEnd, hck]
            simp
            omega
          · rw [tabB, h2.mny, show (((0 + n.toNat : Nat)) : Int) = n by omega, hen, h2.bod, ← List.drop_drop, take_two]
            congr 1
            omega
        · left
          have : ((if chk t ≠ 0 then (⟨xs, k2, 0⟩ : RS).fail (chk t) else ⟨xs, k2, 0⟩) : RS).e ≠ 0 := by
            rw [if_pos hck]
            exact fail_ne hck
          exact ⟨this, by rw [takeEnd, if_pos this]⟩

/-! ### all of it -/
def low4 : List Nat := [8388608, 8388608, 8388608, 8388608]
theorem low4_st : St low4 := ⟨rfl, fun x hx => by simp [low4] at hx; subst hx; unfold In; omega⟩
/-- What Put makes of bytes. -/
def pk (b : List Int) : List Int :=
  encInt (b.length : Int) ++ if b = [] then [] else tabB (tabOf b) ++ (wb (enc (tabOf b) low4 0 b).1 ++ (enc (tabOf b) low4 0 b).2)
/-- What is taken of bytes, once it is known how many there are. -/
def tkB (n : Nat) (s : RS) : List Int × Int :=
  if (unp (takeT s).1 n 0 (startF (takeT s).2).1 (startF (takeT s).2).2).2.2.fin ≠ 0 then ([], (unp (takeT s).1 n 0 (startF (takeT s).2).1 (startF (takeT s).2).2).2.2.fin)
  else if (unp (takeT s).1 n 0 (startF (takeT s).2).1 (startF (takeT s).2).2).2.1 ≠ low4 then ([], 4)
  else if tabOf (unp (takeT s).1 n 0 (startF (takeT s).2).1 (startF (takeT s).2).2).1 ≠ (takeT s).1 then ([], 4)
  else ((unp (takeT s).1 n 0 (startF (takeT s).2).1 (startF (takeT s).2).2).1, 0)
def tk (xs : List Int) (most : Int) : List Int × Int :=
  if (RS.count ⟨xs, 0, 0⟩ most).1 = 0 then ([], (RS.count ⟨xs, 0, 0⟩ most).2.fin) else tkB (RS.count ⟨xs, 0, 0⟩ most).1.toNat (RS.count ⟨xs, 0, 0⟩ most).2
theorem fin_zero {s : RS} (h : s.ok) (hf : s.fin = 0) : s.e = 0 ∧ s.k = s.xs.length := by
  unfold RS.fin at hf
  have := h.1
  split at hf
  · omega
  · next h1 => exact ⟨hf, by omega⟩
theorem take_len {xs : List Int} : xs.take xs.length = xs := List.take_of_length_le (Nat.le_refl _)
theorem take_mid (xs : List Int) (k a b : Nat) : (xs.drop k).take a ++ (xs.drop (k + a)).take b = (xs.drop k).take (a + b) := by rw [List.take_add, List.drop_drop]
theorem tk_any {xs ys : List Int} {most : Int} (hx : ∀ x ∈ xs, 0 ≤ x ∧ x < 256) (hmx : xs.length ≤ 1000000) (h : tk xs most = (ys, 0)) : pk ys = xs := by
  rcases int_all (k := 0) hx (Nat.zero_le _) hmx with he | ⟨n, f, hi, hkf, hn0, hn1, hen⟩
  · exfalso
    have hc : RS.count ⟨xs, 0, 0⟩ most = (0, (RS.int ⟨xs, 0, 0⟩).2) ∨ RS.count ⟨xs, 0, 0⟩ most = (0, (RS.int ⟨xs, 0, 0⟩).2.fail 7) := by
      have hz := int_zero he
      rw [RS.count, hz]
      split
      · exact .inr rfl
      · exact .inl (Prod.ext hz rfl)
    have hno : ∀ s : RS, s.e ≠ 0 → s.fin ≠ 0 := fun s hs => by unfold RS.fin; split; decide; exact hs
    rw [tk] at h
    rcases hc with hc | hc
    · rw [hc, if_pos rfl] at h
      obtain ⟨_, h⟩ := Prod.mk.inj h
      exact hno _ he h
    · rw [hc, if_pos rfl] at h
      obtain ⟨_, h⟩ := Prod.mk.inj h
      exact hno _ (by rw [RS.fail, if_neg he]; exact he) h
  · rw [List.drop_zero] at hen
    rw [Nat.zero_add] at hi hkf
    by_cases hm : most < n
    · exfalso
      have hc : RS.count ⟨xs, 0, 0⟩ most = (0, (⟨xs, 1 + f, 0⟩ : RS).fail 7) := by rw [RS.count, hi, if_pos hm]
      rw [tk, hc, if_pos rfl] at h
      obtain ⟨_, h⟩ := Prod.mk.inj h
      unfold RS.fail RS.fin at h
      simp at h
    · have hc : RS.count ⟨xs, 0, 0⟩ most = (n, ⟨xs, 1 + f, 0⟩) := by rw [RS.count, hi, if_neg hm]
      rw [tk, hc] at h
      simp only at h
      by_cases hz : n = 0
      · rw [if_pos hz] at h
        obtain ⟨h1, h2⟩ := Prod.mk.inj h
        subst h1
        have := fin_zero (s := ⟨xs, 1 + f, 0⟩) ⟨hkf, hmx, hx⟩ h2
        simp only [true_and] at this
        rw [pk, if_pos rfl, List.append_nil, List.length_nil, Int.natCast_zero, ← hz, hen, this, take_len]
      · rw [if_neg hz] at h
        unfold tkB at h
        rcases tab_any (k := 1 + f) hx hkf hmx with ⟨h1, h2⟩ | ⟨t, j, h1, ht, h3, h4⟩
        · exfalso
          have hw : ∀ s : RS, s.e ≠ 0 → (startF s).2.e ≠ 0 := by
            intro s hs
            have hwd : ∀ n, (wds n s).2 = s := by
              intro n
              induction n with
              | zero => rfl
              | succ n ih => rw [wds, ih, word_bad hs]
            unfold startF
            split
            · rw [hwd]; exact hs
            · simp only; rw [hwd, RS.fail, if_neg hs]; exact hs
          have h5 := hw _ h1
          rw [unp_bad h5] at h
          simp only at h
          have hno : (startF (takeT ⟨xs, 1 + f, 0⟩).2).2.fin ≠ 0 := by unfold RS.fin; split; decide; exact h5
          rw [if_pos hno] at h
          obtain ⟨_, h⟩ := Prod.mk.inj h
          exact hno h
        · rw [h1] at h
          simp only at h
          rcases start_any hx h3 with ⟨h5, _⟩ | ⟨F, h5, h6, h7, h8⟩
          · exfalso
            rw [unp_bad h5] at h
            simp only at h
            have hno : (startF ⟨xs, 1 + f + j, 0⟩).2.fin ≠ 0 := by unfold RS.fin; split; decide; exact h5
            rw [if_pos hno] at h
            obtain ⟨_, h⟩ := Prod.mk.inj h
            exact hno h
          · rw [h5] at h
            simp only at h
            split at h
            · next hno => exact absurd (Prod.mk.inj h).2 hno
            · next hfz =>
              have hfz : (unp t n.toNat 0 F ⟨xs, 1 + f + j + 16, 0⟩).2.2.fin = 0 := Classical.not_not.1 hfz
              have he0 : (unp t n.toNat 0 F ⟨xs, 1 + f + j + 16, 0⟩).2.2.e = 0 := by
                unfold RS.fin at hfz
                split at hfz
                · omega
                · exact hfz
              obtain ⟨u1, u2, u3, j2, u4, u5, u6⟩ := unp_any ht hx n.toNat 0 _ F h7 h6 he0
              split at h
              · exact absurd (Prod.mk.inj h).2 (by decide)
              · next hl4 =>
                split at h
                · exact absurd (Prod.mk.inj h).2 (by decide)
                · next htb =>
                  obtain ⟨h, _⟩ := Prod.mk.inj h
                  have hl4 := Classical.not_not.1 hl4
                  have htb := Classical.not_not.1 htb
                  rw [u4] at hfz
                  have hfe := fin_zero (s := ⟨xs, 1 + f + j + 16 + j2, 0⟩) ⟨u5, hmx, hx⟩ hfz
                  simp only [true_and] at hfe
                  rw [hl4] at u6
                  rw [h] at u1 u6 htb
                  have hne : ys ≠ [] := by
                    intro e
                    rw [e] at u1
                    simp at u1
                    omega
                  have hlen : ((ys.length : Nat) : Int) = n := by omega
                  rw [pk, if_neg hne, htb, u6, hlen, hen, h4, h8]
                  simp only
                  rw [take_mid, take_mid, take_two]
                  rw [show 1 + f + (j + (16 + j2)) = xs.length by omega, take_len]
theorem tk_back {b : List Int} {most : Int} (hb : ∀ x ∈ b, 0 ≤ x ∧ x < 256) (hl : b.length ≤ 1000000) (hm : (b.length : Int) ≤ most) : tk (pk b) most = (b, 0) := by
  have hi := int_back (all := pk b) (k := 0) (n := (b.length : Int)) (rest := if b = [] then [] else tabB (tabOf b) ++ (wb (enc (tabOf b) low4 0 b).1 ++ (enc (tabOf b) low4 0 b).2)) (by rw [List.drop_zero, pk]) (by omega) (by omega)
  have hc : RS.count ⟨pk b, 0, 0⟩ most = ((b.length : Int), ⟨pk b, 0 + (encInt (b.length : Int)).length, 0⟩) := by
    rw [RS.count, hi, if_neg (by simp only; omega)]
  rw [tk, hc]
  simp only
  by_cases hz : b = []
  · subst hz
    rw [if_pos (by simp)]
    have hlen : (pk []).length = (encInt (((([] : List Int).length : Nat)) : Int)).length := by simp [pk]
    have hf : (⟨pk [], 0 + (encInt (((([] : List Int).length : Nat)) : Int)).length, 0⟩ : RS).fin = 0 := by
      unfold RS.fin
      simp only
      rw [if_neg (by omega)]
    rw [hf]
  · have h0 : 0 < b.length := by cases b with | nil => exact absurd rfl hz | cons _ _ => simp
    rw [if_neg (by omega), Int.toNat_natCast]
    have ht := tabOf_tb hl
    have hh := tabOf_has hl hb
    obtain ⟨e1, e2, e3⟩ := enc_in ht low4_st b 0 hh
    obtain ⟨xs, hxs⟩ : ∃ xs, pk b = xs := ⟨_, rfl⟩
    rw [hxs]
    have hd0 : xs.drop (0 + (encInt (b.length : Int)).length) = tabB (tabOf b) ++ (wb (enc (tabOf b) low4 0 b).1 ++ (enc (tabOf b) low4 0 b).2) := by
      rw [← hxs, pk, if_neg hz, Nat.zero_add, List.drop_left]
    have t1 := tab_back ht hd0
    have hd1 : xs.drop (0 + (encInt (b.length : Int)).length + (tabB (tabOf b)).length) = wb (enc (tabOf b) low4 0 b).1 ++ (enc (tabOf b) low4 0 b).2 := by
      rw [← List.drop_drop, hd0, List.drop_left]
    have t2 := start_back e1 hd1
    have hd2 : xs.drop (0 + (encInt (b.length : Int)).length + (tabB (tabOf b)).length + 16) = (enc (tabOf b) low4 0 b).2 ++ [] := by
      rw [← List.drop_drop, hd1, List.append_nil]
      exact List.drop_left' (by rw [wb_len, e1.1])
    have t3 := unp_back ht low4_st b 0 _ [] hh hd2
    have hend : 0 + (encInt (b.length : Int)).length + (tabB (tabOf b)).length + 16 + (enc (tabOf b) low4 0 b).2.length = xs.length := by
      rw [← hxs, pk, if_neg hz]
      simp only [List.length_append, wb_len, e1.1]
      omega
    unfold tkB
    rw [t1]
    simp only
    rw [t2]
    simp only
    rw [t3]
    simp only
    rw [if_neg (by unfold RS.fin; simp only; rw [hend]; simp), if_neg (by simp), if_neg (by simp)]
theorem pk_len {b : List Int} (hb : ∀ x ∈ b, 0 ≤ x ∧ x < 256) (hl : b.length ≤ 1000000) : (pk b).length ≤ 2600 + 2 * b.length := by
  rw [pk]
  have h1 := (encInt_len (b.length : Int)).2
  by_cases hz : b = []
  · rw [if_pos hz]
    simp only [List.length_append, List.length_nil]
    omega
  · obtain ⟨e1, e2, e3⟩ := enc_in (tabOf_tb hl) low4_st b 0 (tabOf_has hl hb)
    have h2 := tabB_len (tabOf b)
    rw [if_neg hz]
    simp only [List.length_append, wb_len, e1.1]
    omega
theorem pk_byte {b : List Int} (hb : ∀ x ∈ b, 0 ≤ x ∧ x < 256) (hl : b.length ≤ 1000000) : ∀ x ∈ pk b, 0 ≤ x ∧ x < 256 := by
  intro x hx
  rw [pk] at hx
  rcases List.mem_append.1 hx with hx | hx
  · exact encInt_byte (by omega) (by omega) x hx
  · by_cases hz : b = []
    · rw [if_pos hz] at hx; cases hx
    · obtain ⟨e1, e2, e3⟩ := enc_in (tabOf_tb hl) low4_st b 0 (tabOf_has hl hb)
      rw [if_neg hz] at hx
      rcases List.mem_append.1 hx with hx | hx
      · exact tabB_byte (fun y hy => by have := (tabOf_tb hl).fine y hy; omega) x hx
      · rcases List.mem_append.1 hx with hx | hx
        · exact wb_byte _ x hx
        · exact e3 x hx
end Go.Proofs.Ytnanmenoemajfaa.Rp

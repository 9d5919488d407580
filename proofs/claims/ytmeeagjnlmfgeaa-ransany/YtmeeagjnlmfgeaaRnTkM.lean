/- What is taken of any bytes: bytes, no more than may be; of an error nothing: plain data. -/
import Derived.Test.YtmeeagjnlmfgeaaRnTab
namespace Go.Proofs.Ytmeeagjnlmfgeaa.Rp
open Go.Proofs.Ytmeeagjnlmfgeaa.Gen Go.Proofs.Ytmeeagjnlmfgeaa.Wr Go.Proofs.Ytmeeagjnlmfgeaa.Ww Go.Proofs.Ytmeeagjnlmfgeaa.It Go.Proofs.Ytmeeagjnlmfgeaa.Ir Go.Proofs.Ytmeeagjnlmfgeaa.Ib Go.Proofs.Ytmeeagjnlmfgeaa.Fq Go.Proofs.Ytmeeagjnlmfgeaa.Fb

theorem tk_all {xs ys : List Int} {most : Int} (hx : ∀ x ∈ xs, 0 ≤ x ∧ x < 256) (hmx : xs.length ≤ 1000000) (h : tk xs most = (ys, 0)) : pk ys = xs ∧ (∀ c ∈ ys, 0 ≤ c ∧ c < 256) ∧ (ys.length : Int) ≤ most := by
  rcases int_all (k := 0) hx (Nat.zero_le _) hmx with he | ⟨n, f, hi, hkf, hn0, hn1, hen⟩
  · exfalso
    have hc : RS.count ⟨xs, 0, 0⟩ most = (0, (RS.int ⟨xs, 0, 0⟩).2) ∨ RS.count ⟨xs, 0, 0⟩ most = (0, (RS.int ⟨xs, 0, 0⟩).2.fail 7) := by
      have hz := int_zero he
      rw [RS.count, hz]
      split
      · exact .inr rfl
      · exact .inl (Prod.ext hz rfl)
    have hno : ∀ s : RS, s.e ≠ 0 → s.fin ≠ 0 := fun s hs => by unfold RS.fin; split; decide; exact hs
    rw [tk] at h
    rcases hc with hc | hc
    · rw [hc, if_pos rfl] at h
      obtain ⟨_, h⟩ := Prod.mk.inj h
      exact hno _ he h
    · rw [hc, if_pos rfl] at h
      obtain ⟨_, h⟩ := Prod.mk.inj h
      exact hno _ (by rw [RS.fail, if_neg he]; exact he) h
  · rw [List.drop_zero] at hen
    rw [Nat.zero_add] at hi hkf
    by_cases hm : most < n
    · exfalso
      have hc : RS.count ⟨xs, 0, 0⟩ most = (0, (⟨xs, 1 + f, 0⟩ : RS).fail 7) := by rw [RS.count, hi, if_pos hm]
      rw [tk, hc, if_pos rfl] at h
      obtain ⟨_, h⟩ := Prod.mk.inj h
      unfold RS.fail RS.fin at h
      simp at h
    · have hc : RS.count ⟨xs, 0, 0⟩ most = (n, ⟨xs, 1 + f, 0⟩) := by rw [RS.count, hi, if_neg hm]
      rw [tk, hc] at h
      simp only at h
      by_cases hz : n = 0
      · rw [if_pos hz] at h
        obtain ⟨h1, h2⟩ := Prod.mk.inj h
        subst h1
        have := fin_zero (s := ⟨xs, 1 + f, 0⟩) ⟨hkf, hmx, hx⟩ h2
        simp only [true_and] at this
        refine ⟨?_, by simp, by simp; omega⟩
        rw [pk, if_pos rfl, List.append_nil, List.length_nil, Int.natCast_zero, ← hz, hen, this, take_len]
      · rw [if_neg hz] at h
        unfold tkB at h
        rcases tab_any (k := 1 + f) hx hkf hmx with ⟨h1, h2⟩ | ⟨t, j, h1, ht, h3, h4⟩
        · exfalso
          have hw : ∀ s : RS, s.e ≠ 0 → (startF s).2.e ≠ 0 := by
            intro s hs
            have hwd : ∀ n, (wds n s).2 = s := by
              intro n
              induction n with
              | zero => rfl
              | succ n ih => rw [wds, ih, word_bad hs]
            unfold startF
            split
            · rw [hwd]; exact hs
            · simp only; rw [hwd, RS.fail, if_neg hs]; exact hs
          have h5 := hw _ h1
          rw [unp_bad h5] at h
          simp only at h
          have hno : (startF (takeT ⟨xs, 1 + f, 0⟩).2).2.fin ≠ 0 := by unfold RS.fin; split; decide; exact h5
          rw [if_pos hno] at h
          obtain ⟨_, h⟩ := Prod.mk.inj h
          exact hno h
        · rw [h1] at h
          simp only at h
          rcases start_any hx h3 with ⟨h5, _⟩ | ⟨F, h5, h6, h7, h8⟩
          · exfalso
            rw [unp_bad h5] at h
            simp only at h
            have hno : (startF ⟨xs, 1 + f + j, 0⟩).2.fin ≠ 0 := by unfold RS.fin; split; decide; exact h5
            rw [if_pos hno] at h
            obtain ⟨_, h⟩ := Prod.mk.inj h
            exact hno h
          · rw [h5] at h
            simp only at h
            split at h
            · next hno => exact absurd (Prod.mk.inj h).2 hno
            · next hfz =>
              have hfz : (unp t n.toNat 0 F ⟨xs, 1 + f + j + 16, 0⟩).2.2.fin = 0 := Classical.not_not.1 hfz
              have he0 : (unp t n.toNat 0 F ⟨xs, 1 + f + j + 16, 0⟩).2.2.e = 0 := by
                unfold RS.fin at hfz
                split at hfz
                · omega
                · exact hfz
              obtain ⟨u1, u2, u3, j2, u4, u5, u6⟩ := unp_any ht hx n.toNat 0 _ F h7 h6 he0
              split at h
              · exact absurd (Prod.mk.inj h).2 (by decide)
              · next hl4 =>
                split at h
                · exact absurd (Prod.mk.inj h).2 (by decide)
                · next htb =>
                  obtain ⟨h, _⟩ := Prod.mk.inj h
                  have hl4 := Classical.not_not.1 hl4
                  have htb := Classical.not_not.1 htb
                  rw [u4] at hfz
                  have hfe := fin_zero (s := ⟨xs, 1 + f + j + 16 + j2, 0⟩) ⟨u5, hmx, hx⟩ hfz
                  simp only [true_and] at hfe
                  rw [hl4] at u6
                  rw [h] at u1 u3 u6 htb
                  have hne : ys ≠ [] := by
                    intro e
                    rw [e] at u1
                    simp at u1
                    omega
                  have hlen : ((ys.length : Nat) : Int) = n := by omega
                  refine ⟨?_, fun c hc => ⟨(u3 c hc).1, (u3 c hc).2.1⟩, by omega⟩
                  rw [pk, if_neg hne, htb, u6, hlen, hen, h4, h8]
                  simp only
                  rw [take_mid, take_mid, take_two]
                  rw [show 1 + f + (j + (16 + j2)) = xs.length by omega, take_len]
theorem tk_none {xs ys : List Int} {most e : Int} (h : tk xs most = (ys, e)) (he : e ≠ 0) : ys = [] := by
  unfold tk tkB at h
  split at h
  · exact (Prod.mk.inj h).1.symm
  · split at h
    · exact (Prod.mk.inj h).1.symm
    · split at h
      · exact (Prod.mk.inj h).1.symm
      · split at h
        · exact (Prod.mk.inj h).1.symm
        · exact absurd (Prod.mk.inj h).2.symm he
end Go.Proofs.Ytmeeagjnlmfgeaa.Rp

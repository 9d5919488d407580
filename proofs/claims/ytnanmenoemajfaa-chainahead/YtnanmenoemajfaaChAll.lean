/- All of it: how many, the tables, the states, what went out; and back; any bytes: plain data. -/
import Derived.Test.YtnanmenoemajfaaChTb
namespace Go.Proofs.Ytnanmenoemajfaa.Ch
open Go.Proofs.Ytnanmenoemajfaa.Gen Go.Proofs.Ytnanmenoemajfaa.Wr Go.Proofs.Ytnanmenoemajfaa.Ww Go.Proofs.Ytnanmenoemajfaa.It Go.Proofs.Ytnanmenoemajfaa.Ir Go.Proofs.Ytnanmenoemajfaa.Ib Go.Proofs.Ytnanmenoemajfaa.Fq Go.Proofs.Ytnanmenoemajfaa.Fb Go.Proofs.Ytnanmenoemajfaa.Rp

/-- How many steps there are. -/
def nst (n : Nat) : Nat := 4 * ql n 3
theorem nst_le (n : Nat) : nst n ≤ n + 8 := by
  simp only [nst, ql, qo]
  omega
def encA (b : List Int) : List Nat × List Int := encC (tt (tabs b)) b.length b low4 (nst b.length) 0
/-- What Put makes of bytes. -/
def pk (b : List Int) : List Int := encInt (b.length : Int) ++ if b = [] then [] else tbA (tabs b) ++ (wb (encA b).1 ++ (encA b).2)
def SameT (x y : Nat → Option (List Int)) : Prop := ∀ a, a < 256 → x a = y a
instance (x y : Nat → Option (List Int)) : Decidable (SameT x y) := Nat.decidableBallLT 256 fun a _ => x a = y a
/-- What is taken by the tables, once it is known how many there are. -/
def unpA (n : Nat) (s : RS) : List Int × List Nat × RS :=
  if (startF (takeTs s).2).2.e ≠ 0 then ([], [0, 0, 0, 0], (startF (takeTs s).2).2)
  else unpC (takeTs s).1 n (nst n) 0 (List.replicate n 0) (startF (takeTs s).2).1 (startF (takeTs s).2).2
def tkB (n : Nat) (s : RS) : List Int × Int :=
  if (unpA n s).2.2.fin ≠ 0 then ([], (unpA n s).2.2.fin)
  else if (unpA n s).2.1 ≠ low4 then ([], 4)
  else if ¬ SameT (tabs (unpA n s).1) (takeTs s).1 then ([], 4)
  else ((unpA n s).1, 0)
def tk (xs : List Int) (most : Int) : List Int × Int :=
  if (RS.count ⟨xs, 0, 0⟩ most).1 = 0 then ([], (RS.count ⟨xs, 0, 0⟩ most).2.fin) else tkB (RS.count ⟨xs, 0, 0⟩ most).1.toNat (RS.count ⟨xs, 0, 0⟩ most).2
theorem fin_ne {s : RS} (h : s.e ≠ 0) : s.fin ≠ 0 := by
  unfold RS.fin
  split
  · decide
  · exact h
theorem start_bad {s : RS} (h : s.e ≠ 0) : (startF s).2.e ≠ 0 := by
  have hwd : ∀ n, (wds n s).2 = s := by
    intro n
    induction n with
    | zero => rfl
    | succ n ih => rw [wds, ih, word_bad h]
  unfold startF
  split
  · rw [hwd]; exact h
  · simp only; rw [hwd, RS.fail, if_neg h]; exact h
theorem tk_all {xs ys : List Int} {most : Int} (hx : ∀ x ∈ xs, 0 ≤ x ∧ x < 256) (hmx : xs.length ≤ 1000000) (h : tk xs most = (ys, 0)) : pk ys = xs ∧ (∀ c ∈ ys, 0 ≤ c ∧ c < 256) ∧ (ys.length : Int) ≤ most := by
  rcases count_any (k := 0) hx (Nat.zero_le _) hmx most with ⟨h1, h2⟩ | ⟨n, f, hc, hkf, hn0, hn1, hn2, hen⟩
  · exfalso
    rw [tk, if_pos h2] at h
    exact fin_ne h1 (Prod.mk.inj h).2
  · rw [List.drop_zero] at hen
    rw [Nat.zero_add] at hc hkf
    rw [tk, hc] at h
    simp only at h
    by_cases hz : n = 0
    · rw [if_pos hz] at h
      obtain ⟨h1, h2⟩ := Prod.mk.inj h
      subst h1
      have := fin_zero (s := ⟨xs, f, 0⟩) ⟨hkf, hmx, hx⟩ h2
      simp only [true_and] at this
      refine ⟨?_, by simp, by simp; omega⟩
      rw [pk, if_pos rfl, List.append_nil, List.length_nil, Int.natCast_zero, ← hz, hen, this, Rp.take_len]
    · rw [if_neg hz] at h
      obtain ⟨N, rfl⟩ : ∃ N : Nat, n = (N : Int) := ⟨n.toNat, by omega⟩
      rw [Int.toNat_natCast] at h
      obtain ⟨⟨tb, s1⟩, hts⟩ : ∃ q, takeTs ⟨xs, f, 0⟩ = q := ⟨_, rfl⟩
      obtain ⟨⟨F, s2⟩, hst⟩ : ∃ q, startF s1 = q := ⟨_, rfl⟩
      have hU : unpA N ⟨xs, f, 0⟩ = if s2.e ≠ 0 then ([], [0, 0, 0, 0], s2) else unpC tb N (nst N) 0 (List.replicate N 0) F s2 := by
        rw [unpA, hts]
        simp only
        rw [hst]
      by_cases hs2 : s2.e = 0
      · rw [if_neg (by omega)] at hU
        rcases takeTs_any hx hkf hmx with hb | ⟨tb', j, g1, g2, g3, g4, g5⟩
        · exfalso
          rw [hts] at hb
          have := start_bad hb
          rw [hst] at this
          exact this hs2
        · rw [hts] at g1
          obtain ⟨e1, e2⟩ := Prod.mk.inj g1
          subst e1
          subst e2
          rcases start_any hx g2 with ⟨hb, _⟩ | ⟨F', k1, k2, k3, k4⟩
          · exfalso
            rw [hst] at hb
            exact hb hs2
          · rw [hst] at k1
            obtain ⟨e1, e2⟩ := Prod.mk.inj k1
            subst e1
            subst e2
            obtain ⟨⟨B, G, s3⟩, hun⟩ : ∃ q, unpC tb N (nst N) 0 (List.replicate N 0) F ⟨xs, f + j + 16, 0⟩ = q := ⟨_, rfl⟩
            rw [hun] at hU
            unfold tkB at h
            rw [hU, hts] at h
            simp only at h
            split at h
            · next hno => exact absurd (Prod.mk.inj h).2 hno
            · next hfz =>
              have hfz : s3.fin = 0 := Classical.not_not.1 hfz
              have he0 : s3.e = 0 := by
                unfold RS.fin at hfz
                split at hfz
                · omega
                · exact hfz
              obtain ⟨B', G', j2, u1, u2, u3, u4, u5, u6, u7⟩ := unpC_any (tb := tb) g4 (n := N) hx (nst N) 0 (f + j + 16) (List.replicate N 0) F k3 k2 (by simp) (fun x hx => by have := List.eq_of_mem_replicate hx; omega) (by rw [hun]; exact he0)
              rw [hun] at u1
              obtain ⟨e1, e2⟩ := Prod.mk.inj u1
              obtain ⟨e2, e3⟩ := Prod.mk.inj e2
              subst e1
              subst e2
              subst e3
              split at h
              · exact absurd (Prod.mk.inj h).2 (by decide)
              · next hl4 =>
                split at h
                · exact absurd (Prod.mk.inj h).2 (by decide)
                · next htb =>
                  obtain ⟨h, _⟩ := Prod.mk.inj h
                  subst h
                  have hl4 := Classical.not_not.1 hl4
                  have htb := Classical.not_not.1 htb
                  have hfe := fin_zero (s := ⟨xs, f + j + 16 + j2, 0⟩) ⟨u2, hmx, hx⟩ hfz
                  simp only [true_and] at hfe
                  have htt : tabs B = tb := by
                    funext a
                    by_cases ha : a < 256
                    · exact htb a ha
                    · rw [g3 a (by omega)]
                      exact tabL_none (by omega)
                  have hne : B ≠ [] := by
                    intro e
                    rw [e] at u4
                    simp at u4
                    omega
                  refine ⟨?_, u5, by omega⟩
                  rw [hl4] at u7
                  rw [pk, if_neg hne, encA, htt, u4, u7, hen, g5, k4]
                  simp only
                  rw [take_mid, take_mid, take_two]
                  rw [show f + (j + (16 + j2)) = xs.length by omega, Rp.take_len]
      · exfalso
        rw [if_pos hs2] at hU
        unfold tkB at h
        rw [hU] at h
        simp only at h
        rw [if_pos (fin_ne hs2)] at h
        exact fin_ne hs2 (Prod.mk.inj h).2
theorem tk_none {xs ys : List Int} {most e : Int} (h : tk xs most = (ys, e)) (he : e ≠ 0) : ys = [] := by
  unfold tk tkB at h
  split at h
  · exact (Prod.mk.inj h).1.symm
  · split at h
    · exact (Prod.mk.inj h).1.symm
    · split at h
      · exact (Prod.mk.inj h).1.symm
      · split at h
        · exact (Prod.mk.inj h).1.symm
        · exact absurd (Prod.mk.inj h).2.symm he
theorem encA_in {b : List Int} (hb : ∀ x ∈ b, 0 ≤ x ∧ x < 256) (hl : b.length ≤ 1000000) : St (encA b).1 ∧ (encA b).2.length ≤ 2 * nst b.length ∧ ∀ x ∈ (encA b).2, 0 ≤ x ∧ x < 256 :=
  encC_in (tabs_good rfl hl hb).1 low4_st _ _
theorem tabs_ok {b : List Int} (hl : b.length ≤ 1000000) : (∀ a l, tabs b a = some l → Tb l) ∧ ∀ a, 256 ≤ a → tabs b a = none :=
  ⟨tabL_tb (by rw [pa_len _ _ (Nat.le_refl _)]; simpa [qo] using hl), fun _ h => tabL_none h⟩
theorem tk_back {b : List Int} {most : Int} (hb : ∀ x ∈ b, 0 ≤ x ∧ x < 256) (hl : b.length ≤ 1000000) (hm : (b.length : Int) ≤ most) : tk (pk b) most = (b, 0) := by
  have hi := int_back (all := pk b) (k := 0) (n := (b.length : Int)) (rest := if b = [] then [] else tbA (tabs b) ++ (wb (encA b).1 ++ (encA b).2)) (by rw [List.drop_zero, pk]) (by omega) (by omega)
  have hc : RS.count ⟨pk b, 0, 0⟩ most = ((b.length : Int), ⟨pk b, 0 + (encInt (b.length : Int)).length, 0⟩) := by
    rw [RS.count, hi, if_neg (by simp only; omega)]
  rw [tk, hc]
  simp only
  by_cases hz : b = []
  · subst hz
    rw [if_pos (by simp)]
    have hlen : (pk []).length = (encInt (((([] : List Int).length : Nat)) : Int)).length := by simp [pk]
    have hf : (⟨pk [], 0 + (encInt (((([] : List Int).length : Nat)) : Int)).length, 0⟩ : RS).fin = 0 := by
      unfold RS.fin
      simp only
      rw [if_neg (by omega)]
    rw [hf]
  · have h0 : 0 < b.length := by cases b with | nil => exact absurd rfl hz | cons _ _ => simp
    rw [if_neg (by omega), Int.toNat_natCast]
    obtain ⟨e1, e2, e3⟩ := encA_in hb hl
    obtain ⟨t0, t00⟩ := tabs_ok hl
    obtain ⟨gd, fu⟩ := tabs_good (b := b) rfl hl hb
    obtain ⟨xs, hxs⟩ : ∃ xs, pk b = xs := ⟨_, rfl⟩
    rw [hxs]
    have hd0 : xs.drop (0 + (encInt (b.length : Int)).length) = tbA (tabs b) ++ (wb (encA b).1 ++ (encA b).2) := by
      rw [← hxs, pk, if_neg hz, Nat.zero_add, List.drop_left]
    have t1 := takeTs_back t0 t00 hd0
    have hd1 : xs.drop (0 + (encInt (b.length : Int)).length + (tbA (tabs b)).length) = wb (encA b).1 ++ (encA b).2 := by
      rw [← List.drop_drop, hd0, List.drop_left]
    have t2 := start_back e1 hd1
    have hd2 : xs.drop (0 + (encInt (b.length : Int)).length + (tbA (tabs b)).length + 16) = (encA b).2 ++ [] := by
      rw [← List.drop_drop, hd1, List.append_nil]
      exact List.drop_left' (by rw [wb_len, e1.1])
    have t3 := unpC_back gd fu low4_st (nst b.length) 0 _ [] hd2
    rw [part_zero, part_all rfl (by rw [nst]; omega)] at t3
    have hend : 0 + (encInt (b.length : Int)).length + (tbA (tabs b)).length + 16 + (encA b).2.length = xs.length := by
      rw [← hxs, pk, if_neg hz]
      simp only [List.length_append, wb_len, e1.1]
      omega
    have hU : unpA b.length ⟨xs, 0 + (encInt (b.length : Int)).length, 0⟩ = (b, low4, ⟨xs, xs.length, 0⟩) := by
      rw [unpA, t1]
      simp only
      rw [t2]
      simp only
      rw [if_neg (by simp)]
      rw [← hend]
      exact t3
    rw [tkB, hU, t1]
    simp only
    rw [if_neg (by unfold RS.fin; simp), if_neg (by simp), if_neg (by exact fun h => h fun _ _ => rfl)]
theorem pk_len {b : List Int} (hb : ∀ x ∈ b, 0 ≤ x ∧ x < 256) (hl : b.length ≤ 1000000) : (pk b).length ≤ 657000 + 2 * b.length := by
  rw [pk]
  have h1 := (encInt_len (b.length : Int)).2
  by_cases hz : b = []
  · rw [if_pos hz]
    simp only [List.length_append, List.length_nil]
    omega
  · obtain ⟨e1, e2, e3⟩ := encA_in hb hl
    have h2 := tbB_len (tabs b) 256
    have h3 := (encInt_len (tbN (tabs b) 256 : Int)).2
    have h4 := nst_le b.length
    rw [if_neg hz]
    simp only [List.length_append, wb_len, e1.1, tbA]
    omega
theorem pk_byte {b : List Int} (hb : ∀ x ∈ b, 0 ≤ x ∧ x < 256) (hl : b.length ≤ 1000000) : ∀ x ∈ pk b, 0 ≤ x ∧ x < 256 := by
  intro x hx
  rw [pk] at hx
  rcases List.mem_append.1 hx with hx | hx
  · exact encInt_byte (by omega) (by omega) x hx
  · by_cases hz : b = []
    · rw [if_pos hz] at hx; cases hx
    · obtain ⟨e1, e2, e3⟩ := encA_in hb hl
      rw [if_neg hz] at hx
      rcases List.mem_append.1 hx with hx | hx
      · rw [tbA] at hx
        have := tbN_le (tabs b) 256
        rcases List.mem_append.1 hx with hx | hx
        · exact encInt_byte (by omega) (by omega) x hx
        · exact tbB_byte (tabs_ok hl).1 (Nat.le_refl _) x hx
      · rcases List.mem_append.1 hx with hx | hx
        · exact wb_byte _ x hx
        · exact e3 x hx
theorem pk_some (b : List Int) : 1 ≤ (pk b).length := by
  have := (encInt_len (b.length : Int)).1
  rw [pk, List.length_append]
  omega
end Go.Proofs.Ytnanmenoemajfaa.Ch

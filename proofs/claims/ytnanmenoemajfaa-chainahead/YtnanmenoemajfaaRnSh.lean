/- Bytes that are all alike are told in few: plain data. -/
import Derived.Test.YtnanmenoemajfaaRnTab
namespace Go.Proofs.Ytnanmenoemajfaa.Rp
open Go.Proofs.Ytnanmenoemajfaa.Gen Go.Proofs.Ytnanmenoemajfaa.Wr Go.Proofs.Ytnanmenoemajfaa.Ww Go.Proofs.Ytnanmenoemajfaa.It Go.Proofs.Ytnanmenoemajfaa.Ir Go.Proofs.Ytnanmenoemajfaa.Ib Go.Proofs.Ytnanmenoemajfaa.Fq Go.Proofs.Ytnanmenoemajfaa.Fb

theorem zs_set (c : Nat) (hc : c < 256) (x : Int) (i : Nat) : (zs.set c x).getD i 0 = if i = c then x else 0 := by
  rw [getD_set (by rw [zs_len]; exact hc)]
  split
  · rfl
  · exact zs_getD i
theorem rep_sum : ∀ n : Nat, (List.replicate n (0 : Int)).sum = 0
  | 0 => rfl
  | n + 1 => by rw [List.replicate_succ, List.sum_cons, rep_sum n]; rfl
theorem zs_sum : zs.sum = 0 := rep_sum 256
theorem cnt_rep (n c : Nat) (hc : c < 256) : ∀ d, d ≤ n → cnt1 (List.replicate n (c : Int)) d = zs.set c (d : Int)
  | 0, _ => by
    show zs = _
    rw [show zs.set c ((0 : Nat) : Int) = zs from ?_]
    apply List.ext_getElem?
    intro i
    by_cases h : c = i
    · subst h
      rw [List.getElem?_set_self (by rw [zs_len]; exact hc), zs, List.getElem?_replicate, if_pos hc]
      rfl
    · rw [List.getElem?_set_ne h]
  | d + 1, hd => by
    have ih := cnt_rep n c hc d (by omega)
    have hg : (List.replicate n (c : Int)).getD d 0 = (c : Int) := by rw [List.getD, List.getElem?_replicate, if_pos (by omega)]; rfl
    show (cnt1 (List.replicate n (c : Int)) d).set ((List.replicate n (c : Int)).getD d 0).toNat ((cnt1 (List.replicate n (c : Int)) d).getD ((List.replicate n (c : Int)).getD d 0).toNat 0 + 1) = _
    rw [hg, ih, Int.toNat_natCast, zs_set c hc, if_pos rfl, List.set_set]
    simp
theorem tab_rep (n c : Nat) (hc : c < 256) (hn : 0 < n) : tabOf (List.replicate n (c : Int)) = zs.set c 4096 := by
  have h1 : cnt1 (List.replicate n (c : Int)) (List.replicate n (c : Int)).length = zs.set c (n : Int) := by rw [List.length_replicate]; exact cnt_rep n c hc n (Nat.le_refl _)
  have hs : (zs.set c (n : Int)).sum = (n : Int) := by rw [sum_set _ _ _ (by rw [zs_len]; exact hc), zs_sum, zs_getD]; omega
  have hp : pts (zs.set c (n : Int)) = zs.set c 4096 := by
    rw [pts, hs, List.map_set]
    have hz : zs.map (part1 (n : Int)) = zs := by rw [zs, List.map_replicate]; rfl
    rw [hz]
    have : part1 (n : Int) (n : Int) = 4096 := by
      rw [part1, if_pos (by omega), Int.mul_comm, Int.mul_ediv_cancel _ (by omega)]
      rfl
    rw [this]
  have hps : (zs.set c 4096).sum = 4096 := by rw [sum_set _ _ _ (by rw [zs_len]; exact hc), zs_sum, zs_getD]; omega
  rw [tabOf, h1, scal, hp, hps, if_neg (by omega)]
  rfl
theorem enc_short {n : Int} (h0 : 0 ≤ n) (h : n < 2097152) : (encInt n).length ≤ 3 ∧ (n < 16384 → (encInt n).length ≤ 2) ∧ (n < 128 → (encInt n).length ≤ 1) := by
  have hs : n < 268435456 := by omega
  have hf : foll n = if n < 128 then 0 else if n < 16384 then 1 else 2 := by
    unfold foll
    split
    · rfl
    · split
      · rfl
      · first
          | rfl
          | (split <;> first | rfl | omega)
  have hl : (encInt n).length = 1 + foll n := by
    have := (foll_int n).2 hs
    simp only [encInt, if_pos hs]
    rw [It.enc]
    simp [be_len]
    omega
  rw [hl, hf]
  split
  · omega
  · split
    · omega
    · omega
theorem gone_rep {s : Nat} (hs : In s) : gone 4096 s = [] ∧ kept 4096 s = s := by
  rcases ways hs (p := 4096) (by omega) with ⟨_, g, k⟩ | ⟨h, _⟩ | ⟨h, _⟩
  · exact ⟨g, k⟩
  · have := hs.2; omega
  · have := hs.2; omega
theorem enc_rep {t : List Int} (ht : Tb t) {c : Int} (hp : prt t c = 4096) (hc : Has t c) : ∀ (n i : Nat), (Rp.enc t low4 i (List.replicate n c)).2 = [] ∧ St (Rp.enc t low4 i (List.replicate n c)).1
  | 0, i => ⟨rfl, low4_st⟩
  | n + 1, i => by
    obtain ⟨h1, h2⟩ := enc_rep ht hp hc n (i + 1)
    have h3 := (enc_in ht low4_st (List.replicate (n + 1) c) i (fun x hx => by rw [List.eq_of_mem_replicate hx]; exact hc)).1
    refine ⟨?_, h3⟩
    rw [List.replicate_succ, Rp.enc]
    simp only
    rw [hp, (gone_rep (h2.at_ i)).1, h1]
    rfl
theorem bod_one (c : Nat) (hc : c < 256) : bod (zs.set c 4096) 256 = encInt (c : Int) ++ encInt 4096 ∧ mny (zs.set c 4096) 256 = 1 := by
  have h0 := stay (l := zs.set c 4096) (d := 0) (e := c) (by omega) (fun i _ hi => by rw [zs_set c hc, if_neg (by omega)]; omega)
  have hg : (zs.set c 4096).getD c 0 = 4096 := by rw [zs_set c hc, if_pos rfl]
  have h1 := stay (l := zs.set c 4096) (d := c + 1) (e := 256) (by omega) (fun i hi _ => by rw [zs_set c hc, if_neg (by omega)]; omega)
  rw [h1.1, h1.2.2, bod, mny, hg, if_pos (by omega), if_pos (by omega), h0.1, h0.2.1, h0.2.2]
  have z1 : bod (zs.set c 4096) 0 = [] := by rw [bod]
  have z2 : nxt (zs.set c 4096) 0 = 0 := by rw [nxt]
  have z3 : mny (zs.set c 4096) 0 = 0 := by rw [mny]
  rw [z1, z2, z3, Nat.sub_zero, List.nil_append]
  exact ⟨rfl, Nat.zero_add 1⟩
theorem pk_rep (n c : Nat) (hc : c < 256) (hn : n ≤ 65535) : (pk (List.replicate n (c : Int))).length ≤ 30 := by
  by_cases h0 : n = 0
  · subst h0
    show (pk []).length ≤ 30
    rw [pk, if_pos rfl, List.append_nil]
    have := (encInt_len ((([] : List Int).length : Nat) : Int)).2
    omega
  · have hne : List.replicate n (c : Int) ≠ [] := by simp [h0]
    have ht := tabOf_tb (b := List.replicate n (c : Int)) (by simp; omega)
    have hb : ∀ x ∈ List.replicate n (c : Int), 0 ≤ x ∧ x < 256 := fun x hx => by rw [List.eq_of_mem_replicate hx]; omega
    have hh := tabOf_has (b := List.replicate n (c : Int)) (by simp; omega) hb (c : Int) (by simp [h0])
    have htr := tab_rep n c hc (by omega)
    have hp : prt (tabOf (List.replicate n (c : Int))) (c : Int) = 4096 := by rw [htr, prt, Int.toNat_natCast, zs_set c hc, if_pos rfl]; rfl
    obtain ⟨e1, e2⟩ := enc_rep ht hp hh n 0
    have hw := wb_len (Rp.enc (tabOf (List.replicate n (c : Int))) low4 0 (List.replicate n (c : Int))).1
    rw [e2.1] at hw
    obtain ⟨b1, b2⟩ := bod_one c hc
    have l1 := (enc_short (n := (n : Int)) (by omega) (by omega)).1
    have l2 := (enc_short (n := (c : Int)) (by omega) (by omega)).2.1 (by omega)
    have l3 := (enc_short (n := 4096) (by omega) (by omega)).2.1 (by omega)
    have l4 := (enc_short (n := ((1 : Nat) : Int)) (by omega) (by omega)).2.2 (by omega)
    rw [pk, if_neg hne, e1]
    simp only [List.length_append, List.length_replicate, List.length_nil, hw]
    have htb : (tabB (tabOf (List.replicate n (c : Int)))).length ≤ 5 := by
      rw [htr, tabB, b1, b2]
      simp only [List.length_append]
      omega
    omega
end Go.Proofs.Ytnanmenoemajfaa.Rp

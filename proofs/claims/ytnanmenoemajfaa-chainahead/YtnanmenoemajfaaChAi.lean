/- Bytes each of which is told by the one ahead: how long what is packed is. Plain data. -/
import Derived.Test.YtnanmenoemajfaaChAh
namespace Go.Proofs.Ytnanmenoemajfaa.Ch
open Go.Proofs.Ytnanmenoemajfaa.Gen Go.Proofs.Ytnanmenoemajfaa.Wr Go.Proofs.Ytnanmenoemajfaa.Ww Go.Proofs.Ytnanmenoemajfaa.It Go.Proofs.Ytnanmenoemajfaa.Ir Go.Proofs.Ytnanmenoemajfaa.Ib Go.Proofs.Ytnanmenoemajfaa.Fq Go.Proofs.Ytnanmenoemajfaa.Fb Go.Proofs.Ytnanmenoemajfaa.Rp

/-- Steps at which a state may grow. -/
def ind (k n : Nat) (b : List Int) (t : Nat) : Nat := if Val n t ∧ t / 4 ≠ 0 ∧ cx n b t = 0 ∧ k ≠ 7 then 1 else 0
def dd (k n : Nat) (b : List Int) : Nat → Nat → Nat
  | 0, _ => 0
  | m + 1, t => ind k n b t + dd k n b m (t + 1)
theorem ind_le (k n : Nat) (b : List Int) (t : Nat) : ind k n b t ≤ 1 := by unfold ind; split <;> omega
theorem dd_mono (k n : Nat) (b : List Int) : ∀ (m e t : Nat), dd k n b m t ≤ dd k n b (m + e) t
  | 0, e, t => by rw [dd]; exact Nat.zero_le _
  | m + 1, e, t => by
    have := dd_mono k n b m e (t + 1)
    rw [show m + 1 + e = (m + e) + 1 by omega, dd, dd]
    omega
section
variable {n k : Nat} {b : List Int}
theorem ind_two (hk : 4 ≤ k) (hk2 : k ≤ 15) (hn : b.length = n) (h : Ahd k b) (t : Nat) : ind k n b t + ind k n b (t + 4) ≤ 1 := by
  have h1 := ind_le k n b t
  have h2 := ind_le k n b (t + 4)
  by_cases ha : Val n t ∧ t / 4 ≠ 0 ∧ cx n b t = 0 ∧ k ≠ 7
  · by_cases hb : Val n (t + 4) ∧ (t + 4) / 4 ≠ 0 ∧ cx n b (t + 4) = 0 ∧ k ≠ 7
    · exfalso
      obtain ⟨a1, a2, a3, a4⟩ := ha
      obtain ⟨b1, b2, b3, _⟩ := hb
      rcases ahd_step hk hn h a1 with ⟨h0, _⟩ | ⟨_, x, g1, g2, g3⟩
      · exact a2 h0
      · obtain rfl : x = 0 := by omega
        obtain ⟨p1, p2, p3, p4⟩ := pos_ahead b1 b2
        rw [show t + 4 - 4 = t by omega] at p2
        rw [cx, if_neg b2, ← p2, g3, Nat.zero_add] at b3
        have : 7 % k ≠ 0 := by
          have hk4 : k = 4 ∨ k = 5 ∨ k = 6 ∨ k = 8 ∨ k = 9 ∨ k = 10 ∨ k = 11 ∨ k = 12 ∨ k = 13 ∨ k = 14 ∨ k = 15 := by omega
          rcases hk4 with rfl | rfl | rfl | rfl | rfl | rfl | rfl | rfl | rfl | rfl | rfl <;> decide
        omega
    · have : ind k n b (t + 4) = 0 := by rw [ind, if_neg hb]
      omega
  · have : ind k n b t = 0 := by rw [ind, if_neg ha]
    omega
theorem dd_eight (hk : 4 ≤ k) (hk2 : k ≤ 15) (hn : b.length = n) (h : Ahd k b) : ∀ q t, dd k n b (8 * q) t ≤ 4 * q
  | 0, t => by simp [dd]
  | q + 1, t => by
    have ih := dd_eight hk hk2 hn h q (t + 8)
    have h0 := ind_two hk hk2 hn h t
    have h1 := ind_two hk hk2 hn h (t + 1)
    have h2 := ind_two hk hk2 hn h (t + 2)
    have h3 := ind_two hk hk2 hn h (t + 3)
    rw [show 8 * (q + 1) = 8 * q + 1 + 1 + 1 + 1 + 1 + 1 + 1 + 1 by omega]
    simp only [dd, Nat.add_assoc, Nat.reduceAdd] at h0 h1 h2 h3 ih ⊢
    omega
/-- What a step that is no quarter's first does to its state. -/
theorem ahd_push (hk : 4 ≤ k) (hk2 : k ≤ 15) (hn : b.length = n) (hn1 : 3000 ≤ n) (hn2 : n ≤ 4000) (h : Ahd k b) {t s : Nat} (hv : Val n t) (h0 : t / 4 ≠ 0) (hs : In s) :
    8 * (gone (prt (tt (tabs b) (cx n b t).toNat) (b.getD (pos n t) 0)) s).length + Nat.log2 (push (stt (tt (tabs b) (cx n b t).toNat) (b.getD (pos n t) 0)) (prt (tt (tabs b) (cx n b t).toNat) (b.getD (pos n t) 0)) s) ≤ ind k n b t + Nat.log2 s := by
  have hb := ahd_byte hk hk2 h
  obtain ⟨g1, g2⟩ := (tabs_good hn (by omega) hb).1 t hv
  obtain ⟨h4, h5, _⟩ := has_part g1 g2
  have hsame : ∀ c : Nat, c < 256 → tt (tabs b) (cx n b t).toNat = zs.set c 4096 → b.getD (pos n t) 0 = (c : Int) → prt (tt (tabs b) (cx n b t).toNat) (b.getD (pos n t) 0) = 4096 := by
    intro c hc e1 e2
    rw [e1, e2, prt, Int.toNat_natCast, zs_set _ hc, if_pos rfl]
    rfl
  rcases ahd_step hk hn h hv with ⟨h1, _⟩ | ⟨_, x, x1, x2, x3⟩
  · exact absurd h1 h0
  · have hm := Nat.mod_lt (x + 7) (show 0 < k by omega)
    by_cases hx : x = 0
    · subst hx
      rw [Nat.zero_add] at x3
      obtain ⟨l, hl1, hl2, hl3⟩ := ahd_first hk hk2 hn hn1 hn2 h
      have htt : tt (tabs b) (cx n b t).toNat = l := by rw [x2, Int.toNat_natCast, Nat.zero_mul, tt, hl1]; rfl
      by_cases h7 : k = 7
      · subst h7
        have hall : ∀ t, Val n t → b.getD (pos n t) 0 = 0 := by
          intro t hv
          rw [h _ (by have := pos_lt hv; omega), Nat.mul_mod_left]
          rfl
        have hr := row_one (L := pa n b 4) (a := 0) (c := 0) (by omega) (fun d hd hm => by
          obtain ⟨t, hv, _, g2⟩ := mem_key hn hb (a := 0) (by omega) hd hm
          rw [hall t hv] at g2
          omega)
        have hz : l = zs.set 0 4096 := by
          rw [tabs, hn, tabL] at hl1
          split at hl1
          · cases hl1
          · next hne =>
            injection hl1 with hl1
            rw [hr] at hl1
            have hs : (rowOf (pa n b 4) 0).sum ≠ 0 := fun e => hne (.inr e)
            obtain ⟨c, hc, hm⟩ := rowOf_hit hs
            obtain ⟨t', hv', _, g2⟩ := mem_key hn hb (a := 0) (by omega) hc hm
            rw [hall t' hv'] at g2
            obtain rfl : c = 0 := by omega
            rw [scal_one 0 (by omega) (by have := List.count_pos_iff.2 hm; omega)] at hl1
            exact hl1.symm
        have hp := hsame 0 (by omega) (htt.trans hz) (hall t hv)
        rw [hp] at h5 ⊢
        obtain ⟨q1, q2⟩ := push_same hs h5
        rw [q1, q2]
        omega
      · have hi : ind k n b t = 1 := by rw [ind, if_pos ⟨hv, h0, by rw [x2]; rfl, h7⟩]
        rw [hi]
        refine push_lg hs ?_ h5
        rw [htt, x3]
        exact hl3
    · have htb := ahd_tab hk hk2 hn h (a := x * 3) (by omega) (by omega)
      have hz : tt (tabs b) (cx n b t).toNat = zs.set ((x + 7) % k * 3) 4096 := by
        rw [x2, Int.toNat_natCast, tt]
        rcases htb with he | ⟨y, _, hy, he⟩
        · obtain ⟨l, hl, _⟩ := tabs_step hn (by omega) hb hv
          rw [x2, Int.toNat_natCast, he] at hl
          cases hl
        · obtain rfl : x = y := by omega
          rw [he]; rfl
      have hp := hsame ((x + 7) % k * 3) (by omega) hz x3
      rw [hp] at h5 ⊢
      obtain ⟨q1, q2⟩ := push_same hs h5
      rw [q1, q2]
      omega
theorem ahd_psi (hk : 4 ≤ k) (hk2 : k ≤ 15) (hn : b.length = n) (hn1 : 3000 ≤ n) (hn2 : n ≤ 4000) (h : Ahd k b) : ∀ (m t : Nat), 4 ≤ t → 8 * (encC (tt (tabs b)) n b low4 m t).2.length + psi (encC (tt (tabs b)) n b low4 m t).1 ≤ dd k n b m t + 92
  | 0, t, _ => by
    have : psi (encC (tt (tabs b)) n b low4 0 t).1 = 92 := psi_low
    have h2 : (encC (tt (tabs b)) n b low4 0 t).2.length = 0 := rfl
    rw [this, h2]
    omega
  | m + 1, t, ht => by
    have hb := ahd_byte hk hk2 h
    have hg := (tabs_good hn (by omega) hb).1
    have ih := ahd_psi hk hk2 hn hn1 hn2 h m (t + 1) (by omega)
    rw [dd]
    by_cases hv : Val n t
    · have hst := (encC_in hg low4_st m (t + 1)).1
      have hin := hst.at_ t
      have hp := ahd_push hk hk2 hn hn1 hn2 h hv (by omega) hin
      have hset := psi_set hst.1 (i := t % 4) (x := push (stt (tt (tabs b) (cx n b t).toNat) (b.getD (pos n t) 0)) (prt (tt (tabs b) (cx n b t).toNat) (b.getD (pos n t) 0)) ((encC (tt (tabs b)) n b low4 m (t + 1)).1.getD (t % 4) 0)) (by omega)
      rw [encC_next hv rfl rfl rfl]
      simp only [List.length_append, List.length_reverse]
      omega
    · rw [encC_skip hv]
      omega
theorem ahd_out (hk : 4 ≤ k) (hk2 : k ≤ 15) (hn : b.length = n) (hn1 : 3000 ≤ n) (hn2 : n ≤ 4000) (h : Ahd k b) : ∀ (m t : Nat), 8 * (encC (tt (tabs b)) n b low4 m t).2.length ≤ dd k n b m t + 16 * (4 - t)
  | 0, t => by
    have h2 : (encC (tt (tabs b)) n b low4 0 t).2.length = 0 := rfl
    rw [h2]
    omega
  | m + 1, t => by
    have hb := ahd_byte hk hk2 h
    have hg := (tabs_good hn (by omega) hb).1
    by_cases ht : 4 ≤ t
    · have h1 := ahd_psi hk hk2 hn hn1 hn2 h (m + 1) t ht
      have h2 := psi_in (encC_in hg low4_st (m + 1) t).1
      omega
    · have ih := ahd_out hk hk2 hn hn1 hn2 h m (t + 1)
      rw [dd]
      by_cases hv : Val n t
      · have hin := (encC_in hg low4_st m (t + 1)).1.at_ t
        obtain ⟨g1, g2⟩ := hg t hv
        obtain ⟨h7, _⟩ := has_part g1 g2
        have hgl := gone_len hin h7
        rw [encC_next hv rfl rfl rfl]
        simp only [List.length_append, List.length_reverse]
        omega
      · rw [encC_skip hv]
        omega
end
theorem tbB_three {tb : Nat → Option (List Int)} {k : Nat} (h0 : ∃ l, tb 0 = some l ∧ (tabB l).length ≤ 22) (h1 : ∀ a, 1 ≤ a → a < 256 → tb a = none ∨ ∃ x l, x < k ∧ a = x * 3 ∧ tb a = some l ∧ (tabB l).length ≤ 5) (d : Nat) :
    d ≤ 256 → (tbB tb d).length ≤ 23 + 6 * (min ((d - 1) / 3) (k - 1)) := by
  induction d with
  | zero => intro _; exact Nat.zero_le _
  | succ d ih =>
    intro hd
    have ih := ih (by omega)
    by_cases hz : d = 0
    · have h2 := tbB_next tb 22 d 0 (by rw [hz]; exact Nat.le_refl 0) (by rw [hz]; exact .inr h0)
      omega
    · rcases h1 d (by omega) (by omega) with he | ⟨x, l, hx, hd3, he, hl⟩
      · have h2 := tbB_skip (tb := tb) (d := d) (e := d + 1) (by omega) (fun a h3 h4 => (show a = d by omega) ▸ he)
        rw [h2.1]
        omega
      · have h2 := tbB_next tb 5 d _ ih (.inr ⟨l, he, hl⟩)
        have e1 : (d - 1) / 3 = x - 1 := by omega
        have e2 : (d + 1 - 1) / 3 = x := by omega
        rw [e1] at h2
        rw [e2]
        omega
theorem pk_ahead {n k : Nat} {b : List Int} (hk : 4 ≤ k) (hk2 : k ≤ 15) (hn : b.length = n) (hn1 : 3000 ≤ n) (hn2 : n ≤ 4000) (h : Ahd k b) : (pk b).length ≤ 400 := by
  have hb := ahd_byte hk hk2 h
  have hne : b ≠ [] := by rintro rfl; simp at hn; omega
  have h1 := (enc_short (n := (n : Int)) (by omega) (by omega)).2.1 (by omega)
  obtain ⟨l0, f1, f2, _⟩ := ahd_first hk hk2 hn hn1 hn2 h
  have h2 := tbB_three (tb := tabs b) (k := k) ⟨l0, f1, f2⟩ (fun a ha ha2 => by
    rcases ahd_tab hk hk2 hn h ha ha2 with he | ⟨x, hx, e, he⟩
    · exact .inl he
    · exact .inr ⟨x, _, hx, e, he, tabB_one (by have := Nat.mod_lt (x + 7) (show 0 < k by omega); omega)⟩) 256 (Nat.le_refl _)
  have h3 := tbN_le (tabs b) 256
  have h4 := (enc_short (n := ((tbN (tabs b) 256 : Nat) : Int)) (by omega) (by omega)).2.1 (by omega)
  have h5 := ahd_out hk hk2 hn hn1 hn2 h (nst n) 0
  have h6 := (encC_in (tabs_good hn (by omega) hb).1 low4_st (nst n) 0).1
  have h7 := wb_len (encC (tt (tabs b)) n b low4 (nst n) 0).1
  have h8 := dd_eight hk hk2 hn h 501 0
  have h9 := dd_mono k n b (nst n) (8 * 501 - nst n) 0
  have h10 := nst_le n
  rw [show nst n + (8 * 501 - nst n) = 8 * 501 by omega] at h9
  rw [h6.1] at h7
  have hk14 : min ((256 - 1) / 3) (k - 1) ≤ 14 := by omega
  rw [pk, if_neg hne, encA, tbA, hn]
  simp only [List.length_append]
  omega
end Go.Proofs.Ytnanmenoemajfaa.Ch

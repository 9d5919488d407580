/- itf's numbers, plain data alone: what is put as a number is taken as it; what is taken as one is its bytes, or there is an error. -/
import Derived.Test.YtgaofnmgdefdcaaGreatDoorItfRd
import Derived.Test.YtgaofnmgdefdcaaGreatDoorWireWr
namespace Go.Proofs.YtgaofnmgdefdcaaGreatDoor.Ib
open Go.RowKit Go.Proofs.YtgaofnmgdefdcaaGreatDoor.Gen Go.Proofs.YtgaofnmgdefdcaaGreatDoor.Wr Go.Proofs.YtgaofnmgdefdcaaGreatDoor.It Go.Proofs.YtgaofnmgdefdcaaGreatDoor.Ir

theorem drop_snoc {xs : List Int} {k j : Nat} {x : Int} (h : xs[k + j]? = some x) : (xs.drop k).take (j + 1) = (xs.drop k).take j ++ [x] := by
  rw [List.take_add_one, List.getElem?_drop, h]
  rfl
/-- The bytes that follow are there. -/
theorem gath_yes (xs : List Int) (k : Nat) (n : Int) : ∀ j, k + j ≤ xs.length → RS.gath ⟨xs, k, 0⟩ n j = (val n ((xs.drop k).take j), ⟨xs, k + j, 0⟩)
  | 0, _ => by simp [RS.gath, val]
  | j + 1, h => by
    have hj : k + j < xs.length := by omega
    have hx : xs[k + j]? = some xs[k + j] := List.getElem?_eq_getElem hj
    rw [RS.gath, gath_yes xs k n j (by omega)]
    simp only [Ww.byte_at hx]
    rw [drop_snoc hx, val_snoc]
    rfl
theorem byte_bad {s : RS} (h : s.e ≠ 0) : s.byte = (0, s) := by simp [RS.byte, h]
theorem gath_bad {s : RS} (h : s.e ≠ 0) (n : Int) : ∀ j, (RS.gath s n j).2 = s
  | 0 => rfl
  | j + 1 => by rw [RS.gath, gath_bad h n j, byte_bad h]
/-- They are not. -/
theorem gath_no (xs : List Int) (k : Nat) (n : Int) (hk : k ≤ xs.length) : ∀ j, xs.length < k + j → (RS.gath ⟨xs, k, 0⟩ n j).2 = ⟨xs, xs.length, 3⟩
  | 0, h => by omega
  | j + 1, h => by
    by_cases hj : k + j ≤ xs.length
    · have he : k + j = xs.length := by omega
      rw [RS.gath, gath_yes xs k n j hj]
      simp [RS.byte, he]
    · rw [RS.gath, gath_no xs k n hk j (by omega)]
      simp [RS.byte]
theorem num_yes {xs : List Int} {k : Nat} {b : Int} (hb : xs[k]? = some b) {most f : Nat} (hf : min (lead b) most = f) (hl : k + 1 + f ≤ xs.length) :
    RS.num ⟨xs, k, 0⟩ most = (val (b % 2 ^ (8 - f)) ((xs.drop (k + 1)).take f), f, ⟨xs, k + 1 + f, 0⟩) := by
  unfold RS.num
  simp only [Ww.byte_at hb, hf]
  rw [gath_yes xs (k + 1) _ f hl]
theorem num_no {xs : List Int} {k : Nat} {b : Int} (hb : xs[k]? = some b) {most f : Nat} (hf : min (lead b) most = f) (hl : xs.length < k + 1 + f) :
    (RS.num ⟨xs, k, 0⟩ most).2 = (f, ⟨xs, xs.length, 3⟩) := by
  have hk := (List.getElem?_eq_some_iff.1 hb).1
  unfold RS.num
  simp only [Ww.byte_at hb, hf]
  rw [gath_no xs (k + 1) _ hk f hl]

theorem lead_fin : ∀ (f : Fin 8) (a : Fin 128), a.val < 2 ^ (7 - f.val) → lead (onesOf f.val + (a.val : Int)) = f.val := by decide +kernel
theorem lead_of {f : Nat} {a : Int} (hf : f ≤ 7) (h0 : 0 ≤ a) (h1 : a < 2 ^ (7 - f)) : lead (onesOf f + a) = f := by
  obtain ⟨a, rfl⟩ := Int.eq_ofNat_of_zero_le h0
  have hc : (2 : Int) ^ (7 - f) = ((2 ^ (7 - f) : Nat) : Int) := by simp
  rw [hc] at h1
  have h2 : a < 2 ^ (7 - f) := by omega
  have h3 : 2 ^ (7 - f) ≤ 2 ^ 7 := Nat.pow_le_pow_right (by decide) (by omega)
  exact lead_fin ⟨f, by omega⟩ ⟨a, by omega⟩ h2
theorem mod_fin : ∀ (f : Fin 9) (a : Fin 256), a.val < 2 ^ (8 - f.val) → (onesOf f.val + (a.val : Int)) % 2 ^ (8 - f.val) = a.val ∧ f.val ≤ lead (onesOf f.val + (a.val : Int)) ∧ 0 ≤ onesOf f.val + (a.val : Int) ∧ onesOf f.val + (a.val : Int) < 256 := by decide +kernel
theorem mod_of {f : Nat} {a : Int} (hf : f ≤ 8) (h0 : 0 ≤ a) (h1 : a < 2 ^ (8 - f)) : (onesOf f + a) % 2 ^ (8 - f) = a ∧ f ≤ lead (onesOf f + a) ∧ 0 ≤ onesOf f + a ∧ onesOf f + a < 256 := by
  obtain ⟨a, rfl⟩ := Int.eq_ofNat_of_zero_le h0
  have hc : (2 : Int) ^ (8 - f) = ((2 ^ (8 - f) : Nat) : Int) := by simp
  rw [hc] at h1
  have h2 : a < 2 ^ (8 - f) := by omega
  have h3 : 2 ^ (8 - f) ≤ 2 ^ 8 := Nat.pow_le_pow_right (by decide) (by omega)
  exact mod_fin ⟨f, by omega⟩ ⟨a, by omega⟩ h2
theorem back_fin : ∀ (f : Fin 9) (b : Fin 256), f.val ≤ lead (b.val : Int) → onesOf f.val + (b.val : Int) % 2 ^ (8 - f.val) = b.val ∧ (lead (b.val : Int) = f.val → f.val ≤ 7 → (b.val : Int) % 2 ^ (8 - f.val) < 2 ^ (7 - f.val)) := by decide +kernel
theorem back_of {f : Nat} {b : Int} (h0 : 0 ≤ b) (h1 : b < 256) (hf : f ≤ 8) (hl : f ≤ lead b) : onesOf f + b % 2 ^ (8 - f) = b ∧ (lead b = f → f ≤ 7 → b % 2 ^ (8 - f) < 2 ^ (7 - f)) := by
  obtain ⟨b, rfl⟩ := Int.eq_ofNat_of_zero_le h0
  exact back_fin ⟨f, by omega⟩ ⟨b, by omega⟩ hl
theorem lead_le (b : Int) : lead b ≤ 8 := by
  unfold lead
  repeat' split
  all_goals omega

/-- Of a number that needs f bytes behind the first one, less than 2^(7-f) is left for it. -/
theorem foll_p (n : Int) (h0 : 0 ≤ n) (h1 : n < 18446744073709551616) : (foll n ≤ 7 → n / 256 ^ foll n < 2 ^ (7 - foll n)) ∧ (foll n = 8 → n / 256 ^ foll n = 0) := by
  unfold foll
  repeat' split
  all_goals simp only [Nat.reduceSub, Nat.sub_zero, Nat.sub_self, Int.reducePow, Int.pow_zero]
  all_goals omega
theorem foll_lead (n : Int) (h0 : 0 ≤ n) (h1 : n < 18446744073709551616) : lead (onesOf (foll n) + n / 256 ^ foll n) = foll n := by
  obtain ⟨h2, h3⟩ := foll_p n h0 h1
  have hn : 0 ≤ n / 256 ^ foll n := Int.ediv_nonneg h0 (Int.pow_nonneg (by decide))
  have h8 := foll_le n
  rcases Nat.lt_or_ge (foll n) 8 with h | h
  · exact lead_of (by omega) hn (h2 (by omega))
  · have he : foll n = 8 := by omega
    rw [h3 he, he]
    decide
theorem foll_up {n : Int} {f : Nat} (hf : f ≤ 7) (h : n / 256 ^ f < 2 ^ (7 - f)) : foll n ≤ f := by
  have hc : f = 0 ∨ f = 1 ∨ f = 2 ∨ f = 3 ∨ f = 4 ∨ f = 5 ∨ f = 6 ∨ f = 7 := by omega
  rcases hc with rfl | rfl | rfl | rfl | rfl | rfl | rfl | rfl
  all_goals simp only [Nat.reduceSub, Nat.sub_zero, Nat.sub_self, Int.reducePow, Int.pow_zero] at h
  all_goals
    unfold foll
    repeat' split
    all_goals omega

theorem at_drop {all l : List Int} {k : Nat} (h : all.drop k = l) (i : Nat) : all[k + i]? = l[i]? := by rw [← h, List.getElem?_drop]
/-- A number's bytes, from place k on. -/
theorem num_enc {all rest : List Int} {k : Nat} {n : Int} {f most : Nat} (h : all.drop k = enc n f ++ rest) (h0 : 0 ≤ n) (hf : f ≤ 8) (hq : n / 256 ^ f < 2 ^ (8 - f)) (hm : min (lead (onesOf f + n / 256 ^ f)) most = f) :
    RS.num ⟨all, k, 0⟩ most = (n, f, ⟨all, k + 1 + f, 0⟩) := by
  have hn : 0 ≤ n / 256 ^ f := Int.ediv_nonneg h0 (Int.pow_nonneg (by decide))
  have hb : all[k]? = some (onesOf f + n / 256 ^ f) := at_drop h 0
  have hlen : k + 1 + f ≤ all.length := by
    have := congrArg List.length h
    simp [enc_len] at this
    omega
  have hd : (all.drop (k + 1)).take f = be n f := by
    rw [← List.drop_drop, h]
    simp [enc, be_len]
  rw [num_yes hb hm hlen, hd, (mod_of hf hn hq).1, val_be]
theorem long_back {all rest : List Int} {k : Nat} {n : Int} (h : all.drop k = encLong n ++ rest) (h0 : 0 ≤ n) (h1 : n < 18446744073709551616) : RS.long ⟨all, k, 0⟩ = (n, ⟨all, k + (encLong n).length, 0⟩) := by
  have hb := num_enc (most := 8) h h0 (foll_le n) (foll_q n h0 h1) (by rw [foll_lead n h0 h1]; have := foll_le n; omega)
  unfold RS.long
  rw [hb]
  simp [RS.needs, encLong, enc_len]
  omega
theorem int_back {all rest : List Int} {k : Nat} {n : Int} (h : all.drop k = encInt n ++ rest) (h0 : 0 ≤ n) (h1 : n < 4294967296) : RS.int ⟨all, k, 0⟩ = (n, ⟨all, k + (encInt n).length, 0⟩) := by
  unfold RS.int
  by_cases hs : n < 268435456
  · have hf := (foll_int n).2 hs
    rw [show encInt n = enc n (foll n) by simp [encInt, hs]] at h ⊢
    rw [num_enc (most := 4) h h0 (foll_le n) (foll_q n h0 (by omega)) (by rw [foll_lead n h0 (by omega)]; omega)]
    simp [five, RS.needs, hf, enc_len]
    omega
  · have hf : ¬ foll n < 4 := by have := foll_int n; omega
    rw [show encInt n = enc (n / 16 * 256 + n % 16) 4 by simp [encInt, hs]] at h ⊢
    have hq : (n / 16 * 256 + n % 16) / 256 ^ 4 < 2 ^ (8 - 4) := by simp; omega
    have hl := (mod_of (f := 4) (by omega) (Int.ediv_nonneg (show 0 ≤ n / 16 * 256 + n % 16 by omega) (by decide)) hq).2.1
    rw [num_enc (most := 4) h (by omega) (by omega) hq (by omega)]
    have e1 : (n / 16 * 256 + n % 16) % 256 = n % 16 := by omega
    have e2 : (n / 16 * 256 + n % 16) / 256 = n / 16 := by omega
    have e3 : n / 16 * 16 + n % 16 = n := by omega
    simp only [five, e1, e2, e3]
    rw [if_neg (by omega), if_neg (by omega)]
    simp [RS.needs, hf, enc_len]

/-! ### how long, and that they are bytes -/
theorem enc_byte {n : Int} {f : Nat} (h0 : 0 ≤ n) (hf : f ≤ 8) (hq : n / 256 ^ f < 2 ^ (8 - f)) : ∀ x ∈ enc n f, 0 ≤ x ∧ x < 256 := by
  intro x hx
  simp only [enc, List.mem_cons] at hx
  rcases hx with rfl | hx
  · exact (mod_of hf (Int.ediv_nonneg h0 (Int.pow_nonneg (by decide))) hq).2.2
  · exact be_byte f n x hx
theorem encLong_len (n : Int) : 1 ≤ (encLong n).length ∧ (encLong n).length ≤ 9 := by
  have := foll_le n
  simp only [encLong, enc_len]
  omega
theorem encInt_len (n : Int) : 1 ≤ (encInt n).length ∧ (encInt n).length ≤ 5 := by
  unfold encInt
  split
  · have := (foll_int n).2 (by assumption)
    simp only [enc_len]
    omega
  · simp only [enc_len]
    omega
theorem encLong_byte {n : Int} (h0 : 0 ≤ n) (h1 : n < 18446744073709551616) : ∀ x ∈ encLong n, 0 ≤ x ∧ x < 256 := enc_byte h0 (foll_le n) (foll_q n h0 h1)
theorem encInt_byte {n : Int} (h0 : 0 ≤ n) (h1 : n < 4294967296) : ∀ x ∈ encInt n, 0 ≤ x ∧ x < 256 := by
  unfold encInt
  split
  · exact enc_byte h0 (foll_le n) (foll_q n h0 (by omega))
  · exact enc_byte (f := 4) (by omega) (by omega) (by simp; omega)

/-! ### any bytes: a number whose bytes they are, or an error -/
theorem drop_cons {xs : List Int} {k f : Nat} {b : Int} (hb : xs[k]? = some b) : (xs.drop k).take (1 + f) = b :: (xs.drop (k + 1)).take f := by
  obtain ⟨hk, he⟩ := List.getElem?_eq_some_iff.1 hb
  rw [List.drop_eq_getElem_cons hk, he, Nat.add_comm 1 f, List.take_succ_cons]
/-- What is taken: a number and its bytes, or the error 3 or 4. -/
def Taken (e : Int → List Int) (most : Int) (xs : List Int) (k : Nat) (p : Int × RS) : Prop :=
  (p.2.xs = xs ∧ p.2.k ≤ xs.length ∧ (p.2.e = 3 ∨ p.2.e = 4)) ∨ ∃ n f, p = (n, ⟨xs, k + (1 + f), 0⟩) ∧ k + (1 + f) ≤ xs.length ∧ 0 ≤ n ∧ n < most ∧ e n = (xs.drop k).take (1 + f)
theorem needs_taken {e : Int → List Int} {most n m : Int} {xs : List Int} {k f g : Nat} (hl : k + (1 + f) ≤ xs.length) (h0 : 0 ≤ n) (h1 : n < most) (he : ¬ foll n < g → e n = (xs.drop k).take (1 + f)) (hm : m = n) : Taken e most xs k (RS.needs ⟨xs, k + 1 + f, 0⟩ m g) := by
  subst hm
  unfold RS.needs
  by_cases h : foll m < g
  · rw [if_pos h]
    exact .inl ⟨rfl, by simp [RS.fail]; omega, .inr rfl⟩
  · rw [if_neg h]
    exact .inr ⟨m, f, by simp; omega, hl, h0, h1, he h⟩
theorem val_in {m : Int} {ys : List Int} {f : Nat} (hl : ys.length = f) (hb : ∀ x ∈ ys, 0 ≤ x ∧ x < 256) (h0 : 0 ≤ m) : 0 ≤ val m ys := by
  have h := (be_val m f ys hl hb).2
  rcases Int.lt_or_le (val m ys) 0 with hn | hn
  · have := Int.ediv_neg_of_neg_of_pos hn (show (0 : Int) < 256 ^ f from Int.pow_pos (by decide))
    omega
  · exact hn
theorem long_any {xs : List Int} {k : Nat} (hx : ∀ x ∈ xs, 0 ≤ x ∧ x < 256) (hk : k < xs.length) (hmx : xs.length ≤ 1000000) : Taken encLong 18446744073709551616 xs k (RS.long ⟨xs, k, 0⟩) := by
  obtain ⟨b, hb⟩ : ∃ b, xs[k]? = some b := ⟨_, List.getElem?_eq_getElem hk⟩
  have hbb := hx b (List.mem_of_getElem? hb)
  obtain ⟨f, hf⟩ : ∃ f, lead b = f := ⟨_, rfl⟩
  have hf8 : f ≤ 8 := by rw [← hf]; exact lead_le b
  have hm : min (lead b) 8 = f := by omega
  unfold RS.long
  rcases Nat.lt_or_ge xs.length (k + 1 + f) with hs | hs
  · rw [num_no hb hm hs]
    left
    unfold RS.needs
    split
    · exact ⟨rfl, Nat.le_refl _, .inl rfl⟩
    · exact ⟨rfl, Nat.le_refl _, .inl rfl⟩
  · have hlen : ((xs.drop (k + 1)).take f).length = f := by simp; omega
    have hby : ∀ x ∈ (xs.drop (k + 1)).take f, 0 ≤ x ∧ x < 256 := fun x h => hx x (List.mem_of_mem_drop (List.mem_of_mem_take h))
    obtain ⟨hb1, hb2⟩ := be_val (b % 2 ^ (8 - f)) f _ hlen hby
    obtain ⟨hc1, hc2⟩ := back_of hbb.1 hbb.2 hf8 (by omega)
    have h0 : 0 ≤ b % 2 ^ (8 - f) := Int.emod_nonneg _ (by have : (0 : Int) < 2 ^ (8 - f) := Int.pow_pos (by decide); omega)
    have hv := val_in hlen hby h0
    have hok := num_lt (s := ⟨xs, k, 0⟩) (most := 8) ⟨Nat.le_of_lt hk, hmx, hx⟩ (by omega)
    rw [num_yes hb hm hs] at hok ⊢
    simp only at hok ⊢
    refine needs_taken (by omega) hv hok (fun hg => ?_) rfl
    have hfo : foll (val (b % 2 ^ (8 - f)) ((xs.drop (k + 1)).take f)) = f := by
      rcases Nat.lt_or_ge f 8 with h | h
      · have := foll_up (n := val (b % 2 ^ (8 - f)) ((xs.drop (k + 1)).take f)) (f := f) (by omega) (by rw [hb2]; exact hc2 hf (by omega))
        omega
      · have := foll_le (val (b % 2 ^ (8 - f)) ((xs.drop (k + 1)).take f))
        omega
    rw [encLong, hfo, enc, hb1, hb2, hc1, drop_cons hb]
theorem int_any {xs : List Int} {k : Nat} (hx : ∀ x ∈ xs, 0 ≤ x ∧ x < 256) (hk : k < xs.length) (hmx : xs.length ≤ 1000000) : Taken encInt 4294967296 xs k (RS.int ⟨xs, k, 0⟩) := by
  obtain ⟨b, hb⟩ : ∃ b, xs[k]? = some b := ⟨_, List.getElem?_eq_getElem hk⟩
  have hbb := hx b (List.mem_of_getElem? hb)
  obtain ⟨f, hf⟩ : ∃ f, min (lead b) 4 = f := ⟨_, rfl⟩
  have hf4 : f ≤ 4 := by omega
  unfold RS.int five
  rcases Nat.lt_or_ge xs.length (k + 1 + f) with hs | hs
  · rw [num_no hb hf hs]
    left
    simp only
    split
    · unfold RS.needs
      split
      · exact ⟨rfl, Nat.le_refl _, .inl rfl⟩
      · exact ⟨rfl, Nat.le_refl _, .inl rfl⟩
    · split
      · exact ⟨rfl, Nat.le_refl _, .inl rfl⟩
      · unfold RS.needs
        split
        · exact ⟨rfl, Nat.le_refl _, .inl rfl⟩
        · exact ⟨rfl, Nat.le_refl _, .inl rfl⟩
  · have hlen : ((xs.drop (k + 1)).take f).length = f := by simp; omega
    have hby : ∀ x ∈ (xs.drop (k + 1)).take f, 0 ≤ x ∧ x < 256 := fun x h => hx x (List.mem_of_mem_drop (List.mem_of_mem_take h))
    obtain ⟨hb1, hb2⟩ := be_val (b % 2 ^ (8 - f)) f _ hlen hby
    obtain ⟨hc1, hc2⟩ := back_of hbb.1 hbb.2 (show f ≤ 8 by omega) (by omega)
    have h0 : 0 ≤ b % 2 ^ (8 - f) := Int.emod_nonneg _ (by have : (0 : Int) < 2 ^ (8 - f) := Int.pow_pos (by decide); omega)
    have hv := val_in hlen hby h0
    have hok := (num_ok (s := ⟨xs, k, 0⟩) ⟨Nat.le_of_lt hk, hmx, hx⟩ 4 (by omega)).2.2.1
    rw [num_yes hb hf hs] at hok ⊢
    generalize hN : val (b % 2 ^ (8 - f)) ((xs.drop (k + 1)).take f) = N at *
    simp only at hok ⊢
    by_cases hf3 : f < 4
    · rw [if_pos hf3]
      have hn : N < 536870912 := by
        refine Int.lt_of_lt_of_le hok ?_
        have := Nat.pow_le_pow_right (n := 2) (by decide) (show 8 + 7 * f ≤ 29 by omega)
        have hc : (2 : Int) ^ (8 + 7 * f) = ((2 ^ (8 + 7 * f) : Nat) : Int) := by simp
        omega
      refine needs_taken (by omega) hv (by omega) (fun hg => ?_) rfl
      have hfo : foll N = f := by
        have := foll_up (n := N) (f := f) (by omega) (by rw [hb2]; exact hc2 (by omega) (by omega))
        omega
      rw [encInt, if_pos ((foll_int N).1 (by omega)), hfo, enc, hb1, hb2, hc1, drop_cons hb]
    · obtain rfl : f = 4 := by omega
      rw [if_neg hf3]
      have hn : N < 68719476736 := hok
      by_cases hl : 15 < N % 256
      · rw [if_pos hl]
        exact .inl ⟨rfl, by simp [RS.fail]; omega, .inr rfl⟩
      · rw [if_neg hl]
        refine needs_taken (by omega) (by omega) (by omega) (fun hg => ?_) rfl
        have hbig : ¬ (N / 256 * 16 + N % 256) < 268435456 := by have := foll_int (N / 256 * 16 + N % 256); omega
        rw [encInt, if_neg hbig, show (N / 256 * 16 + N % 256) / 16 * 256 + (N / 256 * 16 + N % 256) % 16 = N by omega, enc, hb1, hb2, hc1, drop_cons hb]
end Go.Proofs.YtgaofnmgdefdcaaGreatDoor.Ib

/- A table as bytes, and back, as plain data: how many bytes have any; of each how many are between it and the one ahead, and its parts. -/
import Derived.Test.YtnanmenoemajfaaFrqSc
import Derived.Test.YtnanmenoemajfaaItfBack
namespace Go.Proofs.Ytnanmenoemajfaa.Fb
open Go.Proofs.Ytnanmenoemajfaa.Gen Go.Proofs.Ytnanmenoemajfaa.Wr Go.Proofs.Ytnanmenoemajfaa.It Go.Proofs.Ytnanmenoemajfaa.Ir Go.Proofs.Ytnanmenoemajfaa.Ib Go.Proofs.Ytnanmenoemajfaa.Fq

/-- Behind the last one that has any, of the first d; how many have any; their bytes. -/
def nxt (l : List Int) : Nat → Nat
  | 0 => 0
  | d + 1 => if 0 < l.getD d 0 then d + 1 else nxt l d
def mny (l : List Int) : Nat → Nat
  | 0 => 0
  | d + 1 => if 0 < l.getD d 0 then mny l d + 1 else mny l d
def bod (l : List Int) : Nat → List Int
  | 0 => []
  | d + 1 => if 0 < l.getD d 0 then bod l d ++ (encInt (((d - nxt l d : Nat) : Int)) ++ encInt (l.getD d 0)) else bod l d
def tabB (l : List Int) : List Int := encInt (mny l 256 : Nat) ++ bod l 256
theorem nxt_le (l : List Int) : ∀ d, nxt l d ≤ d
  | 0 => Nat.le_refl _
  | d + 1 => by have := nxt_le l d; unfold nxt; split <;> omega
theorem mny_le (l : List Int) : ∀ d, mny l d ≤ d
  | 0 => Nat.le_refl _
  | d + 1 => by have := mny_le l d; unfold mny; split <;> omega
theorem bod_len (l : List Int) : ∀ d, (bod l d).length ≤ 10 * d
  | 0 => by simp [bod]
  | d + 1 => by
    have ih := bod_len l d
    unfold bod
    split
    · have h1 := (encInt_len (((d - nxt l d : Nat) : Int))).2
      have h2 := (encInt_len (l.getD d 0)).2
      simp only [List.length_append]
      omega
    · omega
theorem tabB_len (l : List Int) : (tabB l).length ≤ 2565 := by
  have h1 := (encInt_len ((mny l 256 : Nat) : Int)).2
  have h2 := bod_len l 256
  simp only [tabB, List.length_append]
  omega
theorem bod_byte {l : List Int} (h : ∀ x ∈ l, 0 ≤ x ∧ x < 4294967296) : ∀ d, d ≤ 256 → ∀ x ∈ bod l d, 0 ≤ x ∧ x < 256
  | 0, _, x, hx => by simp [bod] at hx
  | d + 1, hd, x, hx => by
    have ih := bod_byte h d (by omega)
    unfold bod at hx
    split at hx
    · next hp =>
      rcases List.mem_append.1 hx with hx | hx
      · exact ih x hx
      · rcases List.mem_append.1 hx with hx | hx
        · exact encInt_byte (by omega) (by omega) x hx
        · refine encInt_byte (by omega) ?_ x hx
          by_cases hl : d < l.length
          · exact (h _ (getD_mem hl)).2
          · rw [List.getD, List.getElem?_eq_none (by omega)]; simp
    · exact ih x hx
theorem tabB_byte {l : List Int} (h : ∀ x ∈ l, 0 ≤ x ∧ x < 4294967296) : ∀ x ∈ tabB l, 0 ≤ x ∧ x < 256 := by
  intro x hx
  have hm := mny_le l 256
  rcases List.mem_append.1 hx with hx | hx
  · exact encInt_byte (by omega) (by omega) x hx
  · exact bod_byte h 256 (by omega) x hx
theorem bod_pre (l : List Int) {d : Nat} : ∀ {e : Nat}, d ≤ e → ∃ R, bod l e = bod l d ++ R
  | 0, h => by obtain rfl : d = 0 := by omega
               exact ⟨[], by simp⟩
  | e + 1, h => by
    by_cases hd : d = e + 1
    · subst hd; exact ⟨[], by simp⟩
    · obtain ⟨R, hR⟩ := bod_pre l (d := d) (e := e) (by omega)
      by_cases hp : 0 < l.getD e 0
      · have h1 : bod l (e + 1) = bod l e ++ (encInt (((e - nxt l e : Nat) : Int)) ++ encInt (l.getD e 0)) := by rw [bod, if_pos hp]
        exact ⟨R ++ (encInt (((e - nxt l e : Nat) : Int)) ++ encInt (l.getD e 0)), by rw [h1, hR, List.append_assoc]⟩
      · have h1 : bod l (e + 1) = bod l e := by rw [bod, if_neg hp]
        exact ⟨R, by rw [h1, hR]⟩
theorem mny_mono (l : List Int) {d : Nat} : ∀ {e : Nat}, d ≤ e → mny l d ≤ mny l e
  | 0, h => by obtain rfl : d = 0 := by omega
               exact Nat.le_refl _
  | e + 1, h => by
    by_cases hd : d = e + 1
    · subst hd; exact Nat.le_refl _
    · have := mny_mono l (d := d) (e := e) (by omega)
      have h2 : mny l e ≤ mny l (e + 1) := by rw [mny]; split <;> omega
      omega

/-- What a reader takes, round by round. -/
def takeLoop : Nat → List Int → Nat → RS → List Int × RS × Bool
  | 0, t, _, s => (t, s, true)
  | n + 1, t, nx, s =>
    if 256 ≤ nx + (RS.int s).1.toNat then (zs, (RS.int s).2.fail 2, false)
    else if (RS.int (RS.int s).2).1 = 0 then (zs, (RS.int (RS.int s).2).2.fail 2, false)
    else takeLoop n (t.set (nx + (RS.int s).1.toNat) (RS.int (RS.int s).2).1) (nx + (RS.int s).1.toNat + 1) (RS.int (RS.int s).2).2
/-- And what becomes of it at the end. -/
def takeEnd (t : List Int) (s : RS) : List Int × RS :=
  (if (if chk t ≠ 0 then s.fail (chk t) else s).e ≠ 0 then zs else t, if chk t ≠ 0 then s.fail (chk t) else s)
def takeT (s : RS) : List Int × RS :=
  if (takeLoop (RS.count s 256).1.toNat zs 0 (RS.count s 256).2).2.2 then takeEnd (takeLoop (RS.count s 256).1.toNat zs 0 (RS.count s 256).2).1 (takeLoop (RS.count s 256).1.toNat zs 0 (RS.count s 256).2).2.1
  else ((takeLoop (RS.count s 256).1.toNat zs 0 (RS.count s 256).2).1, (takeLoop (RS.count s 256).1.toNat zs 0 (RS.count s 256).2).2.1)

/-! ### there and back -/
theorem loop_back {l : List Int} (hl : l.length = 256) (h0 : ∀ x ∈ l, 0 ≤ x ∧ x < 4294967296) (xs : List Int) : ∀ (m d : Nat), d + m = 256 → ∀ (k : Nat) (R : List Int), xs.drop k = R → bod l d ++ R = bod l 256 → k + R.length = xs.length →
    takeLoop (mny l 256 - mny l d) (laid l d) (nxt l d) ⟨xs, k, 0⟩ = (l, ⟨xs, xs.length, 0⟩, true)
  | 0, d, hd, k, R, hR, hb, hk => by
    obtain rfl : d = 256 := by omega
    have hR0 : R = [] := by
      have := congrArg List.length hb
      simp only [List.length_append] at this
      exact List.eq_nil_of_length_eq_zero (by omega)
    subst hR0
    rw [Nat.sub_self, takeLoop, laid_all hl]
    simp only [List.length_nil, Nat.add_zero] at hk
    rw [hk]
  | m + 1, d, hd, k, R, hR, hb, hk => by
    have hdl : d < 256 := by omega
    have hm := h0 _ (getD_mem (l := l) (d := d) (by omega))
    by_cases hp : 0 < l.getD d 0
    · have hn1 : nxt l (d + 1) = d + 1 := by rw [nxt, if_pos hp]
      have hm1 : mny l (d + 1) = mny l d + 1 := by rw [mny, if_pos hp]
      have hb1 : bod l (d + 1) = bod l d ++ (encInt (((d - nxt l d : Nat) : Int)) ++ encInt (l.getD d 0)) := by rw [bod, if_pos hp]
      have hmo := mny_mono l (d := d + 1) (e := 256) (by omega)
      have hnl := nxt_le l d
      obtain ⟨R2, hR2⟩ := bod_pre l (d := d + 1) (e := 256) (by omega)
      have hRe : R = encInt (((d - nxt l d : Nat) : Int)) ++ (encInt (l.getD d 0) ++ R2) := by
        rw [hR2, hb1, List.append_assoc] at hb
        have := List.append_cancel_left hb
        rw [this, List.append_assoc]
      have hi1 := int_back (all := xs) (k := k) (n := ((d - nxt l d : Nat) : Int)) (rest := encInt (l.getD d 0) ++ R2) (by rw [hR, hRe]) (by omega) (by omega)
      have hi2 := int_back (all := xs) (k := k + (encInt (((d - nxt l d : Nat) : Int))).length) (n := l.getD d 0) (rest := R2) (by rw [← List.drop_drop, hR, hRe, List.drop_left]) hm.1 hm.2
      have ih := loop_back hl h0 xs m (d + 1) (by omega) (k + (encInt (((d - nxt l d : Nat) : Int))).length + (encInt (l.getD d 0)).length) R2
        (by rw [← List.drop_drop, ← List.drop_drop, hR, hRe, List.drop_left, List.drop_left]) hR2.symm (by rw [← hk, hRe]; simp only [List.length_append]; omega)
      rw [show mny l 256 - mny l d = (mny l 256 - mny l (d + 1)) + 1 by omega, takeLoop, hi1]
      simp only [Int.toNat_natCast]
      rw [show nxt l d + (d - nxt l d) = d by omega, hi2, if_neg (by omega)]
      simp only
      rw [if_neg (by omega), laid_set hl hdl]
      rw [hn1] at ih
      exact ih
    · have hz : l.getD d 0 = 0 := by omega
      have hn1 : nxt l (d + 1) = nxt l d := by rw [nxt, if_neg hp]
      have hm1 : mny l (d + 1) = mny l d := by rw [mny, if_neg hp]
      have hb1 : bod l (d + 1) = bod l d := by rw [bod, if_neg hp]
      have ih := loop_back hl h0 xs m (d + 1) (by omega) k R hR (by rw [hb1]; exact hb) hk
      rw [hn1, hm1, ← laid_same hl hdl hz] at ih
      exact ih
theorem takeT_back {l : List Int} (hl : l.length = 256) (hf : Fine l) (hs : l.sum = 4096) : takeT ⟨tabB l, 0, 0⟩ = (l, ⟨tabB l, (tabB l).length, 0⟩) := by
  have h0 : ∀ x ∈ l, 0 ≤ x ∧ x < 4294967296 := fun x hx => by have := hf x hx; omega
  have hm := mny_le l 256
  have hi := int_back (all := tabB l) (k := 0) (n := ((mny l 256 : Nat) : Int)) (rest := bod l 256) (by rw [List.drop_zero]; rfl) (by omega) (by omega)
  have hc : RS.count ⟨tabB l, 0, 0⟩ 256 = (((mny l 256 : Nat) : Int), ⟨tabB l, 0 + (encInt ((mny l 256 : Nat) : Int)).length, 0⟩) := by
    rw [RS.count, hi, if_neg (by simp only; omega)]
  have hlo := loop_back hl h0 (tabB l) 256 0 rfl (0 + (encInt ((mny l 256 : Nat) : Int)).length) (bod l 256) (by rw [Nat.zero_add, tabB, List.drop_left]) (by rw [show bod l 0 = [] from rfl, List.nil_append]) (by rw [tabB, List.length_append, Nat.zero_add])
  have hck : chk l = 0 := by rw [chk, if_pos hf, if_pos hs]
  rw [laid_zero, show List.replicate 256 (0 : Int) = zs from rfl] at hlo
  rw [show mny l 0 = 0 from rfl, show nxt l 0 = 0 from rfl, Nat.sub_zero] at hlo
  rw [takeT, hc]
  simp only [Int.toNat_natCast]
  rw [hlo]
  simp only [if_true, takeEnd, hck, ne_eq, not_true_eq_false, if_false]
end Go.Proofs.Ytnanmenoemajfaa.Fb

/- A greater number has no fewer bytes, and of as many they come later in order: plain data; and the closure of the statement ItfGrows that asks it. -/
import Derived.Test.YtnbgcepejhggnaaItfBack
import Derived.Lib.Strings
namespace Go.Proofs.Ytnbgcepejhggnaa.Od
open Go.RowKit Go.Proofs.Ytnbgcepejhggnaa.Gen Go.Proofs.Ytnbgcepejhggnaa.Wr Go.Proofs.Ytnbgcepejhggnaa.It

/-- Bytes as the strings' order has them. -/
def bb (xs : List Int) : List UInt8 := xs.map fun n => UInt8.ofNat n.toNat
def le (xs ys : List Int) : Prop := (Op.bytesLess (bb xs) (bb ys) || bb xs == bb ys) = true
theorem le_refl (xs : List Int) : le xs xs := by simp [le]
theorem le_lt {x y : Int} {xs ys : List Int} (hx : 0 ≤ x) (hy : y < 256) (h : x < y) : le (x :: xs) (y :: ys) := by
  have h1 : UInt8.ofNat x.toNat < UInt8.ofNat y.toNat := by
    rw [UInt8.lt_iff_toNat_lt]
    simp
    omega
  simp [le, bb, Op.bytesLess, h1]
theorem le_eq {x : Int} {xs ys : List Int} (h : le xs ys) : le (x :: xs) (x :: ys) := by
  unfold le at h ⊢
  simp only [bb, List.map_cons, Op.bytesLess] at h ⊢
  simp only [Bool.or_eq_true, beq_iff_eq, Bool.and_eq_true, decide_eq_true_eq] at h ⊢
  rcases h with h | h
  · exact .inl (.inr ⟨trivial, h⟩)
  · exact .inr (by rw [h])
theorem le_be : ∀ (f : Nat) {a b : Int}, 0 ≤ a → a ≤ b → a / 256 ^ f = b / 256 ^ f → le (be a f) (be b f)
  | 0, _, _, _, _, _ => le_refl _
  | f + 1, a, b, h0, h1, h2 => by
    rw [Int.pow_succ, ← Int.ediv_ediv_of_nonneg (Int.pow_nonneg (by decide)), ← Int.ediv_ediv_of_nonneg (Int.pow_nonneg (by decide))] at h2
    have hp : (0 : Int) < 256 ^ f := Int.pow_pos (by decide)
    have h3 : a / 256 ^ f ≤ b / 256 ^ f := Int.ediv_le_ediv hp h1
    have h4 : 0 ≤ a / 256 ^ f := Int.ediv_nonneg h0 (Int.le_of_lt hp)
    rw [be_cons, be_cons]
    by_cases he : a / 256 ^ f = b / 256 ^ f
    · rw [he]
      exact le_eq (le_be f h0 h1 he)
    · exact le_lt (by omega) (by omega) (by omega)
theorem le_enc {a b : Int} {f : Nat} (h0 : 0 ≤ a) (h1 : a ≤ b) (hf : f ≤ 8) (hq : b / 256 ^ f < 2 ^ (8 - f)) : le (enc a f) (enc b f) := by
  have hp : (0 : Int) < 256 ^ f := Int.pow_pos (by decide)
  have h3 : a / 256 ^ f ≤ b / 256 ^ f := Int.ediv_le_ediv hp h1
  have h4 : 0 ≤ a / 256 ^ f := Int.ediv_nonneg h0 (Int.le_of_lt hp)
  have hb := (Ib.mod_of hf (by omega) hq).2.2
  have ha := (Ib.mod_of hf h4 (by omega)).2.2
  unfold enc
  by_cases he : a / 256 ^ f = b / 256 ^ f
  · rw [he]
    exact le_eq (le_be f h0 h1 he)
  · exact le_lt ha.1 hb.2 (by omega)
/-- What the closure asks. -/
def Ordered (xs ys : List Int) : Prop := xs.length < ys.length ∨ (xs.length = ys.length ∧ le xs ys)
theorem foll_iff (n : Int) : (1 ≤ foll n ↔ 128 ≤ n) ∧ (2 ≤ foll n ↔ 16384 ≤ n) ∧ (3 ≤ foll n ↔ 2097152 ≤ n) ∧ (4 ≤ foll n ↔ 268435456 ≤ n) ∧ (5 ≤ foll n ↔ 34359738368 ≤ n) ∧ (6 ≤ foll n ↔ 4398046511104 ≤ n) ∧ (7 ≤ foll n ↔ 562949953421312 ≤ n) ∧ (8 ≤ foll n ↔ 72057594037927936 ≤ n) := by
  unfold foll
  repeat' split
  all_goals omega
theorem foll_mono {a b : Int} (h : a ≤ b) : foll a ≤ foll b := by
  have ha := foll_iff a
  have hb := foll_iff b
  have h8 := foll_le a
  generalize foll a = x at *
  generalize foll b = y at *
  have hx : x = 0 ∨ x = 1 ∨ x = 2 ∨ x = 3 ∨ x = 4 ∨ x = 5 ∨ x = 6 ∨ x = 7 ∨ x = 8 := by omega
  rcases hx with rfl | rfl | rfl | rfl | rfl | rfl | rfl | rfl | rfl
  all_goals omega
theorem long_ordered {a b : Int} (h0 : 0 ≤ a) (h : a ≤ b) (h1 : b < 18446744073709551616) : Ordered (encLong a) (encLong b) := by
  have hm := foll_mono h
  unfold Ordered encLong
  rw [enc_len, enc_len]
  rcases Nat.lt_or_ge (foll a) (foll b) with hl | hl
  · exact .inl (by omega)
  · have he : foll a = foll b := by omega
    rw [he]
    exact .inr ⟨rfl, le_enc h0 h (foll_le b) (foll_q b (by omega) h1)⟩
theorem int_ordered {a b : Int} (h0 : 0 ≤ a) (h : a ≤ b) (h1 : b < 4294967296) : Ordered (encInt a) (encInt b) := by
  by_cases hb : b < 268435456
  · have ha : a < 268435456 := by omega
    rw [encInt, encInt, if_pos ha, if_pos hb]
    exact long_ordered h0 h (by omega)
  · by_cases ha : a < 268435456
    · have hf := (foll_int a).2 ha
      rw [encInt, encInt, if_pos ha, if_neg hb]
      unfold Ordered
      rw [enc_len, enc_len]
      exact .inl (by omega)
    · rw [encInt, encInt, if_neg ha, if_neg hb]
      unfold Ordered
      rw [enc_len, enc_len]
      exact .inr ⟨rfl, le_enc (by omega) (by omega) (by omega) (by simp; omega)⟩

theorem ordered (A1 A2 : Option Addr) (n1 c1 n2 c2 : Nat) (xs ys : List Int) (w : World) (h1 : xs.length = n1) (h2 : ys.length = n2) (l1 : Lies w A1 xs) (l2 : Lies w A2 ys) (ho : Ordered xs ys) :
    Calls Try.prog 27 #[.slice A1 n1 c1, .slice A2 n2 c2] w fun r w' => r = .returned (.bool true) ∧ w' = w := by
  have k1 := l1.str_n (P := Try.prog) n1 h1 26 9 5 c1 Try.underlying26 Try.underlying5 Try.underlying9
  have k2 := l2.str_n (P := Try.prog) n2 h2 26 9 5 c2 Try.underlying26 Try.underlying5 Try.underlying9
  obtain ⟨S, hS⟩ : ∃ S, S = strOfNums xs := ⟨_, rfl⟩
  obtain ⟨T, hT⟩ : ∃ T, T = strOfNums ys := ⟨_, rfl⟩
  have hST : le xs ys → (Op.bytesLess S.toList T.toList || S.toList == T.toList) = true := by
    intro h
    rw [Lib.toList_data, Lib.toList_data, hS, hT]
    exact h
  rw [← hS] at k1
  rw [← hT] at k2
  unfold Ordered at ho
  rw [h1, h2] at ho
  have HST := Lib.hid hST
  clear hST hS hT h1 h2 l1 l2
  by_cases hl : n1 < n2
  · go_enter Try.func27, Try.ntmps27
    go_wp2
    go_ret
    exact ⟨rfl, rfl⟩
  · obtain ⟨he, hle⟩ : n1 = n2 ∧ le xs ys := by
      rcases ho with h | h
      · exact absurd h hl
      · exact h
    have hb := HST.out hle
    subst he
    clear ho HST hle
    go_enter Try.func27, Try.ntmps27
    go_wp2
    go_ret
    exact ⟨rfl, rfl⟩
end Go.Proofs.Ytnbgcepejhggnaa.Od

/- States, what goes out of them and comes in again; bytes by four states, there and back: plain data. -/
import Derived.Test.YtnanmenoemajfaaFrqAn
import Derived.Test.YtnanmenoemajfaaFrqFind
namespace Go.Proofs.Ytnanmenoemajfaa.Rp
open Go.Proofs.Ytnanmenoemajfaa.Gen Go.Proofs.Ytnanmenoemajfaa.Wr Go.Proofs.Ytnanmenoemajfaa.It Go.Proofs.Ytnanmenoemajfaa.Ir Go.Proofs.Ytnanmenoemajfaa.Ib Go.Proofs.Ytnanmenoemajfaa.Fq Go.Proofs.Ytnanmenoemajfaa.Fb

/-- What goes out of a state while it is at least q; what is left of it. -/
def outs (q : Nat) : Nat → Nat → List Int
  | 0, _ => []
  | f + 1, s => if q ≤ s then ((s % 256 : Nat) : Int) :: outs q f (s / 256) else []
def lft (q : Nat) : Nat → Nat → Nat
  | 0, s => s
  | f + 1, s => if q ≤ s then lft q f (s / 256) else s
def gone (p s : Nat) : List Int := outs (p * 524288) 2 s
def kept (p s : Nat) : Nat := lft (p * 524288) 2 s
/-- A byte's parts, put into a state. -/
def push (st p s : Nat) : Nat := kept p s / p * 4096 + kept p s % p + st
/-- A state between two bytes. -/
def In (s : Nat) : Prop := 8388608 ≤ s ∧ s < 2147483648
theorem ways {p s : Nat} (hs : In s) (hp : 1 ≤ p) :
    (s < p * 524288 ∧ gone p s = [] ∧ kept p s = s) ∨
    (p * 524288 ≤ s ∧ s / 256 < p * 524288 ∧ gone p s = [((s % 256 : Nat) : Int)] ∧ kept p s = s / 256) ∨
    (p * 524288 ≤ s ∧ p * 524288 ≤ s / 256 ∧ s / 256 / 256 < p * 524288 ∧ gone p s = [((s % 256 : Nat) : Int), ((s / 256 % 256 : Nat) : Int)] ∧ kept p s = s / 256 / 256) := by
  obtain ⟨h1, h2⟩ := hs
  unfold gone kept
  generalize hq : p * 524288 = q
  have hq1 : 524288 ≤ q := by omega
  by_cases a : q ≤ s
  · by_cases b : q ≤ s / 256
    · right; right
      refine ⟨a, b, by omega, ?_, ?_⟩
      · simp [outs, a, b]
      · simp [lft, a, b]
    · right; left
      refine ⟨a, by omega, ?_, ?_⟩
      · simp [outs, a, b]
      · simp [lft, a, b]
  · left
    refine ⟨by omega, ?_, ?_⟩
    · simp [outs, a]
    · simp [lft, a]
theorem kept_in {p s : Nat} (hs : In s) (hp : 1 ≤ p) (hp2 : p ≤ 4096) : p * 2048 ≤ kept p s ∧ kept p s < p * 524288 := by
  have h0 := hs
  obtain ⟨h1, h2⟩ := hs
  rcases ways h0 hp with ⟨a, _, k⟩ | ⟨a, b, _, k⟩ | ⟨a, b, c, _, k⟩ <;> rw [k] <;> omega
theorem gone_len {p s : Nat} (hs : In s) (hp : 1 ≤ p) : (gone p s).length ≤ 2 := by
  rcases ways hs hp with ⟨_, g, _⟩ | ⟨_, _, g, _⟩ | ⟨_, _, _, g, _⟩ <;> rw [g] <;> simp
theorem gone_byte {p s : Nat} (hs : In s) (hp : 1 ≤ p) : ∀ x ∈ gone p s, 0 ≤ x ∧ x < 256 := by
  intro x hx
  rcases ways hs hp with ⟨_, g, _⟩ | ⟨_, _, g, _⟩ | ⟨_, _, _, g, _⟩ <;> rw [g] at hx <;> simp at hx
  · omega
  · rcases hx with rfl | rfl <;> omega
theorem push_in {st p s : Nat} (hs : In s) (hp : 1 ≤ p) (hst : st + p ≤ 4096) : In (push st p s) ∧ push st p s % 4096 = kept p s % p + st ∧ push st p s / 4096 = kept p s / p := by
  obtain ⟨h1, h2⟩ := kept_in hs hp (by omega)
  have h3 : kept p s % p < p := Nat.mod_lt _ hp
  have h4 : kept p s / p < 524288 := by rw [Nat.div_lt_iff_lt_mul hp, Nat.mul_comm]; exact h2
  have h5 : 2048 ≤ kept p s / p := by rw [Nat.le_div_iff_mul_le hp, Nat.mul_comm]; exact h1
  unfold push
  generalize kept p s / p = a at *
  generalize kept p s % p = b at *
  unfold In
  omega
/-- Bytes come in while a state is too little. -/
def fill : Nat → Nat → RS → Nat × RS
  | 0, s, r => (s, r)
  | f + 1, s, r => if s < 8388608 ∧ r.e = 0 then fill f (s * 256 + r.byte.1.toNat) r.byte.2 else (s, r)
def low (st p x : Nat) : Nat := p * (x / 4096) + x % 4096 - st
def takeS (st p x : Nat) (r : RS) : Nat × RS := (if (fill 2 (low st p x) r).2.e = 0 then (fill 2 (low st p x) r).1 else 0, (fill 2 (low st p x) r).2)
theorem byte_one {xs R : List Int} {k : Nat} {x : Int} (h : xs.drop k = x :: R) : (⟨xs, k, 0⟩ : RS).byte = (x, ⟨xs, k + 1, 0⟩) ∧ xs.drop (k + 1) = R := by
  have hk : k < xs.length := by
    rcases Nat.lt_or_ge k xs.length with h1 | h1
    · exact h1
    · rw [List.drop_of_length_le h1] at h; cases h
  rw [List.drop_eq_getElem_cons hk] at h
  injection h with h1 h2
  refine ⟨?_, h2⟩
  simp only [RS.byte, hk, if_true, List.getD, List.getElem?_eq_getElem hk, Option.getD_some, h1]
theorem low_push {st p s : Nat} (hs : In s) (hp : 1 ≤ p) (hst : st + p ≤ 4096) : low st p (push st p s) = kept p s := by
  obtain ⟨_, h1, h2⟩ := push_in hs hp hst
  unfold low
  rw [h1, h2]
  have := Nat.div_add_mod (kept p s) p
  omega
/-- One byte's parts, put and taken. -/
theorem step_back {st p s : Nat} {xs R : List Int} {k : Nat} (hs : In s) (hp : 1 ≤ p) (hst : st + p ≤ 4096) (h : xs.drop k = (gone p s).reverse ++ R) :
    takeS st p (push st p s) ⟨xs, k, 0⟩ = (s, ⟨xs, k + (gone p s).length, 0⟩) := by
  unfold takeS
  rw [low_push hs hp hst]
  have h0 := hs
  obtain ⟨h1, h2⟩ := hs
  suffices hf : fill 2 (kept p s) ⟨xs, k, 0⟩ = (s, ⟨xs, k + (gone p s).length, 0⟩) by rw [hf]; simp
  rcases ways h0 hp with ⟨a, g, e⟩ | ⟨a, b, g, e⟩ | ⟨a, b, c, g, e⟩
  · rw [g, e, fill, if_neg (by omega)]; simp
  · rw [g] at h
    rw [g, e, fill, if_pos ⟨by omega, rfl⟩]
    obtain ⟨b1, b2⟩ := byte_one (R := R) (x := ((s % 256 : Nat) : Int)) (by rw [h]; rfl)
    rw [b1]
    simp only [Int.toNat_natCast]
    rw [show s / 256 * 256 + s % 256 = s by omega, fill, if_neg (by omega)]
    simp
  · rw [g] at h
    rw [g, e, fill, if_pos ⟨by omega, rfl⟩]
    obtain ⟨b1, b2⟩ := byte_one (R := ((s % 256 : Nat) : Int) :: R) (x := ((s / 256 % 256 : Nat) : Int)) (by rw [h]; rfl)
    rw [b1]
    simp only [Int.toNat_natCast]
    rw [show s / 256 / 256 * 256 + s / 256 % 256 = s / 256 by omega, fill, if_pos ⟨by omega, rfl⟩]
    obtain ⟨b3, b4⟩ := byte_one b2
    rw [b3]
    simp only [Int.toNat_natCast]
    rw [show s / 256 * 256 + s % 256 = s by omega, fill]
    simp
theorem low_in {st p x : Nat} (hx : In x) (hp : 1 ≤ p) (h1 : st ≤ x % 4096) (h2 : x % 4096 < st + p) : p * 2048 ≤ low st p x ∧ low st p x < p * 524288 ∧ low st p x / p * 4096 + low st p x % p + st = x := by
  obtain ⟨a, b⟩ := hx
  have e : low st p x = p * (x / 4096) + (x % 4096 - st) := by unfold low; omega
  have hd : low st p x / p = x / 4096 := by
    rw [e, Nat.mul_add_div hp, Nat.div_eq_of_lt (a := x % 4096 - st) (b := p) (by omega), Nat.add_zero]
  have hm : low st p x % p = x % 4096 - st := by
    rw [e, Nat.mul_add_mod, Nat.mod_eq_of_lt (by omega)]
  refine ⟨?_, ?_, by rw [hd, hm]; omega⟩
  · have : p * 2048 ≤ p * (x / 4096) := Nat.mul_le_mul_left _ (by omega)
    omega
  · have : p * (x / 4096 + 1) ≤ p * 524288 := Nat.mul_le_mul_left _ (by omega)
    rw [Nat.mul_add] at this
    omega
theorem byte_any {xs : List Int} {k : Nat} (hx : ∀ x ∈ xs, 0 ≤ x ∧ x < 256) : ((⟨xs, k, 0⟩ : RS).byte = (0, ⟨xs, k, 3⟩)) ∨ ∃ b : Nat, b < 256 ∧ (⟨xs, k, 0⟩ : RS).byte = ((b : Int), ⟨xs, k + 1, 0⟩) ∧ k + 1 ≤ xs.length ∧ xs.drop k = (b : Int) :: xs.drop (k + 1) := by
  rcases Nat.lt_or_ge k xs.length with h | h
  · right
    have hm := hx _ (List.getElem_mem h)
    refine ⟨(xs[k]).toNat, by omega, ?_, h, ?_⟩
    · rw [show ((xs[k].toNat : Nat) : Int) = xs[k] by omega]
      simp only [RS.byte, h, if_true, List.getD, List.getElem?_eq_getElem h, Option.getD_some]
    · rw [show ((xs[k].toNat : Nat) : Int) = xs[k] by omega]
      exact List.drop_eq_getElem_cons h
  · left
    simp [RS.byte, Nat.not_lt.2 h]
theorem push_of {st p x y : Nat} (hp : 1 ≤ p) (hk : kept p y = low st p x) (hx : low st p x / p * 4096 + low st p x % p + st = x) : push st p y = x := by
  unfold push
  rw [hk, hx]
/-- Of any bytes: what is taken goes back in one way alone. -/
theorem step_any {st p x : Nat} {xs : List Int} {k : Nat} (hb : ∀ z ∈ xs, 0 ≤ z ∧ z < 256) (hk : k ≤ xs.length) (hx : In x) (hp : 1 ≤ p) (hst : st + p ≤ 4096) (h1 : st ≤ x % 4096) (h2 : x % 4096 < st + p) (he : (takeS st p x ⟨xs, k, 0⟩).2.e = 0) :
    In (takeS st p x ⟨xs, k, 0⟩).1 ∧ ∃ j, (takeS st p x ⟨xs, k, 0⟩).2 = ⟨xs, k + j, 0⟩ ∧ k + j ≤ xs.length ∧ (gone p (takeS st p x ⟨xs, k, 0⟩).1).reverse = (xs.drop k).take j ∧ push st p (takeS st p x ⟨xs, k, 0⟩).1 = x := by
  obtain ⟨l1, l2, l3⟩ := low_in hx hp h1 h2
  obtain ⟨x1, x2⟩ := hx
  unfold takeS at he ⊢
  simp only at he
  rw [if_pos he]
  generalize hm : low st p x = m at *
  simp only
  rw [fill] at he ⊢
  by_cases a : m < 8388608
  · rw [if_pos ⟨a, rfl⟩] at he ⊢
    rcases byte_any (k := k) hb with h | ⟨b, hb1, h, hk1, hd⟩
    · rw [h] at he ⊢
      simp only [fill] at he
      simp at he
    · rw [h] at he ⊢
      simp only [Int.toNat_natCast] at he ⊢
      rw [fill] at he ⊢
      by_cases c : m * 256 + b < 8388608
      · rw [if_pos ⟨c, rfl⟩] at he ⊢
        rcases byte_any (k := k + 1) hb with h' | ⟨b', hb1', h', hk1', hd'⟩
        · rw [h'] at he ⊢
          simp only [fill] at he
          simp at he
        · rw [h'] at he ⊢
          simp only [Int.toNat_natCast, fill] at he ⊢
          have hy : In ((m * 256 + b) * 256 + b') := by unfold In; omega
          have hg : gone p ((m * 256 + b) * 256 + b') = [(b' : Int), (b : Int)] ∧ kept p ((m * 256 + b) * 256 + b') = m := by
            rcases ways hy hp with ⟨q, _⟩ | ⟨_, q, _⟩ | ⟨_, _, _, g, e⟩
            · omega
            · omega
            · rw [show ((m * 256 + b) * 256 + b') / 256 = m * 256 + b by omega] at g e
              rw [show ((m * 256 + b) * 256 + b') % 256 = b' by omega, show (m * 256 + b) % 256 = b by omega] at g
              rw [show (m * 256 + b) / 256 = m by omega] at e
              exact ⟨g, e⟩
          refine ⟨hy, 2, by simp [Nat.add_assoc], hk1', ?_, push_of hp (by rw [hg.2, hm]) (by rw [hm]; exact l3)⟩
          rw [hg.1, hd, hd']
          simp
      · rw [if_neg (by omega)] at he ⊢
        have hy : In (m * 256 + b) := by unfold In; omega
        have hg : gone p (m * 256 + b) = [(b : Int)] ∧ kept p (m * 256 + b) = m := by
          rcases ways hy hp with ⟨q, _⟩ | ⟨_, _, g, e⟩ | ⟨_, q, _⟩
          · omega
          · rw [show (m * 256 + b) % 256 = b by omega] at g
            rw [show (m * 256 + b) / 256 = m by omega] at e
            exact ⟨g, e⟩
          · omega
        refine ⟨hy, 1, rfl, hk1, ?_, push_of hp (by rw [hg.2, hm]) (by rw [hm]; exact l3)⟩
        rw [hg.1, hd]
        simp
  · rw [if_neg (by omega)] at he ⊢
    have hy : In m := by unfold In; omega
    have hg : gone p m = [] ∧ kept p m = m := by
      rcases ways hy hp with ⟨_, g, e⟩ | ⟨q, _⟩ | ⟨q, _⟩
      · exact ⟨g, e⟩
      · omega
      · omega
    exact ⟨hy, 0, rfl, hk, by rw [hg.1]; simp, push_of hp (by rw [hg.2, hm]) (by rw [hm]; exact l3)⟩
/-- An error stays. -/
theorem takeS_bad {st p x : Nat} {r : RS} (h : (takeS st p x r).2.e ≠ 0) : (takeS st p x r).1 = 0 := by
  unfold takeS at h ⊢
  simp only at h ⊢
  rw [if_neg h]
end Go.Proofs.Ytnanmenoemajfaa.Rp

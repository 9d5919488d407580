/- Sums of 32 bits, plain data alone: one bit goes through (bit1), many (it, feed); bytes at once by a table; bytes with their sum behind; what a burst of 32 neighbours does. No program is named here. -/
import Derived.Test.YtbehchibgkgpbaaGen
namespace Go.Proofs.Ytbehchibgkgpbaa.Cp

/-- The polynomial, the other way round. -/
def poly : Nat := 3988292384
/-- A register, behind one bit more that is nought. -/
def bit1 (c : Nat) : Nat := if c % 2 = 1 then (c / 2) ^^^ poly else c / 2

theorem xor_mod2 (a b : Nat) : (a ^^^ b) % 2 = (a % 2 + b % 2) % 2 := by
  have h := Nat.testBit_xor a b 0
  simp only [Nat.testBit_zero] at h
  rcases Nat.mod_two_eq_zero_or_one a with ha | ha <;> rcases Nat.mod_two_eq_zero_or_one b with hb | hb <;> rcases Nat.mod_two_eq_zero_or_one (a ^^^ b) with hc | hc <;> simp [ha, hb, hc] at h ⊢
theorem xor_div2 (a b : Nat) : (a ^^^ b) / 2 = a / 2 ^^^ b / 2 := by
  have h := Nat.shiftRight_xor_distrib (a := a) (b := b) (i := 1)
  simpa [Nat.shiftRight_eq_div_pow] using h
theorem bit1_xor (a b : Nat) : bit1 (a ^^^ b) = bit1 a ^^^ bit1 b := by
  unfold bit1
  rw [xor_mod2, xor_div2]
  rcases Nat.mod_two_eq_zero_or_one a with ha | ha <;> rcases Nat.mod_two_eq_zero_or_one b with hb | hb <;> simp only [ha, hb]
  · simp
  · simp [Nat.xor_assoc]
  · simp only [if_true]
    simp
    rw [Nat.xor_assoc, Nat.xor_comm (b / 2) poly, ← Nat.xor_assoc]
  · simp
    rw [Nat.xor_assoc, Nat.xor_comm poly, Nat.xor_assoc, Nat.xor_self, Nat.xor_zero]
theorem bit1_zero : bit1 0 = 0 := by decide
theorem bit1_even (m : Nat) : bit1 (2 * m) = m := by
  unfold bit1
  rw [if_neg (by omega)]
  omega
theorem bit1_lt {c : Nat} (h : c < 4294967296) : bit1 c < 4294967296 := by
  unfold bit1
  split
  · exact Nat.xor_lt_two_pow (n := 32) (by omega) (by decide)
  · omega
theorem poly_top {m : Nat} (h : m < 2147483648) : 2147483648 ≤ m ^^^ poly := by
  have h1 : (m ^^^ poly).testBit 31 = true := by
    rw [Nat.testBit_xor, Nat.testBit_lt_two_pow (x := m) (i := 31) (by omega)]
    decide
  exact Nat.ge_two_pow_of_testBit h1
theorem bit1_none {c : Nat} (h : c < 4294967296) (h0 : bit1 c = 0) : c = 0 := by
  unfold bit1 at h0
  split at h0
  · have := poly_top (m := c / 2) (by omega)
    omega
  · omega
theorem bit1_inj {a b : Nat} (ha : a < 4294967296) (hb : b < 4294967296) (h : bit1 a = bit1 b) : a = b := by
  have h1 : bit1 (a ^^^ b) = 0 := by rw [bit1_xor, h, Nat.xor_self]
  have h2 := bit1_none (Nat.xor_lt_two_pow (n := 32) ha hb) h1
  have h3 : a ^^^ b ^^^ b = b := by rw [h2, Nat.zero_xor]
  rwa [Nat.xor_assoc, Nat.xor_self, Nat.xor_zero] at h3

/-- Behind n bits that are nought. -/
def it : Nat → Nat → Nat
  | 0, c => c
  | n + 1, c => it n (bit1 c)
theorem it_xor : ∀ (n a b : Nat), it n (a ^^^ b) = it n a ^^^ it n b
  | 0, _, _ => rfl
  | n + 1, a, b => by rw [it, bit1_xor, it_xor n, it, it]
theorem it_zero : ∀ n, it n 0 = 0
  | 0 => rfl
  | n + 1 => by rw [it, bit1_zero, it_zero n]
theorem it_lt : ∀ (n : Nat) {c : Nat}, c < 4294967296 → it n c < 4294967296
  | 0, _, h => h
  | n + 1, _, h => it_lt n (bit1_lt h)
theorem it_inj : ∀ (n : Nat) {a b : Nat}, a < 4294967296 → b < 4294967296 → it n a = it n b → a = b
  | 0, _, _, _, _, h => h
  | n + 1, _, _, ha, hb, h => bit1_inj ha hb (it_inj n (bit1_lt ha) (bit1_lt hb) h)
theorem it_none {n c : Nat} (h : c < 4294967296) (h0 : it n c = 0) : c = 0 := it_inj n h (by omega) (h0.trans (it_zero n).symm)
theorem it_add : ∀ (m n c : Nat), it (m + n) c = it n (it m c)
  | 0, n, c => by rw [Nat.zero_add]; rfl
  | m + 1, n, c => by rw [show m + 1 + n = (m + n) + 1 by omega, it, it_add m n, it]
theorem it_up : ∀ (n m : Nat), it n (2 ^ n * m) = m
  | 0, m => by simp [it]
  | n + 1, m => by rw [it, Nat.pow_succ, show 2 ^ n * 2 * m = 2 * (2 ^ n * m) by rw [Nat.mul_comm (2 ^ n) 2, Nat.mul_assoc], bit1_even, it_up n]
theorem split_xor (n y : Nat) : y = (y % 2 ^ n) ^^^ (2 ^ n * (y / 2 ^ n)) := by
  have h := Nat.two_pow_add_eq_or_of_lt (Nat.mod_lt y (Nat.two_pow_pos n)) (y / 2 ^ n)
  have h2 : 2 ^ n * (y / 2 ^ n) + y % 2 ^ n = y := Nat.div_add_mod y (2 ^ n)
  apply Nat.eq_of_testBit_eq
  intro i
  rw [Nat.testBit_xor, Nat.testBit_mod_two_pow, Nat.testBit_two_pow_mul, Nat.testBit_div_two_pow]
  by_cases hi : i < n
  · simp [hi, show ¬ n ≤ i by omega]
  · have hin : n ≤ i := by omega
    simp [hi, hin, show i - n + n = i by omega]
/-- **A byte at once, by a table.** -/
theorem it_table (n y : Nat) : it n y = it n (y % 2 ^ n) ^^^ (y / 2 ^ n) := by
  conv => lhs; rw [split_xor n y]
  rw [it_xor, it_up]

/-! ### bits one by one -/
def step (c b : Nat) : Nat := bit1 (c ^^^ b)
def feed (c : Nat) (l : List Nat) : Nat := l.foldl step c
theorem feed_app (c : Nat) (u v : List Nat) : feed c (u ++ v) = feed (feed c u) v := by simp [feed]
/-- The lowest n bits of a number, the lowest first. -/
def lows : Nat → Nat → List Nat
  | _, 0 => []
  | w, n + 1 => w % 2 :: lows (w / 2) n
theorem lows_len : ∀ (n w : Nat), (lows w n).length = n
  | 0, _ => rfl
  | n + 1, w => by simp [lows, lows_len n]
theorem low_xor (c w : Nat) : bit1 (c ^^^ w) = step c (w % 2) ^^^ (w / 2) := by
  have h := split_xor 1 w
  simp only [Nat.pow_one] at h
  conv => lhs; rw [h]
  rw [← Nat.xor_assoc, bit1_xor, bit1_even]
  rfl
/-- **Bits one by one are the number at once.** -/
theorem feed_lows : ∀ (n c w : Nat), w < 2 ^ n → feed c (lows w n) = it n (c ^^^ w)
  | 0, c, w, h => by
    have : w = 0 := by simpa using h
    subst this
    simp [feed, lows, it]
  | n + 1, c, w, h => by
    have h1 : w / 2 < 2 ^ n := by rw [Nat.pow_succ] at h; omega
    have ih := feed_lows n (step c (w % 2)) (w / 2) h1
    rw [it, low_xor, ← ih]
    rfl
theorem feed_zeros : ∀ (n c : Nat), feed c (List.replicate n 0) = it n c
  | 0, _ => rfl
  | n + 1, c => by
    have ih := feed_zeros n (bit1 c)
    rw [it, ← ih, List.replicate_succ]
    simp [feed, step]
/-- Two rows of bits, held against each other. -/
def xl (u v : List Nat) : List Nat := List.zipWith (· ^^^ ·) u v
theorem feed_xor : ∀ (u v : List Nat) (c d : Nat), u.length = v.length → feed (c ^^^ d) (xl u v) = feed c u ^^^ feed d v
  | [], [], _, _, _ => rfl
  | [], _ :: _, _, _, h => by simp at h
  | _ :: _, [], _, _, h => by simp at h
  | a :: u, b :: v, c, d, h => by
    have ih := feed_xor u v (step c a) (step d b) (by simpa using h)
    have hs : step (c ^^^ d) (a ^^^ b) = step c a ^^^ step d b := by
      unfold step
      rw [← bit1_xor]
      congr 1
      rw [Nat.xor_assoc, Nat.xor_assoc, ← Nat.xor_assoc d, Nat.xor_comm d a, Nat.xor_assoc a]
    show feed (step (c ^^^ d) (a ^^^ b)) (xl u v) = _
    rw [hs, ih]
    rfl
theorem feed_lt : ∀ (l : List Nat) {c : Nat}, (∀ b ∈ l, b < 2) → c < 4294967296 → feed c l < 4294967296
  | [], _, _, h => h
  | b :: l, c, hb, h => feed_lt l (c := step c b) (fun x hx => hb x (List.mem_cons_of_mem _ hx)) (bit1_lt (Nat.xor_lt_two_pow (n := 32) h (by have := hb b List.mem_cons_self; omega)))

/-! ### bytes, and their sum -/
/-- The bits of bytes, in each the lowest first. -/
def bitsOf (xs : List Nat) : List Nat := xs.flatMap fun x => lows x 8
theorem bitsOf_len : ∀ xs, (bitsOf xs).length = 8 * xs.length
  | [] => rfl
  | x :: xs => by
    have ih := bitsOf_len xs
    simp only [bitsOf, List.flatMap_cons, List.length_append, lows_len, List.length_cons] at ih ⊢
    omega
theorem lows_bit : ∀ (n w : Nat), ∀ b ∈ lows w n, b < 2
  | 0, _ => by simp [lows]
  | n + 1, w => by
    intro b hb
    simp only [lows, List.mem_cons] at hb
    rcases hb with rfl | hb
    · omega
    · exact lows_bit n _ b hb
theorem bitsOf_bit (xs : List Nat) : ∀ b ∈ bitsOf xs, b < 2 := by
  intro b hb
  simp only [bitsOf, List.mem_flatMap] at hb
  obtain ⟨x, _, hb⟩ := hb
  exact lows_bit 8 x b hb
/-- The register behind one byte more: as a table of 256 gives it. -/
theorem byte_step (c x : Nat) (h : x < 256) : feed c (lows x 8) = it 8 ((c ^^^ x) % 256) ^^^ ((c ^^^ x) / 256) := by
  rw [feed_lows 8 c x h, it_table 8]
theorem byte_high (c x : Nat) (h : x < 256) : (c ^^^ x) / 256 = c / 256 := by
  have h1 := Nat.shiftRight_xor_distrib (a := c) (b := x) (i := 8)
  simp only [Nat.shiftRight_eq_div_pow] at h1
  rw [h1, Nat.div_eq_of_lt h, Nat.xor_zero]
def start : Nat := 4294967295
def sumOf (xs : List Nat) : Nat := feed start (bitsOf xs) ^^^ start
theorem sum_lt (xs : List Nat) : sumOf xs < 4294967296 := Nat.xor_lt_two_pow (n := 32) (feed_lt _ (bitsOf_bit xs) (by decide)) (by decide)
/-- What is left where the sum stands behind: always the same. -/
def rest : Nat := it 32 start
theorem right_iff (xs : List Nat) {w : Nat} (hw : w < 4294967296) : feed start (bitsOf xs ++ lows w 32) = rest ↔ w = sumOf xs := by
  have hf : feed start (bitsOf xs) < 4294967296 := feed_lt _ (bitsOf_bit xs) (by decide)
  rw [feed_app, feed_lows 32 _ w hw]
  constructor
  · intro h
    have h1 := it_inj 32 (Nat.xor_lt_two_pow (n := 32) hf hw) (show start < 4294967296 by decide) h
    unfold sumOf
    generalize feed start (bitsOf xs) = a at *
    rw [← h1, ← Nat.xor_assoc, Nat.xor_self, Nat.zero_xor]
  · rintro rfl
    unfold sumOf rest
    rw [← Nat.xor_assoc, Nat.xor_self, Nat.zero_xor]
/-- **A burst of 32 neighbours tells.** -/
theorem burst_iff (p q : Nat) {w : Nat} (hw : w < 4294967296) : feed 0 (List.replicate p 0 ++ (lows w 32 ++ List.replicate q 0)) = 0 ↔ w = 0 := by
  rw [feed_app, feed_zeros, it_zero, feed_app, feed_lows 32 0 w hw, feed_zeros, Nat.zero_xor]
  constructor
  · intro h
    exact it_none hw (it_none (it_lt 32 hw) h)
  · rintro rfl
    rw [it_zero, it_zero]
/-- So: bytes with their sum behind, and a burst over them: right just if the burst is none. -/
theorem spoilt_iff {l : List Nat} (hl : feed start l = rest) {p q w : Nat} (hw : w < 4294967296) (hn : l.length = p + (32 + q)) :
    feed start (xl l (List.replicate p 0 ++ (lows w 32 ++ List.replicate q 0))) = rest ↔ w = 0 := by
  have h := feed_xor l (List.replicate p 0 ++ (lows w 32 ++ List.replicate q 0)) start 0 (by simp [lows_len, hn])
  rw [Nat.xor_zero] at h
  rw [h, hl, ← burst_iff p q hw]
  constructor
  · intro h1
    have h2 : rest ^^^ (rest ^^^ feed 0 (List.replicate p 0 ++ (lows w 32 ++ List.replicate q 0))) = rest ^^^ rest := by rw [h1]
    rwa [← Nat.xor_assoc, Nat.xor_self, Nat.zero_xor] at h2
  · intro h1
    rw [h1, Nat.xor_zero]
/-- Bytes that differ by the same have sums that differ by the same. -/
theorem lows_xor : ∀ (n a b : Nat), lows (a ^^^ b) n = xl (lows a n) (lows b n)
  | 0, _, _ => rfl
  | n + 1, a, b => by
    have ih := lows_xor n (a / 2) (b / 2)
    have hm : (a ^^^ b) % 2 = (a % 2) ^^^ (b % 2) := by
      rw [xor_mod2]
      rcases Nat.mod_two_eq_zero_or_one a with ha | ha <;> rcases Nat.mod_two_eq_zero_or_one b with hb | hb <;> simp [ha, hb]
    simp only [lows, xor_div2, ih, hm, xl, List.zipWith_cons_cons]
theorem xl_app {u v u' v' : List Nat} (h : u.length = v.length) : xl (u ++ u') (v ++ v') = xl u v ++ xl u' v' := by
  unfold xl
  exact List.zipWith_append h
theorem bitsOf_xor : ∀ (xs ys : List Nat), xs.length = ys.length → bitsOf (List.zipWith (· ^^^ ·) xs ys) = xl (bitsOf xs) (bitsOf ys)
  | [], [], _ => rfl
  | [], _ :: _, h => by simp at h
  | _ :: _, [], h => by simp at h
  | x :: xs, y :: ys, h => by
    have ih := bitsOf_xor xs ys (by simpa using h)
    have e1 : bitsOf (x :: xs) = lows x 8 ++ bitsOf xs := by simp [bitsOf]
    have e2 : bitsOf (y :: ys) = lows y 8 ++ bitsOf ys := by simp [bitsOf]
    have e3 : bitsOf (List.zipWith (· ^^^ ·) (x :: xs) (y :: ys)) = lows (x ^^^ y) 8 ++ bitsOf (List.zipWith (· ^^^ ·) xs ys) := by simp [bitsOf]
    rw [e1, e2, e3, xl_app (by rw [lows_len, lows_len]), ih, lows_xor]
theorem sums_differ (xs ms : List Nat) (h : xs.length = ms.length) : sumOf (List.zipWith (· ^^^ ·) xs ms) ^^^ sumOf xs = feed 0 (bitsOf ms) := by
  have h1 := feed_xor (bitsOf xs) (bitsOf ms) start 0 (by rw [bitsOf_len, bitsOf_len, h])
  rw [Nat.xor_zero] at h1
  unfold sumOf
  rw [bitsOf_xor xs ms h, h1]
  generalize feed start (bitsOf xs) = a
  generalize feed 0 (bitsOf ms) = b
  rw [Nat.xor_assoc, Nat.xor_comm a start, ← Nat.xor_assoc start, Nat.xor_self, Nat.zero_xor, Nat.xor_comm a b, Nat.xor_assoc, Nat.xor_self, Nat.xor_zero]

/-! ### the same by taking the polynomial away, place by place -/
def bitN (c k : Nat) : Nat := (c.testBit k).toNat
theorem bitN_lt (c k : Nat) : bitN c k < 2 := by unfold bitN; cases c.testBit k <;> decide
theorem bitN_xor (a b k : Nat) : bitN (a ^^^ b) k = bitN a k ^^^ bitN b k := by
  unfold bitN
  rw [Nat.testBit_xor]
  cases a.testBit k <;> cases b.testBit k <;> rfl
theorem bitN_half (c k : Nat) : bitN (c / 2) k = bitN c (k + 1) := by
  unfold bitN
  rw [Nat.testBit_add_one]
theorem bitN_zero (c : Nat) : bitN c 0 = c % 2 := by
  unfold bitN
  rw [Nat.testBit_zero]
  rcases Nat.mod_two_eq_zero_or_one c with h | h <;> simp [h]
theorem bitN_high {c k : Nat} (h : c < 2 ^ k) : bitN c k = 0 := by
  unfold bitN
  rw [Nat.testBit_lt_two_pow h]
  rfl
/-- Where the polynomial has its terms. -/
def terms : List Nat := [0, 6, 9, 10, 16, 20, 21, 22, 24, 25, 27, 28, 30, 31, 32]
theorem terms_fin : ∀ k : Fin 32, bitN poly k.val = if k.val + 1 ∈ terms then 1 else 0 := by decide +kernel
/-- One bit turned. -/
def turn (l : List Nat) (i : Nat) : List Nat := l.set i (1 - l.getD i 0)
def turns (l : List Nat) (i : Nat) (ts : List Nat) : List Nat := ts.foldl (fun l t => turn l (i + t)) l
theorem turn_len (l : List Nat) (i : Nat) : (turn l i).length = l.length := by simp [turn]
theorem turn_at {l : List Nat} (hb : ∀ b ∈ l, b < 2) {i : Nat} (hi : i < l.length) (k : Nat) : (turn l i).getD k 0 = l.getD k 0 ^^^ (if k = i then 1 else 0) := by
  unfold turn
  simp only [List.getD_eq_getElem?_getD, List.getElem?_set]
  by_cases hk : k = i
  · subst hk
    have h2 := hb l[k] (List.getElem_mem hi)
    have h3 : l[k] = 0 ∨ l[k] = 1 := by omega
    simp only [if_true, hi, List.getElem?_eq_getElem hi, Option.getD_some]
    rcases h3 with h3 | h3 <;> simp [h3]
  · simp [hk, Ne.symm hk]
theorem turn_bit {l : List Nat} (hb : ∀ b ∈ l, b < 2) (i : Nat) : ∀ b ∈ turn l i, b < 2 := by
  intro b h
  rcases List.mem_or_eq_of_mem_set h with h | h
  · exact hb b h
  · omega
theorem turns_len (i : Nat) : ∀ (ts l : List Nat), (turns l i ts).length = l.length
  | [], _ => rfl
  | t :: ts, l => by
    have := turns_len i ts (turn l (i + t))
    rw [turn_len] at this
    exact this
theorem turns_bit (i : Nat) : ∀ (ts : List Nat) {l : List Nat}, (∀ b ∈ l, b < 2) → ∀ b ∈ turns l i ts, b < 2
  | [], _, h => h
  | t :: ts, l, h => turns_bit i ts (l := turn l (i + t)) (turn_bit h _)
theorem turns_at (i : Nat) : ∀ (ts : List Nat) {l : List Nat}, (∀ b ∈ l, b < 2) → ts.Nodup → (∀ t ∈ ts, i + t < l.length) → ∀ k, (turns l i ts).getD k 0 = l.getD k 0 ^^^ (if i ≤ k ∧ k - i ∈ ts then 1 else 0)
  | [], _, _, _, _, _ => by simp [turns]
  | t :: ts, l, hb, hn, hl, k => by
    have ih := turns_at i ts (l := turn l (i + t)) (turn_bit hb _) (List.nodup_cons.1 hn).2 (fun x hx => by rw [turn_len]; exact hl x (List.mem_cons_of_mem _ hx)) k
    have ht := (List.nodup_cons.1 hn).1
    show (turns (turn l (i + t)) i ts).getD k 0 = _
    rw [ih, turn_at hb (hl t List.mem_cons_self), Nat.xor_assoc]
    congr 1
    by_cases h1 : k = i + t
    · subst h1
      simp [ht]
    · have h2 : (i ≤ k ∧ k - i ∈ t :: ts) ↔ (i ≤ k ∧ k - i ∈ ts) := by
        constructor
        · rintro ⟨h3, h4⟩
          rcases List.mem_cons.1 h4 with h4 | h4
          · omega
          · exact ⟨h3, h4⟩
        · rintro ⟨h3, h4⟩
          exact ⟨h3, List.mem_cons_of_mem _ h4⟩
      rw [if_neg h1, Nat.zero_xor]
      simp only [h2]
/-- From place i on the row is what came in, with the register laid over its next 32 places. -/
def Laid (m : List Nat) (i c : Nat) (l : List Nat) : Prop :=
  l.length = m.length ∧ (∀ b ∈ l, b < 2) ∧ c < 4294967296 ∧ ∀ k, i ≤ k → l.getD k 0 = m.getD k 0 ^^^ bitN c (k - i)
def away (l : List Nat) (i : Nat) : List Nat := if l.getD i 0 = 1 then turns l i terms else l
theorem getD_bit {l : List Nat} (hb : ∀ b ∈ l, b < 2) (k : Nat) : l.getD k 0 < 2 := by
  rw [List.getD_eq_getElem?_getD]
  rcases Nat.lt_or_ge k l.length with h | h
  · rw [List.getElem?_eq_getElem h]
    exact hb _ (List.getElem_mem h)
  · rw [List.getElem?_eq_none h]
    decide
theorem laid_away {m l : List Nat} {i c : Nat} (hm : ∀ b ∈ m, b < 2) (h : Laid m i c l) (hi : i + 32 < m.length) : Laid m (i + 1) (step c (m.getD i 0)) (away l i) := by
  obtain ⟨h1, h2, h3, h4⟩ := h
  have hb := getD_bit hm i
  have h0 := h4 i (Nat.le_refl _)
  rw [Nat.sub_self, bitN_zero] at h0
  have hx2 : (c ^^^ m.getD i 0) / 2 = c / 2 := by
    rw [xor_div2, Nat.div_eq_of_lt hb, Nat.xor_zero]
  have hx1 : (c ^^^ m.getD i 0) % 2 = l.getD i 0 := by
    rw [xor_mod2, h0]
    generalize m.getD i 0 = x at *
    have hx : x = 0 ∨ x = 1 := by omega
    rcases Nat.mod_two_eq_zero_or_one c with hc | hc <;> rcases hx with rfl | rfl <;> simp [hc]
  have hcl : step c (m.getD i 0) < 4294967296 := bit1_lt (Nat.xor_lt_two_pow (n := 32) h3 (by omega))
  unfold away
  by_cases hone : l.getD i 0 = 1
  · rw [if_pos hone]
    have hs : step c (m.getD i 0) = (c / 2) ^^^ poly := by
      unfold step bit1
      rw [hx1, hone, hx2, if_pos rfl]
    refine ⟨by rw [turns_len, h1], turns_bit i terms h2, hcl, fun k hk => ?_⟩
    rw [turns_at i terms h2 (by decide) (fun t ht => by have : t ≤ 32 := (by revert t; decide); omega) k, h4 k (by omega), hs, bitN_xor, bitN_half, Nat.xor_assoc]
    congr 1
    rw [show k - (i + 1) + 1 = k - i by omega]
    congr 1
    by_cases hk2 : k - (i + 1) < 32
    · have ht := terms_fin ⟨k - (i + 1), hk2⟩
      simp only at ht
      rw [ht, show k - (i + 1) + 1 = k - i by omega]
      simp [show i ≤ k by omega]
    · have hno : ¬ (k - i ∈ terms) := fun hmem => by
        have : k - i ≤ 32 := by
          have hall : ∀ t ∈ terms, t ≤ 32 := by decide
          exact hall _ hmem
        omega
      rw [if_neg (fun h => hno h.2), bitN_high (Nat.lt_of_lt_of_le (show poly < 2 ^ 32 by decide) (Nat.pow_le_pow_right (by decide) (by omega)))]
  · rw [if_neg hone]
    have hz : l.getD i 0 = 0 := by have := getD_bit h2 i; omega
    have hs : step c (m.getD i 0) = c / 2 := by
      unfold step bit1
      rw [hx1, hz, hx2, if_neg (by decide)]
    refine ⟨h1, h2, hcl, fun k hk => ?_⟩
    rw [h4 k (by omega), hs, bitN_half, show k - (i + 1) + 1 = k - i by omega]

/-- All places, one by one. -/
def aways (l : List Nat) : Nat → List Nat
  | 0 => l
  | i + 1 => away (aways l i) i
theorem take_snoc' {m : List Nat} {i : Nat} (h : i < m.length) : m.take (i + 1) = m.take i ++ [m.getD i 0] := by
  rw [List.take_add_one, List.getElem?_eq_getElem h, List.getD_eq_getElem?_getD, List.getElem?_eq_getElem h]
  rfl
theorem laid_aways {m l : List Nat} {c : Nat} (hm : ∀ b ∈ m, b < 2) (h : Laid m 0 c l) : ∀ i, i + 32 ≤ m.length → Laid m i (feed c (m.take i)) (aways l i)
  | 0, _ => h
  | i + 1, hi => by
    have ih := laid_away hm (laid_aways hm h i (by omega)) (by omega)
    rw [take_snoc' (by omega), feed_app]
    exact ih
/-- The start: the first 32 turned is a register of ones. -/
theorem laid_start {m : List Nat} (hm : ∀ b ∈ m, b < 2) (hl : 32 ≤ m.length) : Laid m 0 start (turns m 0 (List.range 32)) := by
  refine ⟨turns_len _ _ _, turns_bit 0 _ hm, by decide, fun k _ => ?_⟩
  rw [turns_at 0 (List.range 32) hm (by decide) (fun t ht => by have := List.mem_range.1 ht; omega) k]
  congr 1
  by_cases hk : k < 32
  · have hfin : ∀ k : Fin 32, bitN start k.val = 1 := by decide +kernel
    have h1 := hfin ⟨k, hk⟩
    simp only at h1
    simp [hk, h1]
  · rw [bitN_high (Nat.lt_of_lt_of_le (show start < 2 ^ 32 by decide) (Nat.pow_le_pow_right (by decide) (by omega)))]
    simp [hk]
/-- What is left at the end, the other way round and turned: the sum. n places ahead of the last 32. -/
def told (l : List Nat) (n : Nat) : Nat → Nat
  | 0 => 0
  | j + 1 => told l n j + (1 - l.getD (n + j) 0) * 2 ^ j
theorem told_of (l : List Nat) (n c : Nat) (hc : c < 4294967296) (h : ∀ k, k < 32 → l.getD (n + k) 0 = bitN c k) : told l n 32 = c ^^^ start := by
  have hj : ∀ j, j ≤ 32 → told l n j = (c ^^^ start) % 2 ^ j := by
    intro j
    induction j with
    | zero => intro _; simp [told, Nat.mod_one]
    | succ j ih =>
      intro hle
      have hs : bitN (c ^^^ start) j = 1 - bitN c j := by
        have hfin : ∀ k : Fin 32, bitN start k.val = 1 := by decide +kernel
        have h1 := hfin ⟨j, by omega⟩
        simp only at h1
        rw [bitN_xor, h1]
        have := bitN_lt c j
        have h2 : bitN c j = 0 ∨ bitN c j = 1 := by omega
        rcases h2 with h2 | h2 <;> simp [h2]
      have hb : (c ^^^ start) / 2 ^ j % 2 = bitN (c ^^^ start) j := by
        unfold bitN
        rw [Nat.testBit_eq_decide_div_mod_eq]
        rcases Nat.mod_two_eq_zero_or_one ((c ^^^ start) / 2 ^ j) with h2 | h2 <;> simp [h2]
      rw [told, ih (by omega), h j (by omega), ← hs, ← hb, Nat.pow_succ, Nat.mod_mul, Nat.mul_comm (2 ^ j)]
  rw [hj 32 (Nat.le_refl _)]
  exact Nat.mod_eq_of_lt (Nat.xor_lt_two_pow (n := 32) hc (by decide))
/-- **The polynomial taken away, place by place, leaves the sum.** -/
theorem told_sum (xs : List Nat) : told (aways (turns (bitsOf xs ++ List.replicate 32 0) 0 (List.range 32)) (bitsOf xs).length) (bitsOf xs).length 32 = sumOf xs := by
  have hm : ∀ b ∈ bitsOf xs ++ List.replicate 32 0, b < 2 := by
    intro b hb
    rcases List.mem_append.1 hb with hb | hb
    · exact bitsOf_bit xs b hb
    · rw [List.eq_of_mem_replicate hb]; decide
  have h := laid_aways hm (laid_start hm (by simp)) (bitsOf xs).length (by simp)
  rw [List.take_left] at h
  obtain ⟨_, _, h3, h4⟩ := h
  refine told_of _ _ _ h3 (fun k hk => ?_)
  rw [h4 _ (by omega), Nat.add_sub_cancel_left]
  have hz : (bitsOf xs ++ List.replicate 32 0).getD ((bitsOf xs).length + k) 0 = 0 := by
    rw [List.getD_eq_getElem?_getD, List.getElem?_append_right (by omega), Nat.add_sub_cancel_left, List.getElem?_replicate]
    simp [hk]
  rw [hz, Nat.zero_xor]

/-! ### bits turned within bytes -/
theorem lows_at : ∀ (n w k : Nat), k < n → (lows w n).getD k 0 = bitN w k
  | 0, _, _, h => by omega
  | n + 1, w, 0, _ => by rw [bitN_zero]; rfl
  | n + 1, w, k + 1, h => by
    have ih := lows_at n (w / 2) k (by omega)
    rw [bitN_half] at ih
    rw [← ih]
    rfl
theorem bitsOf_at : ∀ (xs : List Nat) (i j : Nat), i < xs.length → j < 8 → (bitsOf xs).getD (8 * i + j) 0 = bitN (xs.getD i 0) j
  | [], i, _, h, _ => by simp at h
  | x :: xs, 0, j, _, hj => by
    have e : bitsOf (x :: xs) = lows x 8 ++ bitsOf xs := by simp [bitsOf]
    rw [e, List.getD_eq_getElem?_getD, List.getElem?_append_left (by rw [lows_len]; omega), ← List.getD_eq_getElem?_getD, show 8 * 0 + j = j by omega, lows_at 8 x j hj]
    rfl
  | x :: xs, i + 1, j, h, hj => by
    have ih := bitsOf_at xs i j (by simpa using h) hj
    have e : bitsOf (x :: xs) = lows x 8 ++ bitsOf xs := by simp [bitsOf]
    rw [e, List.getD_eq_getElem?_getD, List.getElem?_append_right (by rw [lows_len]; omega), lows_len, show 8 * (i + 1) + j - 8 = 8 * i + j by omega, ← List.getD_eq_getElem?_getD, ih]
    rfl
theorem ext_getD {u v : List Nat} (h : u.length = v.length) (hk : ∀ k, k < u.length → u.getD k 0 = v.getD k 0) : u = v := by
  apply List.ext_getElem h
  intro k h1 h2
  have := hk k h1
  simpa [List.getD_eq_getElem?_getD, List.getElem?_eq_getElem h1, List.getElem?_eq_getElem h2] using this
theorem bitN_pow (j k : Nat) : bitN (2 ^ j) k = if k = j then 1 else 0 := by
  unfold bitN
  rw [Nat.testBit_two_pow]
  by_cases h : j = k
  · simp [h]
  · simp [h, Ne.symm h]
/-- One bit of one byte turned. -/
def flip (xs : List Nat) (p : Nat) : List Nat := xs.set (p / 8) (xs.getD (p / 8) 0 ^^^ 2 ^ (p % 8))
theorem flip_bits (xs : List Nat) {p : Nat} (hp : p < 8 * xs.length) : bitsOf (flip xs p) = turn (bitsOf xs) p := by
  have hl : (flip xs p).length = xs.length := by simp [flip]
  refine ext_getD (by rw [turn_len, bitsOf_len, bitsOf_len, hl]) (fun k hk => ?_)
  rw [bitsOf_len, hl] at hk
  have hki : k / 8 < xs.length := by omega
  have e : k = 8 * (k / 8) + k % 8 := by omega
  rw [turn_at (bitsOf_bit xs) (by rw [bitsOf_len]; exact hp)]
  have h1 := bitsOf_at (flip xs p) (k / 8) (k % 8) (by rw [hl]; exact hki) (by omega)
  have h2 := bitsOf_at xs (k / 8) (k % 8) hki (by omega)
  rw [← e] at h1 h2
  rw [h1, h2]
  unfold flip
  rw [List.getD_eq_getElem?_getD, List.getElem?_set]
  by_cases hpk : p / 8 = k / 8
  · rw [if_pos hpk, if_pos (by rw [hpk]; exact hki), Option.getD_some, bitN_xor, bitN_pow, hpk]
    congr 1
    by_cases hq : k = p
    · simp [hq]
    · rw [if_neg hq, if_neg (by omega)]
  · rw [if_neg hpk, if_neg (by rintro rfl; exact hpk rfl), Nat.xor_zero, ← List.getD_eq_getElem?_getD]
theorem flip_byte {xs : List Nat} (h : ∀ x ∈ xs, x < 256) (p : Nat) : ∀ x ∈ flip xs p, x < 256 := by
  intro x hx
  rcases List.mem_or_eq_of_mem_set hx with hx | rfl
  · exact h x hx
  · have h1 : xs.getD (p / 8) 0 < 2 ^ 8 := by
      rw [List.getD_eq_getElem?_getD]
      rcases Nat.lt_or_ge (p / 8) xs.length with hi | hi
      · rw [List.getElem?_eq_getElem hi]
        exact h _ (List.getElem_mem hi)
      · rw [List.getElem?_eq_none hi]
        decide
    exact Nat.xor_lt_two_pow h1 (Nat.pow_lt_pow_right (by decide) (by omega))
/-- Those of the first k bits of a burst that are ones, turned from place p on. -/
def flips (xs : List Nat) (p w : Nat) : Nat → List Nat
  | 0 => xs
  | k + 1 => if bitN w k = 1 then flip (flips xs p w k) (p + k) else flips xs p w k
theorem flips_len (xs : List Nat) (p w : Nat) : ∀ k, (flips xs p w k).length = xs.length
  | 0 => rfl
  | k + 1 => by
    rw [flips]
    split
    · simp [flip, flips_len xs p w k]
    · exact flips_len xs p w k
theorem flips_byte {xs : List Nat} (h : ∀ x ∈ xs, x < 256) (p w : Nat) : ∀ k, ∀ x ∈ flips xs p w k, x < 256
  | 0 => h
  | k + 1 => by
    rw [flips]
    split
    · exact flip_byte (flips_byte h p w k) _
    · exact flips_byte h p w k
theorem flips_at (xs : List Nat) (p w : Nat) : ∀ k, p + k ≤ 8 * xs.length → ∀ i, (bitsOf (flips xs p w k)).getD i 0 = (bitsOf xs).getD i 0 ^^^ (if p ≤ i ∧ i < p + k then bitN w (i - p) else 0)
  | 0, _, i => by
    rw [flips, if_neg (by omega), Nat.xor_zero]
  | k + 1, h, i => by
    have ih := flips_at xs p w k (by omega) i
    have hb := bitN_lt w k
    rw [flips]
    by_cases h1 : bitN w k = 1
    · rw [if_pos h1, flip_bits _ (by rw [flips_len]; omega), turn_at (bitsOf_bit _) (by rw [bitsOf_len, flips_len]; omega), ih, Nat.xor_assoc]
      congr 1
      by_cases hi : i = p + k
      · subst hi
        rw [if_neg (by omega), if_pos rfl, if_pos (by omega), Nat.add_sub_cancel_left, h1, Nat.zero_xor]
      · rw [if_neg hi, Nat.xor_zero]
        by_cases h2 : p ≤ i ∧ i < p + k
        · rw [if_pos h2, if_pos (by omega)]
        · rw [if_neg h2, if_neg (by omega)]
    · have h0 : bitN w k = 0 := by omega
      rw [if_neg h1, ih]
      congr 1
      by_cases hi : i = p + k
      · subst hi
        rw [if_neg (by omega), if_pos (by omega), Nat.add_sub_cancel_left, h0]
      · by_cases h2 : p ≤ i ∧ i < p + k
        · rw [if_pos h2, if_pos (by omega)]
        · rw [if_neg h2, if_neg (by omega)]
theorem xl_at {u v : List Nat} (h : u.length = v.length) (k : Nat) : (xl u v).getD k 0 = u.getD k 0 ^^^ v.getD k 0 := by
  unfold xl
  simp only [List.getD_eq_getElem?_getD, List.getElem?_zipWith]
  rcases Nat.lt_or_ge k u.length with hk | hk
  · rw [List.getElem?_eq_getElem hk, List.getElem?_eq_getElem (by omega)]
    rfl
  · rw [List.getElem?_eq_none hk, List.getElem?_eq_none (by omega)]
    rfl
theorem xl_len {u v : List Nat} (h : u.length = v.length) : (xl u v).length = u.length := by
  unfold xl
  rw [List.length_zipWith]
  omega
theorem pattern_at (p w q i : Nat) : (List.replicate p 0 ++ (lows w 32 ++ List.replicate q 0)).getD i 0 = if p ≤ i ∧ i < p + 32 then bitN w (i - p) else 0 := by
  rw [List.getD_eq_getElem?_getD]
  by_cases h1 : i < p
  · have hr : ¬ (p ≤ i ∧ i < p + 32) := by omega
    rw [if_neg hr, List.getElem?_append_left (by simpa using h1), List.getElem?_replicate]
    simp [h1]
  · rw [List.getElem?_append_right (by simp; omega), List.length_replicate]
    by_cases h2 : i < p + 32
    · rw [List.getElem?_append_left (by rw [lows_len]; omega), ← List.getD_eq_getElem?_getD, lows_at 32 w _ (by omega), if_pos (by omega)]
    · have hr : ¬ (p ≤ i ∧ i < p + 32) := by omega
      rw [if_neg hr, List.getElem?_append_right (by rw [lows_len]; omega), List.getElem?_replicate]
      split <;> rfl
theorem flips_bits (xs : List Nat) (p q w : Nat) (h : 8 * xs.length = p + (32 + q)) : bitsOf (flips xs p w 32) = xl (bitsOf xs) (List.replicate p 0 ++ (lows w 32 ++ List.replicate q 0)) := by
  have hl : (bitsOf xs).length = (List.replicate p 0 ++ (lows w 32 ++ List.replicate q 0)).length := by simp [bitsOf_len, lows_len, h]
  refine ext_getD (by rw [xl_len hl, bitsOf_len, bitsOf_len, flips_len]) (fun i _ => ?_)
  rw [flips_at xs p w 32 (by omega) i, xl_at hl, pattern_at]
/-- **Bytes that end with their sum, and a burst of 32 neighbours within them: they do still just if the burst is none.** -/
theorem tells {xs : List Nat} (h : feed start (bitsOf xs) = rest) {p w : Nat} (hw : w < 4294967296) (hp : p + 32 ≤ 8 * xs.length) : feed start (bitsOf (flips xs p w 32)) = rest ↔ w = 0 := by
  obtain ⟨q, hq⟩ : ∃ q, 8 * xs.length = p + (32 + q) := ⟨8 * xs.length - p - 32, by omega⟩
  rw [flips_bits xs p q w hq]
  exact spoilt_iff h hw (by rw [bitsOf_len]; exact hq)
/-- The four bytes of a number are its 32 bits. -/
theorem word_bits (w : Nat) : bitsOf [w % 256, w / 256 % 256, w / 65536 % 256, w / 16777216 % 256] = lows w 32 := by
  refine ext_getD (by rw [bitsOf_len, lows_len]; rfl) (fun k hk => ?_)
  rw [bitsOf_len] at hk
  simp only [List.length_cons, List.length_nil] at hk
  rw [lows_at 32 w k (by omega)]
  have e : k = 8 * (k / 8) + k % 8 := by omega
  have h := bitsOf_at [w % 256, w / 256 % 256, w / 65536 % 256, w / 16777216 % 256] (k / 8) (k % 8) (by simp; omega) (by omega)
  rw [← e] at h
  rw [h]
  have hc : k / 8 = 0 ∨ k / 8 = 1 ∨ k / 8 = 2 ∨ k / 8 = 3 := by omega
  have hb : ∀ s, bitN (w / 2 ^ s % 256) (k % 8) = bitN w (k % 8 + s) := by
    intro s
    unfold bitN
    rw [show (256 : Nat) = 2 ^ 8 from rfl, Nat.testBit_mod_two_pow, Nat.testBit_div_two_pow]
    simp [show k % 8 < 8 by omega]
  rcases hc with hc | hc | hc | hc <;> rw [hc]
  · have := hb 0
    simp only [Nat.pow_zero, Nat.div_one] at this
    have e2 : k = k % 8 + 0 := by omega
    conv => rhs; rw [e2]
    simpa using this
  · have := hb 8
    have e2 : k = k % 8 + 8 := by omega
    conv => rhs; rw [e2]
    simpa using this
  · have := hb 16
    have e2 : k = k % 8 + 16 := by omega
    conv => rhs; rw [e2]
    simpa using this
  · have := hb 24
    have e2 : k = k % 8 + 24 := by omega
    conv => rhs; rw [e2]
    simpa using this
end Go.Proofs.Ytbehchibgkgpbaa.Cp

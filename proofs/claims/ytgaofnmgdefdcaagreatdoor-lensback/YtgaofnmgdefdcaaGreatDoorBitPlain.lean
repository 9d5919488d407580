/- Bits, the highest first, plain data alone: of numbers, of bytes; bytes out of them, noughts behind. No program is named here. -/
import Derived.Test.YtgaofnmgdefdcaaGreatDoorJGenHufPm
namespace Go.Proofs.YtgaofnmgdefdcaaGreatDoor.Bp

/-- A number's lowest s bits, the highest first. -/
def tb : Nat → Nat → List Nat
  | _, 0 => []
  | n, s + 1 => tb (n / 2) s ++ [n % 2]
theorem tb_len : ∀ (s n : Nat), (tb n s).length = s
  | 0, _ => rfl
  | s + 1, n => by simp [tb, tb_len s]
theorem tb_bit : ∀ (s n : Nat), ∀ b ∈ tb n s, b < 2
  | 0, _ => by simp [tb]
  | s + 1, n => by
    intro b hb
    simp only [tb, List.mem_append, List.mem_singleton] at hb
    rcases hb with hb | rfl
    · exact tb_bit s _ b hb
    · omega
/-- In two pieces. -/
theorem tb_split (x : Nat) : ∀ (y n : Nat), tb n (x + y) = tb (n / 2 ^ y) x ++ tb n y
  | 0, n => by simp [tb]
  | y + 1, n => by
    have ih := tb_split x y (n / 2)
    rw [show x + (y + 1) = (x + y) + 1 by omega, tb, ih, tb, List.append_assoc, Nat.div_div_eq_div_mul, ← Nat.pow_succ']
/-- From the other end. -/
theorem tb_cons (s n : Nat) : tb n (s + 1) = (n / 2 ^ s % 2) :: tb n s := by
  have h := tb_split 1 s n
  rw [Nat.add_comm] at h
  rw [h]
  rfl
/-- Bits above those that are looked at don't matter. -/
theorem tb_mod : ∀ (s k n : Nat), s ≤ k → tb (n % 2 ^ k) s = tb n s
  | 0, _, _, _ => rfl
  | s + 1, 0, _, h => by omega
  | s + 1, k + 1, n, h => by
    have h1 : n % 2 ^ (k + 1) / 2 = n / 2 % 2 ^ k := by rw [Nat.pow_succ', Nat.mod_mul_right_div_self]
    have h2 : n % 2 ^ (k + 1) % 2 = n % 2 := Nat.mod_mod_of_dvd n ⟨2 ^ k, by rw [Nat.pow_succ']⟩
    rw [tb, h1, h2, tb_mod s k (n / 2) (by omega), tb]
/-- What 64 bits keep of a number's lowest s bits behind others. -/
def push (last n s : Nat) : Nat := last * 2 ^ s % 18446744073709551616 + n % 2 ^ s
theorem push_mul {s : Nat} (last : Nat) (hs : s ≤ 64) : last * 2 ^ s % 18446744073709551616 = last % 2 ^ (64 - s) * 2 ^ s := by
  have h : 18446744073709551616 = 2 ^ (64 - s) * 2 ^ s := by
    rw [← Nat.pow_add, show 64 - s + s = 64 by omega]
  rw [h, Nat.mul_mod_mul_right]
theorem push_or {s : Nat} (last n : Nat) (hs : s ≤ 64) : (last * 2 ^ s % 18446744073709551616) ||| (n % 2 ^ s) = push last n s := by
  unfold push
  rw [push_mul last hs, Nat.mul_comm, ← Nat.two_pow_add_eq_or_of_lt (Nat.mod_lt _ (Nat.two_pow_pos s))]
theorem push_lt {s : Nat} (last n : Nat) (hs : s ≤ 64) : push last n s < 18446744073709551616 := by
  unfold push
  rw [push_mul last hs]
  have h : 18446744073709551616 = 2 ^ (64 - s) * 2 ^ s := by
    rw [← Nat.pow_add, show 64 - s + s = 64 by omega]
  have h1 := Nat.mod_lt last (Nat.two_pow_pos (64 - s))
  have h2 := Nat.mod_lt n (Nat.two_pow_pos s)
  generalize last % 2 ^ (64 - s) = a at *
  generalize n % 2 ^ s = b at *
  rw [h]
  have h3 : (a + 1) * 2 ^ s ≤ 2 ^ (64 - s) * 2 ^ s := Nat.mul_le_mul_right _ h1
  rw [Nat.add_mul] at h3
  omega
theorem push_tb {last n s o : Nat} (h : o + s ≤ 64) : tb (push last n s) (o + s) = tb last o ++ tb n s := by
  have h2 := Nat.mod_lt n (Nat.two_pow_pos s)
  rw [tb_split]
  congr 1
  · have e : push last n s / 2 ^ s = last % 2 ^ (64 - s) := by
      unfold push
      rw [push_mul last (by omega), Nat.mul_comm, Nat.mul_add_div (Nat.two_pow_pos s), Nat.div_eq_of_lt h2, Nat.add_zero]
    rw [e, tb_mod o (64 - s) last (by omega)]
  · have e : push last n s % 2 ^ s = n % 2 ^ s := by
      unfold push
      rw [push_mul last (by omega), Nat.mul_comm, Nat.mul_add_mod, Nat.mod_mod]
    rw [← tb_mod s s (push last n s) (Nat.le_refl _), e, tb_mod s s n (Nat.le_refl _)]
/-- A byte out of the open bits: the eight that lie highest. -/
theorem shift_tb (last o : Nat) : tb last (o + 8) = tb (last / 2 ^ o % 256) 8 ++ tb last o := by
  rw [Nat.add_comm, tb_split]
  congr 1
  exact (tb_mod 8 8 (last / 2 ^ o) (Nat.le_refl _)).symm
/-- Bits as a number. -/
def num (l : List Nat) : Nat := l.foldl (fun a b => a * 2 + b) 0
theorem num_snoc (l : List Nat) (b : Nat) : num (l ++ [b]) = num l * 2 + b := by simp [num]
theorem num_tb : ∀ (s n : Nat), num (tb n s) = n % 2 ^ s
  | 0, n => by simp [tb, num, Nat.mod_one]
  | s + 1, n => by
    rw [tb, num_snoc, num_tb s, Nat.pow_succ', Nat.mod_mul]
    omega
theorem snoc_of {l : List Nat} (h : l ≠ []) : ∃ u b, l = u ++ [b] := ⟨l.dropLast, l.getLast h, (List.dropLast_concat_getLast h).symm⟩
theorem tb_num : ∀ (s : Nat) (l : List Nat), l.length = s → (∀ b ∈ l, b < 2) → tb (num l) s = l ∧ num l < 2 ^ s
  | 0, l, hl, _ => by
    obtain rfl := List.eq_nil_of_length_eq_zero hl
    simp [tb, num]
  | s + 1, l, hl, hb => by
    obtain ⟨u, b, rfl⟩ := snoc_of (l := l) (by rintro rfl; simp at hl)
    have h1 := hb b (by simp)
    obtain ⟨h2, h3⟩ := tb_num s u (by simpa using hl) (fun c hc => hb c (by simp [hc]))
    rw [num_snoc, tb, show (num u * 2 + b) / 2 = num u by omega, h2, show (num u * 2 + b) % 2 = b by omega, Nat.pow_succ]
    exact ⟨rfl, by omega⟩
theorem num_app (u : List Nat) : ∀ v : List Nat, (∀ b ∈ v, b < 2) → num (u ++ v) = num u * 2 ^ v.length + num v := by
  intro v hv
  obtain ⟨n, hn⟩ : ∃ n, v.length = n := ⟨_, rfl⟩
  induction n generalizing v with
  | zero =>
    obtain rfl := List.eq_nil_of_length_eq_zero hn
    simp [num]
  | succ n ih =>
    obtain ⟨w, b, rfl⟩ := snoc_of (l := v) (by rintro rfl; simp at hn)
    have h := ih w (fun c hc => hv c (by simp [hc])) (by simpa using hn)
    rw [← List.append_assoc, num_snoc, h, num_snoc, List.length_append, List.length_singleton, Nat.pow_succ, Nat.add_mul, Nat.mul_assoc]
    omega

/-- The bits of bytes. -/
def ofB (xs : List Nat) : List Nat := xs.flatMap fun x => tb x 8
theorem ofB_cons (x : Nat) (xs : List Nat) : ofB (x :: xs) = tb x 8 ++ ofB xs := by simp [ofB]
theorem ofB_app (xs ys : List Nat) : ofB (xs ++ ys) = ofB xs ++ ofB ys := by simp [ofB]
theorem ofB_len : ∀ xs, (ofB xs).length = 8 * xs.length
  | [] => rfl
  | x :: xs => by
    rw [ofB_cons, List.length_append, tb_len, ofB_len xs, List.length_cons]
    omega
theorem ofB_bit (xs : List Nat) : ∀ b ∈ ofB xs, b < 2 := by
  intro b hb
  simp only [ofB, List.mem_flatMap] at hb
  obtain ⟨x, _, hb⟩ := hb
  exact tb_bit 8 x b hb
theorem ofB_inj : ∀ {xs ys : List Nat}, (∀ x ∈ xs, x < 256) → (∀ y ∈ ys, y < 256) → ofB xs = ofB ys → xs = ys
  | [], [], _, _, _ => rfl
  | [], y :: ys, _, _, h => by
    have := congrArg List.length h
    simp [ofB_len] at this
  | x :: xs, [], _, _, h => by
    have := congrArg List.length h
    simp [ofB_len] at this
  | x :: xs, y :: ys, hx, hy, h => by
    rw [ofB_cons, ofB_cons] at h
    obtain ⟨h1, h2⟩ := List.append_inj h (by rw [tb_len, tb_len])
    have h3 := congrArg num h1
    rw [num_tb, num_tb, Nat.mod_eq_of_lt (hx x List.mem_cons_self), Nat.mod_eq_of_lt (hy y List.mem_cons_self)] at h3
    rw [h3, ofB_inj (fun z hz => hx z (List.mem_cons_of_mem _ hz)) (fun z hz => hy z (List.mem_cons_of_mem _ hz)) h2]
/-- How many noughts fill the last byte. -/
def gap (n : Nat) : Nat := (8 - n % 8) % 8
/-- Bytes out of bits, noughts behind: those whose bits these are. -/
def IsPack (l xs : List Nat) : Prop := (∀ x ∈ xs, x < 256) ∧ ofB xs = l ++ List.replicate (gap l.length) 0
theorem pack_one {l xs ys : List Nat} (h : IsPack l xs) (h' : IsPack l ys) : xs = ys := ofB_inj h.1 h'.1 (h.2.trans h'.2.symm)
theorem pack_len {l xs : List Nat} (h : IsPack l xs) : xs.length = (l.length + 7) / 8 := by
  have h1 := congrArg List.length h.2
  rw [ofB_len, List.length_append, List.length_replicate] at h1
  unfold gap at h1
  omega
/-- Whole bytes, and what has begun of one more. -/
theorem pack_whole {xs : List Nat} (h : ∀ x ∈ xs, x < 256) : IsPack (ofB xs) xs := ⟨h, by rw [ofB_len]; simp [gap]⟩
theorem pack_part {xs u : List Nat} (h : ∀ x ∈ xs, x < 256) (hu : ∀ b ∈ u, b < 2) (h0 : 0 < u.length) (h8 : u.length < 8) : IsPack (ofB xs ++ u) (xs ++ [num u * 2 ^ (8 - u.length)]) := by
  obtain ⟨h1, h2⟩ := tb_num u.length u rfl hu
  have hp : num u * 2 ^ (8 - u.length) < 256 := by
    have h3 : 2 ^ u.length * 2 ^ (8 - u.length) = 256 := by rw [← Nat.pow_add, show u.length + (8 - u.length) = 8 by omega]
    have h4 := Nat.mul_lt_mul_of_pos_right h2 (Nat.two_pow_pos (8 - u.length))
    omega
  refine ⟨fun x hx => ?_, ?_⟩
  · rcases List.mem_append.1 hx with hx | hx
    · exact h x hx
    · rw [List.mem_singleton.1 hx]
      exact hp
  · have hz : ∀ (s m : Nat), tb (m * 2 ^ s) s = List.replicate s 0 := by
      intro s m
      induction s generalizing m with
      | zero => rfl
      | succ s ih =>
        rw [tb, Nat.pow_succ, ← Nat.mul_assoc, Nat.mul_div_cancel _ (by decide), ih, Nat.mul_mod_left, List.replicate_succ']
    have ht : tb (num u * 2 ^ (8 - u.length)) 8 = u ++ List.replicate (8 - u.length) 0 := by
      have h5 := tb_split u.length (8 - u.length) (num u * 2 ^ (8 - u.length))
      rw [show u.length + (8 - u.length) = 8 by omega, Nat.mul_div_cancel _ (Nat.two_pow_pos _), h1, hz] at h5
      exact h5
    rw [ofB_app, ofB_cons, ht]
    have hg : gap (ofB xs ++ u).length = 8 - u.length := by
      rw [List.length_append, ofB_len]
      unfold gap
      omega
    rw [hg]
    simp [ofB]
/-! ### a piece of the bits of bytes -/
theorem ofB_drop : ∀ (q : Nat) (xs : List Nat), ofB (xs.drop q) = (ofB xs).drop (8 * q)
  | 0, xs => by simp
  | q + 1, [] => by simp [ofB]
  | q + 1, x :: xs => by
    rw [List.drop_succ_cons, ofB_drop q xs, ofB_cons, show 8 * (q + 1) = 8 + 8 * q by omega, ← List.drop_drop, List.drop_left' (tb_len 8 x)]
theorem ofB_take : ∀ (m : Nat) (xs : List Nat), ofB (xs.take m) = (ofB xs).take (8 * m)
  | 0, xs => by simp [ofB]
  | m + 1, [] => by simp [ofB]
  | m + 1, x :: xs => by
    rw [List.take_succ_cons, ofB_cons, ofB_take m xs, ofB_cons, show 8 * (m + 1) = (tb x 8).length + 8 * m by rw [tb_len]; omega, List.take_length_add_append]
/-- So many bits from place k on. -/
def piece (l : List Nat) (k s : Nat) : List Nat := (l.drop k).take s
theorem piece_mid {xs : List Nat} {q m j s : Nat} (h : j + s ≤ 8 * m) : piece (ofB xs) (8 * q + j) s = piece (ofB ((xs.drop q).take m)) j s := by
  unfold piece
  rw [ofB_take, ofB_drop, List.drop_take, List.take_take, List.drop_drop, Nat.min_eq_left (by omega)]
theorem num_piece {l : List Nat} {j s r : Nat} (hb : ∀ b ∈ l, b < 2) (hl : l.length = j + s + r) : num l / 2 ^ r % 2 ^ s = num (piece l j s) := by
  obtain ⟨P, M, R, rfl, hP, hM, hR⟩ : ∃ P M R, l = P ++ (M ++ R) ∧ P.length = j ∧ M.length = s ∧ R.length = r := by
    refine ⟨l.take j, (l.drop j).take s, (l.drop j).drop s, ?_, ?_, ?_, ?_⟩
    · rw [List.take_append_drop, List.take_append_drop]
    all_goals simp
    all_goals omega
  have e : piece (P ++ (M ++ R)) j s = M := by
    unfold piece
    rw [List.drop_left' hP, List.take_left' hM]
  have hM2 := (tb_num s M hM (fun b h => hb b (by simp [h]))).2
  have hR2 := (tb_num r R hR (fun b h => hb b (by simp [h]))).2
  rw [e, num_app P (M ++ R) (fun b h => hb b (by simp only [List.mem_append] at h ⊢; exact .inr h)), num_app M R (fun b h => hb b (by simp [h])), List.length_append, hM, hR, Nat.pow_add]
  rw [show num P * (2 ^ s * 2 ^ r) + (num M * 2 ^ r + num R) = 2 ^ r * (2 ^ s * num P + num M) + num R by
    rw [Nat.mul_add, Nat.mul_comm (num M), ← Nat.add_assoc]; congr 2; rw [Nat.mul_comm (2 ^ s) (2 ^ r), Nat.mul_comm (num P), Nat.mul_assoc]]
  rw [Nat.mul_add_div (Nat.two_pow_pos r), Nat.div_eq_of_lt hR2, Nat.add_zero, Nat.mul_add_mod, Nat.mod_eq_of_lt hM2]
theorem num_byte {xs : List Nat} {x : Nat} (hx : x < 256) : num (ofB (xs ++ [x])) = num (ofB xs) * 256 + x := by
  rw [ofB_app, num_app _ _ (ofB_bit _), ofB_len]
  have : num (ofB [x]) = x := by
    rw [show ofB [x] = tb x 8 by simp [ofB], num_tb]
    omega
  rw [this]
  rfl
theorem num_ofB_lt (xs : List Nat) : num (ofB xs) < 2 ^ (8 * xs.length) := (tb_num _ _ (ofB_len xs) (ofB_bit xs)).2
theorem num_lt {l : List Nat} {s : Nat} (hl : l.length ≤ s) (hb : ∀ b ∈ l, b < 2) : num l < 2 ^ s :=
  Nat.lt_of_lt_of_le (tb_num _ l rfl hb).2 (Nat.pow_le_pow_right (by decide) hl)
theorem piece_bit {l : List Nat} (h : ∀ b ∈ l, b < 2) (k s : Nat) : ∀ b ∈ piece l k s, b < 2 := fun b hb => h b (List.mem_of_mem_drop (List.mem_of_mem_take hb))
theorem piece_len {l : List Nat} {k s : Nat} (h : k + s ≤ l.length) : (piece l k s).length = s := by
  unfold piece
  simp
  omega
end Go.Proofs.YtgaofnmgdefdcaaGreatDoor.Bp

/- itf's numbers as plain data: how many bytes follow, the bytes of a number; more and ones, call by call. Of each number the range of its kind is asked. -/
/- What wire's Reader does, call by call: what it takes, what is left, its first error; only its own block turns, and new memory is made. -/
import Derived.Test.YtgaofnmgdefdcaaGreatDoorBitLen
import Derived.Test.YtgaofnmgdefdcaaGreatDoorJGenBitPlain
import Derived.WalkSpells
import Derived.WalkLawsBesides
import Derived.Laws.BitsAllLaws
import Derived.Test.YtgaofnmgdefdcaaGreatDoorProg
import Derived.WalkKit
import Derived.Lib.Hide
import Derived.Maps.AppendAt
import Derived.BigQuiet
import Derived.Outline

namespace Go.Proofs.YtgaofnmgdefdcaaGreatDoor.It
open Go.RowKit Go.Proofs.YtgaofnmgdefdcaaGreatDoor.Gen

/-- How many bytes follow the first one. -/
def foll (n : Int) : Nat := if n < 128 then 0 else if n < 16384 then 1 else if n < 2097152 then 2 else if n < 268435456 then 3 else if n < 34359738368 then 4 else
  if n < 4398046511104 then 5 else if n < 562949953421312 then 6 else if n < 72057594037927936 then 7 else 8
theorem foll_le (n : Int) : foll n ≤ 8 := by
  unfold foll
  repeat' split
  all_goals omega
/-- A byte that begins with so many ones. -/
def onesOf (f : Nat) : Int := 256 - 2 ^ (8 - f)

theorem more_eq (n : Int) (h0 : 0 ≤ n) (h1 : n < 18446744073709551616) : min (max ((Lib.bitLen n.toNat : Int) - 1) 0 / 7) 8 = (foll n : Int) := by
  have hb : n.toNat < 2 ^ 64 := by omega
  have k7 := Bl.len_le (x := n.toNat) (k := 7) (by omega) hb
  have k14 := Bl.len_le (x := n.toNat) (k := 14) (by omega) hb
  have k21 := Bl.len_le (x := n.toNat) (k := 21) (by omega) hb
  have k28 := Bl.len_le (x := n.toNat) (k := 28) (by omega) hb
  have k35 := Bl.len_le (x := n.toNat) (k := 35) (by omega) hb
  have k42 := Bl.len_le (x := n.toNat) (k := 42) (by omega) hb
  have k49 := Bl.len_le (x := n.toNat) (k := 49) (by omega) hb
  have k56 := Bl.len_le (x := n.toNat) (k := 56) (by omega) hb
  have k64 := Lib.bitLen_le n.toNat 64 (by omega) hb
  generalize Lib.bitLen n.toNat = b at *
  unfold foll
  repeat' split
  all_goals omega

theorem more (n : Int) (w : World) (h0 : 0 ≤ n) (h1 : n < 18446744073709551616) : Calls Tryz.prog 88 #[.int .u64 n] w fun r w' => r = .returned (.int .i64 (foll n)) ∧ w' = w := by
  have H := Lib.hid (more_eq n h0 h1)
  have hl := Lib.bitLen_le n.toNat 64 (by omega) (by omega)
  go_enter Tryz.func88, Tryz.ntmps88
  go_wp2_with fail
  refine (Bl.len64 n w h0 h1).mono ?_
  rintro e w1 ⟨rfl, rfl⟩
  generalize Lib.bitLen n.toNat = b at *
  go_wp2
  go_ret
  exact ⟨by rw [← H.out]; rfl, rfl⟩
theorem xor_ones : ∀ f : Fin 9, bits .xor .u8 IntKind.u8.max (255 / 2 ^ f.val) = onesOf f.val := by decide +kernel
theorem ones (f : Nat) (w : World) (h : f ≤ 8) : Calls Tryz.prog 106 #[.int .i64 f] w fun r w' => r = .returned (.int .u8 (onesOf f)) ∧ w' = w := by
  have H := Lib.hid (xor_ones ⟨f, by omega⟩)
  go_enter Tryz.func106, Tryz.ntmps106
  go_wp2
  go_ret
  exact ⟨by rw [← H.out]; rfl, rfl⟩

theorem or_ones_fin : ∀ (f : Fin 9) (a : Fin 256), a.val < 2 ^ (8 - f.val) → bits .or .u8 (onesOf f.val) (a.val : Int) = onesOf f.val + a.val := by decide +kernel
theorem or_ones {f : Nat} {a : Int} (hf : f ≤ 8) (h0 : 0 ≤ a) (h1 : a < 2 ^ (8 - f)) : bits .or .u8 (onesOf f) a = onesOf f + a := by
  obtain ⟨a, rfl⟩ := Int.eq_ofNat_of_zero_le h0
  have hc : (2 : Int) ^ (8 - f) = ((2 ^ (8 - f) : Nat) : Int) := by simp
  rw [hc] at h1
  have h2 : a < 2 ^ (8 - f) := by omega
  have h3 : 2 ^ (8 - f) ≤ 2 ^ 8 := Nat.pow_le_pow_right (by decide) (by omega)
  exact or_ones_fin ⟨f, by omega⟩ ⟨a, by omega⟩ h2
theorem not_ones_fin : ∀ (f : Fin 9) (a : Fin 256), bits .andNot .u8 (a.val : Int) (onesOf f.val) = (a.val : Int) % 2 ^ (8 - f.val) := by decide +kernel
theorem not_ones {f : Nat} {a : Int} (hf : f ≤ 8) (h0 : 0 ≤ a) (h1 : a < 256) : bits .andNot .u8 a (onesOf f) = a % 2 ^ (8 - f) := by
  obtain ⟨a, rfl⟩ := Int.eq_ofNat_of_zero_le h0
  exact not_ones_fin ⟨f, by omega⟩ ⟨a, by omega⟩
/-- How many ones a byte begins with. -/
def lead (b : Int) : Nat := if b < 128 then 0 else if b < 192 then 1 else if b < 224 then 2 else if b < 240 then 3 else if b < 248 then 4 else if b < 252 then 5 else if b < 254 then 6 else if b < 255 then 7 else 8
theorem lead_fin : ∀ b : Fin 256, bits .xor .u8 IntKind.u8.max (b.val : Int) = 255 - (b.val : Int) ∧ (8 : Int) - Lib.bitLen (255 - b.val) = lead (b.val : Int) := by decide +kernel
theorem lead_eq {b : Int} (h0 : 0 ≤ b) (h1 : b < 256) : bits .xor .u8 IntKind.u8.max b = 255 - b ∧ (8 : Int) - Lib.bitLen (255 - b).toNat = lead b := by
  obtain ⟨b, rfl⟩ := Int.eq_ofNat_of_zero_le h0
  have h := lead_fin ⟨b, by omega⟩
  refine ⟨h.1, ?_⟩
  rw [show ((255 : Int) - (b : Int)).toNat = 255 - b by omega]
  exact h.2

/-! ### the bytes of a number -/
/-- The lowest f bytes of a number, the highest first. -/
def be : Int → Nat → List Int
  | _, 0 => []
  | n, f + 1 => be (n / 256) f ++ [n % 256]
theorem be_len : ∀ (f : Nat) (n : Int), (be n f).length = f
  | 0, _ => rfl
  | f + 1, n => by simp [be, be_len f]
theorem be_byte : ∀ (f : Nat) (n : Int), ∀ x ∈ be n f, 0 ≤ x ∧ x < 256
  | 0, _ => by simp [be]
  | f + 1, n => by
    intro x hx
    simp only [be, List.mem_append, List.mem_singleton] at hx
    rcases hx with hx | rfl
    · exact be_byte f _ x hx
    · omega
theorem be_at : ∀ (f : Nat) (n : Int) (i : Nat), i < f → (be n f)[i]? = some (n / 2 ^ (8 * (f - 1 - i)) % 256)
  | 0, _, _, h => by omega
  | f + 1, n, i, h => by
    simp only [be]
    by_cases hi : i < f
    · rw [List.getElem?_append_left (by rw [be_len]; exact hi), be_at f _ i hi, show 8 * (f + 1 - 1 - i) = 8 + 8 * (f - 1 - i) by omega, Int.pow_add, ← Int.ediv_ediv_of_nonneg (by decide)]
      rfl
    · have he : i = f := by omega
      subst he
      rw [List.getElem?_append_right (by rw [be_len]; exact Nat.le_refl _), be_len]
      simp
theorem be_cons : ∀ (j : Nat) (n : Int), be n (j + 1) = (n / 256 ^ j % 256) :: be n j
  | 0, n => by simp [be]
  | j + 1, n => by
    rw [be, be_cons j (n / 256), be, Int.pow_succ', ← Int.ediv_ediv_of_nonneg (by decide)]
    rfl
/-- The bytes of a number: the first tells how many follow, and has what is left of it. -/
def enc (n : Int) (f : Nat) : List Int := (onesOf f + n / 256 ^ f) :: be n f
theorem enc_len (n : Int) (f : Nat) : (enc n f).length = f + 1 := by simp [enc, be_len]
/-- What bytes tell, the highest first, behind n. -/
def val (n : Int) (xs : List Int) : Int := xs.foldl (fun n x => n * 256 + x) n
theorem val_snoc (n : Int) (xs : List Int) (x : Int) : val n (xs ++ [x]) = val n xs * 256 + x := by simp [val]
theorem val_be : ∀ (f : Nat) (n : Int), val (n / 256 ^ f) (be n f) = n
  | 0, n => by simp [val, be]
  | f + 1, n => by
    have h := val_be f (n / 256)
    rw [be, val_snoc, show n / 256 ^ (f + 1) = n / 256 / 256 ^ f by rw [Int.pow_succ', Int.ediv_ediv_of_nonneg (by decide)], h]
    omega
theorem be_val (m : Int) : ∀ (f : Nat) (xs : List Int), xs.length = f → (∀ x ∈ xs, 0 ≤ x ∧ x < 256) → be (val m xs) f = xs ∧ val m xs / 256 ^ f = m
  | 0, xs, hl, _ => by
    obtain rfl := List.eq_nil_of_length_eq_zero hl
    simp [be, val]
  | f + 1, xs, hl, h => by
    have hne : xs ≠ [] := by rintro rfl; simp at hl
    obtain ⟨ys, x, rfl⟩ : ∃ ys x, xs = ys ++ [x] := ⟨xs.dropLast, xs.getLast hne, (List.dropLast_concat_getLast hne).symm⟩
    have hx := h x (by simp)
    obtain ⟨h1, h2⟩ := be_val m f ys (by simpa using hl) (fun y hy => h y (by simp [hy]))
    have h3 : (val m ys * 256 + x) / 256 = val m ys := by omega
    rw [val_snoc, be]
    refine ⟨by rw [h3, h1]; congr 2; omega, ?_⟩
    rw [Int.pow_succ', ← Int.ediv_ediv_of_nonneg (by decide), h3, h2]

/-- The bytes of a number of 64 bits; of one of 32. -/
def encLong (n : Int) : List Int := enc n (foll n)
def encInt (n : Int) : List Int := if n < 268435456 then enc n (foll n) else enc (n / 16 * 256 + n % 16) 4
theorem foll_q (n : Int) (h0 : 0 ≤ n) (h1 : n < 18446744073709551616) : n / 256 ^ foll n < 2 ^ (8 - foll n) := by
  unfold foll
  repeat' split
  all_goals simp only [Nat.reduceSub, Nat.sub_zero, Nat.sub_self, Int.reducePow, Int.pow_zero]
  all_goals omega
theorem foll_int (n : Int) : foll n < 4 ↔ n < 268435456 := by
  unfold foll
  repeat' split
  all_goals omega
theorem or_low {a b : Int} {k : Nat} (ha : 0 ≤ a) (hb : 0 ≤ b) (hb' : b < 2 ^ k) (hs : a * 2 ^ k + b < 18446744073709551616) : bits .or .u64 (a * 2 ^ k) b = a * 2 ^ k + b := by
  obtain ⟨a, rfl⟩ := Int.eq_ofNat_of_zero_le ha
  obtain ⟨b, rfl⟩ := Int.eq_ofNat_of_zero_le hb
  have hc : (2 : Int) ^ k = ((2 ^ k : Nat) : Int) := by simp
  rw [hc] at hb' hs ⊢
  have h2 : b < 2 ^ k := by omega
  have ho := Nat.two_pow_add_eq_or_of_lt h2 a
  rw [← Int.natCast_mul] at hs ⊢
  rw [u64_or_nat (a * 2 ^ k) b (by omega) (by omega), Nat.mul_comm a, ← ho]
  omega

end Go.Proofs.YtgaofnmgdefdcaaGreatDoor.It

namespace Go.Proofs.YtgaofnmgdefdcaaGreatDoor.Wr
open Go.RowKit Go.Proofs.YtgaofnmgdefdcaaGreatDoor.Gen

theorem u8_info : (Tryz.prog.info? 5).map (fun i => (i.zero, i.size, i.bytes)) = some (some (.int .u8 0), 1, 1) := by kernel_rfl

/-- bytes.Clone: nil of nil. -/
theorem clone_nil (c : Nat) (w : World) : Calls Tryz.prog 71 #[.slice none 0 c] w fun r w' => r = .returned (.slice none 0 0) ∧ w = w' := by
  have he := fun (w : World) => Lib.run_eql_slice_nil (P := Tryz.prog) w 29 5 none 0 c 0 0 Tryz.underlying29
  go_enter Tryz.func71, Tryz.ntmps71
  go_wp2
  go_ret
  exact ⟨rfl, rfl⟩
/-- bytes.Clone: the same bytes, in a row of its own. -/
def Own (base n : Nat) (xs : List Int) (w : World) (r : Ending) (w' : World) : Prop :=
  ∃ A c, r = .returned (.slice A n c) ∧ w'.ownsRow base 5 1 (.slice A n c) n (bv xs) ∧ Keeps (fun _ => False) w w'
theorem clone_some (ad : Addr) (c : Nat) (xs : List Int) (w : World) (hl : Lies w (some ad) xs) (hn : xs.length ≤ 1000000) :
    Calls Tryz.prog 71 #[.slice (some ad) xs.length c] w (Own w.heap.size xs.length xs w) := by
  obtain ⟨i0, hi0, hz0, hz1, hz2⟩ := info_parts u8_info
  have he := fun (w : World) => Lib.run_eql_slice_nil (P := Tryz.prog) w 29 5 (some ad) xs.length c 0 0 Tryz.underlying29
  have hnews : ∀ j u, (bv xs)[j]? = some u → (w.alloc (.cells #[] 5)).cell? (ad.add j) = some u :=
    (hl.keeps (S := fun _ => False) ((Keeps.refl _ _).alloc _) (fun _ _ _ => id)).news
  go_enter Tryz.func71, Tryz.ntmps71
  go_wp2_with (
    at_builtin
    refine wpList_append_own_at _ rfl (.tmp 5) (.tmp 6) _ rfl w.heap.size 5 i0 _ 1 1 Tryz.underlying29 hi0 hz0 hz1 hz2 rfl (by omega) (.slice (some ⟨w.heap.size, 0, none⟩) 0 0) 0 [] rfl
      ⟨rfl, .inr ⟨w.heap.size, 0, #[], rfl, Nat.le_refl _, heap_alloc_new w _, Nat.le_refl _, by simp [maxLen], rfl, rfl⟩⟩ ad xs.length c (bv xs) rfl (by rw [bv_len]; omega) hnews (bv_one xs) (by simp only [maxLen]; omega) (by omega) (by simp) ?_
    intro v1 w1 hown1 hg1 hnil1 hat1)
  go_ret
  simp only [Nat.zero_add, List.nil_append] at hown1
  obtain ⟨A1, c1, rfl, _⟩ := own_form hown1
  refine ⟨A1, c1, rfl, hown1, ((Keeps.refl _ _).alloc _).grown hg1 (fun k hk => .inr (by simp [Value.ownBlock] at hk; omega))⟩
theorem clone (A : Option Addr) (c : Nat) (xs : List Int) (w : World) (hl : Lies w A xs) (hn : xs.length ≤ 1000000) :
    Calls Tryz.prog 71 #[.slice A xs.length c] w (Own w.heap.size xs.length xs w) := by
  rcases A with _ | ad
  · have hx : xs = [] := by
      rcases hl with h | ⟨b, o, h, _⟩
      · exact h
      · cases h
    subst hx
    exact (clone_nil c w).mono fun r w' ⟨hr, hw⟩ => ⟨none, 0, hr, World.ownsRow_nil _ _ _ _, by rw [hw]; exact Keeps.refl _ _⟩
  · exact clone_some ad c xs w hl hn

theorem clone_n (A : Option Addr) (n c : Nat) (xs : List Int) (w : World) (hx : xs.length = n) (hl : Lies w A xs) (hn : n ≤ 1000000) :
    Calls Tryz.prog 71 #[.slice A n c] w (Own w.heap.size n xs w) := by
  subst hx
  exact clone A c xs w hl hn

/-- A Reader as plain data: its bytes, how many were taken, its error. -/
structure RS where
  xs : List Int
  k : Nat
  e : Int
def RS.ok (s : RS) : Prop := s.k ≤ s.xs.length ∧ s.xs.length ≤ 1000000 ∧ ∀ x ∈ s.xs, 0 ≤ x ∧ x < 256
def RS.fail (s : RS) (e : Int) : RS := if s.e = 0 then { s with e := e } else s
def RS.left (s : RS) : Int := if s.e = 0 then (s.xs.length : Int) - s.k else 0
def RS.fin (s : RS) : Int := if s.e = 0 ∧ s.k < s.xs.length then 10 else s.e
def RS.byte (s : RS) : Int × RS := if s.e = 0 then (if s.k < s.xs.length then (s.xs.getD s.k 0, { s with k := s.k + 1 }) else (0, { s with e := 3 })) else (0, s)

/-- In memory: block g is a Reader, and its bytes lie in a row of its own; both from block base on. -/
def IsRd (base g : Nat) (s : RS) (w : World) : Prop :=
  base ≤ g ∧ s.ok ∧ ∃ A c, Blk w g 164 #[.slice A s.xs.length c, .int .i64 s.k, .int .i64 s.e] ∧ w.ownsRow base 5 1 (.slice A s.xs.length c) s.xs.length (bv s.xs) ∧ ∀ b, (Value.slice A s.xs.length c).ownBlock = some b → b < g

/-- Nothing turns from base up to block g: the Reader's row lies below its own block. -/
theorem IsRd.low {S : Nat → Prop} {base g : Nat} {s : RS} {w w1 : World} (h : IsRd base g s w) (k : Keeps S w w1) (hn : ∀ b, base ≤ b → b ≤ g → ¬ S b) : IsRd base g s w1 := by
  obtain ⟨hg, ho, A, c, hb, hv, hrb⟩ := h
  exact ⟨hg, ho, A, c, hb.keeps k (hn g hg (Nat.le_refl _)), own_keeps hv k (fun b hb' => hn b ((hv.lt b hb').1) (Nat.le_of_lt (hrb b hb'))), hrb⟩
theorem IsRd.keeps {S : Nat → Prop} {base g : Nat} {s : RS} {w w1 : World} (h : IsRd base g s w) (k : Keeps S w w1) (hn : ∀ b, base ≤ b → ¬ S b) : IsRd base g s w1 := h.low k fun b hb _ => hn b hb

/-- A new Reader. -/
def NewRd (base : Nat) (xs : List Int) (w : World) (r : Ending) (w' : World) : Prop :=
  ∃ g, r = .returned (.pointer (some ⟨g, 0, none⟩)) ∧ IsRd base g ⟨xs, 0, 0⟩ w' ∧ Keeps (fun _ => False) w w'
theorem read (A : Option Addr) (c : Nat) (xs : List Int) (w : World) (hl : Lies w A xs) (hn : xs.length ≤ 1000000) (hx : ∀ x ∈ xs, 0 ≤ x ∧ x < 256) :
    Calls Tryz.prog 72 #[.slice A xs.length c] w (NewRd w.heap.size xs w) := by
  have H := Lib.hid hx
  clear hx
  go_enter Tryz.func72, Tryz.ntmps72
  go_wp2_with (go_at_call 71; refine (clone A c xs w hl hn).mono ?_; rintro e w1 ⟨A1, c1, rfl, hv, hk⟩)
  go_ret
  exact ⟨w1.heap.size, rfl, ⟨hk.size, ⟨Nat.zero_le _, hn, H.out⟩, A1, c1, Blk.new _ _ _, hv.alloc _, fun b hb => (hv.lt b hb).2⟩, hk.alloc _⟩

theorem read_n (A : Option Addr) (n c : Nat) (xs : List Int) (w : World) (hx : xs.length = n) (hl : Lies w A xs) (hn : n ≤ 1000000) (hb : ∀ x ∈ xs, 0 ≤ x ∧ x < 256) :
    Calls Tryz.prog 72 #[.slice A n c] w (NewRd w.heap.size xs w) := by
  subst hx
  exact read A c xs w hl hn hb
theorem IsRd.lt {base g : Nat} {s : RS} {w : World} (h : IsRd base g s w) : g < w.heap.size := by
  obtain ⟨_, _, A, c, hb, _⟩ := h
  exact hb.lt
/-- Two Readers: what turns the one's own block leaves the other as it is. -/
theorem IsRd.apart {base g base2 g2 : Nat} {s s2 : RS} {w w1 : World} (h : IsRd base g s w) (h2 : IsRd base2 g2 s2 w) (hne : g ≠ g2) (k : Keeps (· = g2) w w1) : IsRd base g s w1 := by
  obtain ⟨hg, ho, A, c, hb, hv, hrb⟩ := h
  obtain ⟨_, _, A2, c2, hb2, _⟩ := h2
  exact ⟨hg, ho, A, c, hb.keeps k hne, own_keeps hv k (fun b hb' e => by subst e; exact own_ne hv hb2 (by decide) hb'), hrb⟩

theorem err (g : Nat) (s : RS) (base : Nat) (w : World) (h : IsRd base g s w) : Calls Tryz.prog 75 #[.pointer (some ⟨g, 0, none⟩)] w fun r w' => r = .returned (.int .i64 s.e) ∧ w = w' := by
  obtain ⟨hg, ho, A, c, hb, hv, hrb⟩ := h
  have h2 : w.cell? ⟨g, 2, none⟩ = some (.int .i64 s.e) := hb.cell 2
  clear hg ho hb hv hrb
  go_enter Tryz.func75, Tryz.ntmps75
  go_wp2
  go_ret
  exact ⟨rfl, rfl⟩
/-- Behind a call that turns the Reader in block g alone: it answers v, and is s. -/
def Turns (base g : Nat) (v : Value) (s : RS) (w : World) (r : Ending) (w' : World) : Prop :=
  r = .returned v ∧ IsRd base g s w' ∧ Keeps (· = g) w w'

theorem IsRd.setErr {base g : Nat} {s : RS} {w : World} (h : IsRd base g s w) (e : Int) : IsRd base g { s with e := e } (w.setCell ⟨g, 2, none⟩ (.int .i64 e)) := by
  obtain ⟨hg, ho, A, c, hb, hv, hrb⟩ := h
  refine ⟨hg, ho, A, c, by simpa using hb.setCell 2 (.int .i64 e), own_keeps (S := (· = g)) hv ((Keeps.refl _ _).setOwn _ _) (fun b hb' e => ?_), hrb⟩
  subst e
  exact own_ne hv hb (by decide) hb'
theorem IsRd.setAt {base g : Nat} {s : RS} {w : World} (h : IsRd base g s w) (k : Nat) (hk : k ≤ s.xs.length) : IsRd base g { s with k := k } (w.setCell ⟨g, 1, none⟩ (.int .i64 k)) := by
  obtain ⟨hg, ho, A, c, hb, hv, hrb⟩ := h
  refine ⟨hg, ⟨hk, ho.2⟩, A, c, by simpa using hb.setCell 1 (.int .i64 k), own_keeps (S := (· = g)) hv ((Keeps.refl _ _).setOwn _ _) (fun b hb' e => ?_), hrb⟩
  subst e
  exact own_ne hv hb (by decide) hb'

theorem fail (g : Nat) (s : RS) (base : Nat) (e : Int) (w : World) (h : IsRd base g s w) : Calls Tryz.prog 94 #[.pointer (some ⟨g, 0, none⟩), .int .i64 e] w (Turns base g (.tuple #[]) (s.fail e) w) := by
  have H := Lib.hid h
  obtain ⟨hg, ho, A, c, hb, hv, hrb⟩ := h
  have h2 : w.cell? ⟨g, 2, none⟩ = some (.int .i64 s.e) := hb.cell 2
  have h3 : w.frozen? ⟨g, 2, none⟩ = false := hb.frozen 2
  clear hg ho hb hv hrb
  by_cases he : s.e = 0
  · have he' : (s.e == 0) = true := by simp [he]
    have HE := Lib.hid he
    clear he
    go_enter Tryz.func94, Tryz.ntmps94
    go_wp2
    go_end0
    exact ⟨rfl, by rw [show s.fail e = { s with e := e } by simp [RS.fail, HE.out]]; exact H.out.setErr e, (Keeps.refl _ _).setOwn _ _⟩
  · have he' : (s.e == 0) = false := by simp [he]
    go_enter Tryz.func94, Tryz.ntmps94
    go_wp2
    go_end0
    exact ⟨rfl, by rw [show s.fail e = s by simp [RS.fail, he]]; exact H.out, Keeps.refl _ _⟩

theorem left (g : Nat) (s : RS) (base : Nat) (w : World) (h : IsRd base g s w) : Calls Tryz.prog 80 #[.pointer (some ⟨g, 0, none⟩)] w fun r w' => r = .returned (.int .i64 s.left) ∧ ∃ n, w' = w.drewN n := by
  have H := Lib.hid h
  obtain ⟨hg, ho, A, c, hb, hv, hrb⟩ := h
  have h0 : w.cell? ⟨g, 0, none⟩ = some (.slice A s.xs.length c) := hb.cell 0
  have h1 : w.cell? ⟨g, 1, none⟩ = some (.int .i64 s.k) := hb.cell 1
  obtain ⟨ho1, ho2, _⟩ := ho
  clear hg hb hv hrb
  by_cases he : s.e = 0
  · have he' : (s.e != 0) = false := by simp [he]
    have HE := Lib.hid he
    clear he
    go_enter Tryz.func80, Tryz.ntmps80
    go_wp2_with (go_at_call 75; refine (err g s base _ H.out).mono ?_; rintro e w' ⟨rfl, rfl⟩)
    go_quiet (fail)
    go_wp2
    go_ret
    exact ⟨by simp [RS.left, HE.out], _, rfl⟩
  · have he' : (s.e != 0) = true := by simp [he]
    go_enter Tryz.func80, Tryz.ntmps80
    go_wp2_with (go_at_call 75; refine (err g s base _ H.out).mono ?_; rintro e w' ⟨rfl, rfl⟩)
    go_ret
    exact ⟨by simp [RS.left, he], 0, rfl⟩

theorem IsRd.drewN {base g : Nat} {s : RS} {w : World} (h : IsRd base g s w) (n : Nat) : IsRd base g s (w.drewN n) := h

theorem end_ (g : Nat) (s : RS) (base : Nat) (w : World) (h : IsRd base g s w) : Calls Tryz.prog 53 #[.pointer (some ⟨g, 0, none⟩)] w fun r w' => r = .returned (.int .i64 s.fin) ∧ ∃ n, w' = w.drewN n := by
  have H := Lib.hid h
  obtain ⟨hg, ⟨hk, _⟩, _⟩ := h
  clear hg
  by_cases he : s.e = 0 ∧ s.k < s.xs.length
  · have hl : s.left = (s.xs.length : Int) - s.k := by simp [RS.left, he.1]
    have hd : decide (0 < s.left) = true := by rw [hl]; simp; omega
    have hf : s.fin = 10 := by simp [RS.fin, he]
    have HF := Lib.hid hf
    clear hf hl he hk
    go_enter Tryz.func53, Tryz.ntmps53
    go_wp2_with (first | (go_at_call 80; refine (left g s base _ H.out).mono ?_; rintro e w' ⟨rfl, n, rfl⟩) | (go_at_call 75; refine (err g s base _ H.out).mono ?_; rintro e w' ⟨rfl, rfl⟩))
    go_ret
    exact ⟨by rw [HF.out]; rfl, _, rfl⟩
  · have hd : decide (0 < s.left) = false := by
      by_cases h0 : s.e = 0
      · simp [RS.left, h0]; omega
      · simp [RS.left, h0]
    have hf : s.fin = s.e := by simp [RS.fin, he]
    have HF := Lib.hid hf
    clear hf he hk
    go_enter Tryz.func53, Tryz.ntmps53
    go_wp2_with (first | (go_at_call 80; refine (left g s base _ H.out).mono ?_; rintro e w' ⟨rfl, n, rfl⟩) | (go_at_call 75; refine (err g s base _ (H.out.drewN _)).mono ?_; rintro e w' ⟨rfl, rfl⟩))
    go_ret
    exact ⟨by rw [HF.out]; rfl, _, rfl⟩

theorem byte (g : Nat) (s : RS) (base : Nat) (w : World) (h : IsRd base g s w) : Calls Tryz.prog 142 #[.pointer (some ⟨g, 0, none⟩)] w (Turns base g (.int .u8 s.byte.1) s.byte.2 w) := by
  have H := Lib.hid h
  obtain ⟨hg, ⟨hk, hlen, _⟩, A, c, hb, hv, hrb⟩ := h
  by_cases hd : s.left = 0
  · have hd' : (s.left == 0) = true := by simp [hd]
    have hf : s.byte = (0, s.fail 3) := by
      by_cases h0 : s.e = 0
      · have : ¬ s.k < s.xs.length := by simp [RS.left, h0] at hd; omega
        simp [RS.byte, RS.fail, h0, this]
      · simp [RS.byte, RS.fail, h0]
    have HF := Lib.hid hf
    clear hf hk hd hg hb hv hrb
    go_enter Tryz.func142, Tryz.ntmps142
    go_wp2_with (first | (go_at_call 80; refine (left g s base _ H.out).mono ?_; rintro e w' ⟨rfl, n, rfl⟩) | (go_at_call 94; refine (fail g s base _ _ (H.out.drewN _)).mono ?_; rintro e w' ⟨rfl, hr, hk⟩))
    go_ret
    rw [HF.out]
    exact ⟨rfl, hr, ((Keeps.refl _ _).drewN _).trans hk⟩
  · have hd' : (s.left == 0) = false := by simp [hd]
    have h00 : s.e = 0 ∧ s.k < s.xs.length := by
      by_cases h0 : s.e = 0
      · simp [RS.left, h0] at hd; exact ⟨h0, by omega⟩
      · simp [RS.left, h0] at hd
    have hf : s.byte = (s.xs.getD s.k 0, { s with k := s.k + 1 }) := by simp [RS.byte, h00]
    have HF := Lib.hid hf
    have hlt := h00.2
    clear hf hk hd h00
    have h0 : w.cell? ⟨g, 0, none⟩ = some (.slice A s.xs.length c) := hb.cell 0
    have h1 : w.cell? ⟨g, 1, none⟩ = some (.int .i64 s.k) := hb.cell 1
    have h2 : w.frozen? ⟨g, 1, none⟩ = false := hb.frozen 1
    have hl := Lies.of_own hv
    obtain ⟨b, o, x, rfl, hc, hx⟩ : ∃ b o x, A = some ⟨b, o, none⟩ ∧ w.cell? ⟨b, o + s.k, none⟩ = some (.int .u8 x) ∧ Hid (s.byte = (x, { s with k := s.k + 1 })) := by
      rcases hl with hn | ⟨b, o, hA, _, hc⟩
      · rw [hn] at hlt; simp at hlt
      · exact ⟨b, o, _, hA, hc _ hlt, HF.out⟩
    clear hg hb hv hrb hl HF
    go_enter Tryz.func142, Tryz.ntmps142
    go_wp2_with (first | (go_at_call 80; refine (left g s base _ H.out).mono ?_; rintro e w' ⟨rfl, n, rfl⟩))
    go_quiet (fail)
    go_wp2
    go_ret
    rw [hx.out]
    exact ⟨rfl, by simpa using (H.out.drewN _).setAt (s.k + 1) (by omega), ((Keeps.refl _ _).drewN _).setOwn _ _⟩

/-- The first j bytes of a word, the lowest first. -/
def RS.part (s : RS) : Nat → Int × RS
  | 0 => (0, s)
  | j + 1 => ((s.part j).1 + (s.part j).2.byte.1 * 2 ^ (8 * j), (s.part j).2.byte.2)
def RS.word (s : RS) : Int × RS := if (s.part 4).2.e = 0 then s.part 4 else (0, (s.part 4).2)
theorem RS.byte_ok {s : RS} (h : s.ok) : s.byte.2.ok ∧ 0 ≤ s.byte.1 ∧ s.byte.1 < 256 := by
  obtain ⟨h1, h2, h3⟩ := h
  unfold RS.byte
  by_cases h0 : s.e = 0
  · by_cases hl : s.k < s.xs.length
    · simp only [h0, hl, if_true]
      have := h3 (s.xs.getD s.k 0) (by simp [List.getD, hl])
      exact ⟨⟨hl, h2, h3⟩, this.1, this.2⟩
    · simp only [h0, hl, if_true, if_false]
      exact ⟨⟨h1, h2, h3⟩, by omega, by omega⟩
  · simp only [h0, if_false]
    exact ⟨⟨h1, h2, h3⟩, by omega, by omega⟩
theorem RS.part_ok {s : RS} (h : s.ok) : ∀ j, (s.part j).2.ok ∧ 0 ≤ (s.part j).1 ∧ (s.part j).1 < 2 ^ (8 * j)
  | 0 => ⟨h, by simp [RS.part], by simp [RS.part]⟩
  | j + 1 => by
    obtain ⟨h1, h2, h3⟩ := RS.part_ok h j
    obtain ⟨k1, k2, k3⟩ := RS.byte_ok h1
    refine ⟨k1, ?_, ?_⟩
    · simp only [RS.part]
      exact Int.add_nonneg h2 (Int.mul_nonneg k2 (Int.pow_nonneg (by decide)))
    · simp only [RS.part]
      have hp : (2 : Int) ^ (8 * (j + 1)) = 256 * 2 ^ (8 * j) := by rw [show 8 * (j + 1) = 8 * j + 8 by omega, Int.pow_add]; omega
      have : (s.part j).2.byte.1 * 2 ^ (8 * j) ≤ 255 * 2 ^ (8 * j) := Int.mul_le_mul_of_nonneg_right (by omega) (Int.pow_nonneg (by decide))
      omega

theorem or_part (a b : Int) (j : Nat) (hj : j < 4) (ha : 0 ≤ a) (ha' : a < 2 ^ (8 * j)) (hb : 0 ≤ b) (hb' : b < 256) :
    bits .or .u32 a (b % 4294967296 * 2 ^ (8 * j) % 4294967296) = a + b * 2 ^ (8 * j) := by
  obtain ⟨a, rfl⟩ := Int.eq_ofNat_of_zero_le ha
  obtain ⟨b, rfl⟩ := Int.eq_ofNat_of_zero_le hb
  have hm : 2 ^ (8 * j) ≤ 16777216 := Nat.pow_le_pow_right (n := 2) (by decide) (show 8 * j ≤ 24 by omega)
  have hc : (2 : Int) ^ (8 * j) = ((2 ^ (8 * j) : Nat) : Int) := by simp
  rw [hc] at ha' ⊢
  have ha2 : a < 2 ^ (8 * j) := by omega
  have ho := Nat.two_pow_add_eq_or_of_lt ha2 b
  generalize 2 ^ (8 * j) = m at *
  have hmul : m * b ≤ 16777216 * 255 := Nat.mul_le_mul hm (by omega)
  have hcast : (b : Int) % 4294967296 * (m : Int) % 4294967296 = ((m * b : Nat) : Int) := by
    have h1 : (b : Int) % 4294967296 = (b : Int) := Int.emod_eq_of_lt (by omega) (by omega)
    rw [h1, Int.mul_comm, ← Int.natCast_mul]
    exact Int.emod_eq_of_lt (by omega) (by omega)
  rw [hcast, u32_or_nat a (m * b) (by omega) (by omega), Nat.or_comm, ← ho, Int.mul_comm, ← Int.natCast_mul]
  omega

end Go.Proofs.YtgaofnmgdefdcaaGreatDoor.Wr

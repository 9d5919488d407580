/- What wire's Reader takes as many bytes at once: take, Bytes, Until; bytes.IndexByte. -/
import Derived.Test.YtnbgcepejhggnaaWireRd
import Derived.Deep.RegionHeld3
import Derived.Shelf.Bytes.SlIndexAt
namespace Go.Proofs.Ytnbgcepejhggnaa.Wr
open Go.RowKit Go.Proofs.Ytnbgcepejhggnaa.Gen

theorem size_u8 (w : World) : (sizeOf 5).run Try.prog w = .ok 1 w := by
  obtain ⟨i0, hi0, hz0, hz1, hz2⟩ := info_parts u8_info
  simp [sizeOf, typeInfo, hi0, hz1]

/-- What is taken, and the Reader behind it. -/
def Takes (base g n : Nat) (ys : List Int) (s : RS) (w : World) (r : Ending) (w' : World) : Prop :=
  ∃ A c, r = .returned (.slice A n c) ∧ w'.ownsRow w.heap.size 5 1 (.slice A n c) n (bv ys) ∧ IsRd base g s w' ∧ Keeps (· = g) w w'

theorem take (g : Nat) (s : RS) (base m : Nat) (w : World) (h : IsRd base g s w) (hm : s.k + m ≤ s.xs.length) :
    Calls Try.prog 39 #[.pointer (some ⟨g, 0, none⟩), .int .i64 m] w (Takes base g m ((s.xs.drop s.k).take m) { s with k := s.k + m } w) := by
  have H := Lib.hid h
  obtain ⟨hg, ⟨hk, hlen, _⟩, A, c, hb, hv, hrb⟩ := h
  have h0 : w.cell? ⟨g, 0, none⟩ = some (.slice A s.xs.length c) := hb.cell 0
  have h1 : w.cell? ⟨g, 1, none⟩ = some (.int .i64 s.k) := hb.cell 1
  have h2 : w.frozen? ⟨g, 1, none⟩ = false := hb.frozen 1
  have hc : s.xs.length ≤ c := by obtain ⟨_, _, hq, hle⟩ := own_form hv; injection hq with _ _ hq; omega
  have hl := Lib.hid ((Lies.of_own hv).cutAt c s.k m hc hm)
  have hsl := fun w => run_cut (P := Try.prog) 26 5 A s.xs.length c s.k m .i64 .i64 Try.underlying26 size_u8 (by omega) w
  have hw : IntKind.i64.wrap ((s.k : Int) + m) = (s.k : Int) + m := IntWalk.i64_in _ (by omega)
  have hn := Lib.hid (show ((s.xs.drop s.k).take m).length = m by simp; omega)
  have hlt := hb.lt
  clear hg hb hv hrb
  go_enter Try.func39, Try.ntmps39
  go_wp2
  go_region_held3 (fun w' => w'.cell? ⟨g, 0, none⟩ = some (.slice A s.xs.length c) ∧ w'.cell? ⟨g, 1, none⟩ = some (.int .i64 s.k)) (go_keep)
    ((go_at_call 34; refine (clone_n _ _ _ ((s.xs.drop s.k).take m) _ hn.out (by exact hl.out) (by omega)).mono ?_; rintro e w1 ⟨A1, c1, rfl, hv1, hk1⟩; have hq0 : w1.cell? ⟨g, 0, none⟩ = some (.slice A s.xs.length c) := (hk1.cell (p := ⟨g, 0, none⟩) hlt id).trans h0; have hq1 : w1.cell? ⟨g, 1, none⟩ = some (.int .i64 s.k) := (hk1.cell (p := ⟨g, 1, none⟩) hlt id).trans h1))
  have hf : w1.frozen? ⟨g, 1, none⟩ = false := (World.frozen?_of_block (hk1.block g hlt id)).trans h2
  go_wp2
  go_ret
  have hr := (H.out.keeps (S := fun _ => False) hk1.of_drew (fun _ _ => id)).setAt (s.k + m) (by omega)
  exact ⟨A1, c1, rfl, own_keeps (S := (· = g)) hv1 ((Keeps.refl _ _).setOwn _ _) (fun b hb e => by have := (hv1.lt b hb).1; simp at this; omega), by simpa using hr, (hk1.of_drew.none_).setOwn _ _⟩

def RS.many (s : RS) (n : Int) : List Int × RS :=
  if s.e = 0 then (if 0 ≤ n ∧ n ≤ (s.xs.length : Int) - s.k then ((s.xs.drop s.k).take n.toNat, { s with k := s.k + n.toNat }) else ([], { s with e := 3 })) else ([], s)

theorem takes_none {base g : Nat} {s : RS} {w w0 w' : World} (hk0 : Keeps (· = g) w w0) (hr : IsRd base g s w') (hk : Keeps (· = g) w0 w') : Takes base g 0 [] s w (.returned (.slice none 0 0)) w' :=
  ⟨none, 0, rfl, World.ownsRow_nil _ _ _ _, hr, hk0.trans hk⟩

theorem bytes_no (g : Nat) (s : RS) (base : Nat) (n : Int) (w : World) (h : IsRd base g s w) (hn : s.e ≠ 0 ∨ n < 0 ∨ (s.xs.length : Int) - s.k < n) :
    Calls Try.prog 30 #[.pointer (some ⟨g, 0, none⟩), .int .i64 n] w (Takes base g 0 [] (s.fail 3) w) := by
  have H := Lib.hid h
  clear h
  by_cases he : s.e = 0
  · have he' : (s.e != 0) = false := by simp [he]
    by_cases h0 : n < 0
    · have hd : decide (n < 0) = true := by simpa using h0
      clear hn he
      go_enter Try.func30, Try.ntmps30
      go_wp2_with (first | (go_at_call 24; refine (err g s base _ H.out).mono ?_; rintro e w' ⟨rfl, rfl⟩) | (go_at_call 38; refine (fail g s base _ _ H.out).mono ?_; rintro e w' ⟨rfl, hr, hk⟩))
      go_ret
      exact takes_none (Keeps.refl _ _) hr hk
    · have hd : decide (n < 0) = false := by simpa using h0
      have hl : decide (s.left < n) = true := by simp [RS.left, he]; omega
      clear hn he h0
      go_enter Try.func30, Try.ntmps30
      go_wp2_with (first | (go_at_call 24; refine (err g s base _ H.out).mono ?_; rintro e w' ⟨rfl, rfl⟩) | (go_at_call 22; refine (left g s base _ H.out).mono ?_; rintro e w' ⟨rfl, q, rfl⟩) | (go_at_call 38; refine (fail g s base _ _ (H.out.drewN _)).mono ?_; rintro e w' ⟨rfl, hr, hk⟩))
      go_ret
      exact takes_none ((Keeps.refl _ _).drewN _) hr hk
  · have he' : (s.e != 0) = true := by simp [he]
    clear hn he
    go_enter Try.func30, Try.ntmps30
    go_wp2_with (first | (go_at_call 24; refine (err g s base _ H.out).mono ?_; rintro e w' ⟨rfl, rfl⟩) | (go_at_call 38; refine (fail g s base _ _ H.out).mono ?_; rintro e w' ⟨rfl, hr, hk⟩))
    go_ret
    exact takes_none (Keeps.refl _ _) hr hk

theorem bytes_yes (g : Nat) (s : RS) (base m : Nat) (w : World) (h : IsRd base g s w) (he : s.e = 0) (hm : s.k + m ≤ s.xs.length) :
    Calls Try.prog 30 #[.pointer (some ⟨g, 0, none⟩), .int .i64 m] w (Takes base g m ((s.xs.drop s.k).take m) { s with k := s.k + m } w) := by
  have H := Lib.hid h
  have he' : (s.e != 0) = false := by simp [he]
  have hd : decide ((m : Int) < 0) = false := by simp
  have hl : decide (s.left < (m : Int)) = false := by simp [RS.left, he]; omega
  have hb := h.2.1.2.1
  clear h he
  go_enter Try.func30, Try.ntmps30
  go_wp2_with (first | (go_at_call 24; refine (err g s base _ H.out).mono ?_; rintro e w' ⟨rfl, rfl⟩) | (go_at_call 22; refine (left g s base _ H.out).mono ?_; rintro e w' ⟨rfl, q, rfl⟩) | (go_at_call 39; refine (take g s base m _ (H.out.drewN _) hm).mono ?_; rintro e w' ⟨A1, c1, rfl, hv, hr, hk⟩))
  go_ret
  exact ⟨A1, c1, rfl, hv, hr, hk.of_drewN⟩


theorem index_eq (c : Int) (hc : 0 ≤ c ∧ c < 256) : ∀ xs : List Int, (∀ x ∈ xs, 0 ≤ x ∧ x < 256) →
    Lib.indexByte (Lib.bytesOf xs) c.toNat.toUInt8 = if xs.findIdx (· == c) < xs.length then (xs.findIdx (· == c) : Int) else -1
  | [], _ => rfl
  | x :: l, h => by
    have ih := index_eq c hc l (fun y hy => h y (List.mem_cons_of_mem _ hy))
    have hx := h x List.mem_cons_self
    have ht : (UInt8.ofNat x.toNat == c.toNat.toUInt8) = (x == c) := by
      rw [Bool.eq_iff_iff]
      simp only [beq_iff_eq]
      constructor
      · intro he
        have := congrArg UInt8.toNat he
        simp [Nat.toUInt8] at this
        omega
      · rintro rfl
        rfl
    simp only [Lib.bytesOf, List.map_cons, Lib.indexByte, ht, List.findIdx_cons, List.length_cons] at ih ⊢
    rw [ih]
    by_cases he : (x == c) = true
    · simp [he]
    · simp only [he]
      by_cases hf : l.findIdx (· == c) < l.length
      · simp [hf]
      · simp [hf]

def RS.upto (s : RS) (c : Int) : List Int × RS :=
  if s.e = 0 then (if (s.xs.drop s.k).findIdx (· == c) < (s.xs.drop s.k).length then ((s.xs.drop s.k).take ((s.xs.drop s.k).findIdx (· == c)), { s with k := s.k + (s.xs.drop s.k).findIdx (· == c) + 1 }) else ([], { s with e := 3 })) else ([], s)


theorem IsRd.atCell {base g : Nat} {s : RS} {w : World} (h : IsRd base g s w) : w.cell? ⟨g, 1, none⟩ = some (.int .i64 s.k) ∧ w.frozen? ⟨g, 1, none⟩ = false := by
  obtain ⟨_, _, A, c, hb, _⟩ := h
  exact ⟨hb.cell 1, hb.frozen 1⟩

theorem bytes (g : Nat) (s : RS) (base : Nat) (n : Int) (w : World) (h : IsRd base g s w) :
    Calls Try.prog 30 #[.pointer (some ⟨g, 0, none⟩), .int .i64 n] w (Takes base g (s.many n).1.length (s.many n).1 (s.many n).2 w) := by
  by_cases hn : s.e ≠ 0 ∨ n < 0 ∨ (s.xs.length : Int) - s.k < n
  · have e : s.many n = ([], s.fail 3) := by
      unfold RS.many RS.fail
      by_cases he : s.e = 0
      · have hq : ¬ (0 ≤ n ∧ n ≤ (s.xs.length : Int) - s.k) := by rcases hn with h | h | h <;> omega
        simp only [he, if_true, if_neg hq]
      · simp only [he, if_false]
    rw [e]
    exact bytes_no g s base n w h hn
  · have he : s.e = 0 := by by_cases h0 : s.e = 0; exact h0; exact absurd (.inl h0) hn
    have h1 : 0 ≤ n ∧ n ≤ (s.xs.length : Int) - s.k := by omega
    have hk := h.2.1.1
    obtain ⟨m, rfl⟩ := Int.eq_ofNat_of_zero_le h1.1
    have e : s.many m = ((s.xs.drop s.k).take m, { s with k := s.k + m }) := by unfold RS.many; rw [if_pos he, if_pos h1]; rfl
    have hl : ((s.xs.drop s.k).take m).length = m := by simp; omega
    rw [e]
    simp only [hl]
    exact bytes_yes g s base m w h he (by omega)
end Go.Proofs.Ytnbgcepejhggnaa.Wr

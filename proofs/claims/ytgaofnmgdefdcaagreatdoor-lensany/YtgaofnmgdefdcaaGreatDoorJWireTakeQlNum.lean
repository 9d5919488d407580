/- What wire's Reader takes as many bytes at once: take, Bytes, Until; bytes.IndexByte. -/
/- The statements' own number that is put (Act.Number): any act, any way that may be. No conditions beyond these. -/
import Derived.Test.YtgaofnmgdefdcaaGreatDoorJItfNumWireRd
import Derived.Deep.RegionHeld3
import Derived.Shelf.Bytes.SlIndexAt
import Derived.Test.YtgaofnmgdefdcaaGreatDoorJDsAnyDsBack
import Derived.Test.YtgaofnmgdefdcaaGreatDoorDsSmE
import Derived.BigQuiet

namespace Go.Proofs.YtgaofnmgdefdcaaGreatDoor.Wr
open Go.RowKit Go.Proofs.YtgaofnmgdefdcaaGreatDoor.Gen

theorem size_u8 (w : World) : (sizeOf 5).run Tryz.prog w = .ok 1 w := by
  obtain ⟨i0, hi0, hz0, hz1, hz2⟩ := info_parts u8_info
  simp [sizeOf, typeInfo, hi0, hz1]

/-- What is taken, and the Reader behind it. -/
def Takes (base g n : Nat) (ys : List Int) (s : RS) (w : World) (r : Ending) (w' : World) : Prop :=
  ∃ A c, r = .returned (.slice A n c) ∧ w'.ownsRow w.heap.size 5 1 (.slice A n c) n (bv ys) ∧ IsRd base g s w' ∧ Keeps (· = g) w w'

theorem take (g : Nat) (s : RS) (base m : Nat) (w : World) (h : IsRd base g s w) (hm : s.k + m ≤ s.xs.length) :
    Calls Tryz.prog 95 #[.pointer (some ⟨g, 0, none⟩), .int .i64 m] w (Takes base g m ((s.xs.drop s.k).take m) { s with k := s.k + m } w) := by
  have H := Lib.hid h
  obtain ⟨hg, ⟨hk, hlen, _⟩, A, c, hb, hv, hrb⟩ := h
  have h0 : w.cell? ⟨g, 0, none⟩ = some (.slice A s.xs.length c) := hb.cell 0
  have h1 : w.cell? ⟨g, 1, none⟩ = some (.int .i64 s.k) := hb.cell 1
  have h2 : w.frozen? ⟨g, 1, none⟩ = false := hb.frozen 1
  have hc : s.xs.length ≤ c := by obtain ⟨_, _, hq, hle⟩ := own_form hv; injection hq with _ _ hq; omega
  have hl := Lib.hid ((Lies.of_own hv).cutAt c s.k m hc hm)
  have hsl := fun w => run_cut (P := Tryz.prog) 29 5 A s.xs.length c s.k m .i64 .i64 Tryz.underlying29 size_u8 (by omega) w
  have hw : IntKind.i64.wrap ((s.k : Int) + m) = (s.k : Int) + m := IntWalk.i64_in _ (by omega)
  have hn := Lib.hid (show ((s.xs.drop s.k).take m).length = m by simp; omega)
  have hlt := hb.lt
  clear hg hb hv hrb
  go_enter Tryz.func95, Tryz.ntmps95
  go_wp2
  go_region_held3 (fun w' => w'.cell? ⟨g, 0, none⟩ = some (.slice A s.xs.length c) ∧ w'.cell? ⟨g, 1, none⟩ = some (.int .i64 s.k)) (go_keep)
    ((go_at_call 71; refine (clone_n _ _ _ ((s.xs.drop s.k).take m) _ hn.out (by exact hl.out) (by omega)).mono ?_; rintro e w1 ⟨A1, c1, rfl, hv1, hk1⟩; have hq0 : w1.cell? ⟨g, 0, none⟩ = some (.slice A s.xs.length c) := (hk1.cell (p := ⟨g, 0, none⟩) hlt id).trans h0; have hq1 : w1.cell? ⟨g, 1, none⟩ = some (.int .i64 s.k) := (hk1.cell (p := ⟨g, 1, none⟩) hlt id).trans h1))
  have hf : w1.frozen? ⟨g, 1, none⟩ = false := (World.frozen?_of_block (hk1.block g hlt id)).trans h2
  go_wp2
  go_ret
  have hr := (H.out.keeps (S := fun _ => False) hk1.of_drew (fun _ _ => id)).setAt (s.k + m) (by omega)
  exact ⟨A1, c1, rfl, own_keeps (S := (· = g)) hv1 ((Keeps.refl _ _).setOwn _ _) (fun b hb e => by have := (hv1.lt b hb).1; simp at this; omega), by simpa using hr, (hk1.of_drew.none_).setOwn _ _⟩

def RS.many (s : RS) (n : Int) : List Int × RS :=
  if s.e = 0 then (if 0 ≤ n ∧ n ≤ (s.xs.length : Int) - s.k then ((s.xs.drop s.k).take n.toNat, { s with k := s.k + n.toNat }) else ([], { s with e := 3 })) else ([], s)

theorem takes_none {base g : Nat} {s : RS} {w w0 w' : World} (hk0 : Keeps (· = g) w w0) (hr : IsRd base g s w') (hk : Keeps (· = g) w0 w') : Takes base g 0 [] s w (.returned (.slice none 0 0)) w' :=
  ⟨none, 0, rfl, World.ownsRow_nil _ _ _ _, hr, hk0.trans hk⟩

theorem bytes_no (g : Nat) (s : RS) (base : Nat) (n : Int) (w : World) (h : IsRd base g s w) (hn : s.e ≠ 0 ∨ n < 0 ∨ (s.xs.length : Int) - s.k < n) :
    Calls Tryz.prog 74 #[.pointer (some ⟨g, 0, none⟩), .int .i64 n] w (Takes base g 0 [] (s.fail 3) w) := by
  have H := Lib.hid h
  clear h
  by_cases he : s.e = 0
  · have he' : (s.e != 0) = false := by simp [he]
    by_cases h0 : n < 0
    · have hd : decide (n < 0) = true := by simpa using h0
      clear hn he
      go_enter Tryz.func74, Tryz.ntmps74
      go_wp2_with (first | (go_at_call 75; refine (err g s base _ H.out).mono ?_; rintro e w' ⟨rfl, rfl⟩) | (go_at_call 94; refine (fail g s base _ _ H.out).mono ?_; rintro e w' ⟨rfl, hr, hk⟩))
      go_ret
      exact takes_none (Keeps.refl _ _) hr hk
    · have hd : decide (n < 0) = false := by simpa using h0
      have hl : decide (s.left < n) = true := by simp [RS.left, he]; omega
      clear hn he h0
      go_enter Tryz.func74, Tryz.ntmps74
      go_wp2_with (first | (go_at_call 75; refine (err g s base _ H.out).mono ?_; rintro e w' ⟨rfl, rfl⟩) | (go_at_call 80; refine (left g s base _ H.out).mono ?_; rintro e w' ⟨rfl, q, rfl⟩) | (go_at_call 94; refine (fail g s base _ _ (H.out.drewN _)).mono ?_; rintro e w' ⟨rfl, hr, hk⟩))
      go_ret
      exact takes_none ((Keeps.refl _ _).drewN _) hr hk
  · have he' : (s.e != 0) = true := by simp [he]
    clear hn he
    go_enter Tryz.func74, Tryz.ntmps74
    go_wp2_with (first | (go_at_call 75; refine (err g s base _ H.out).mono ?_; rintro e w' ⟨rfl, rfl⟩) | (go_at_call 94; refine (fail g s base _ _ H.out).mono ?_; rintro e w' ⟨rfl, hr, hk⟩))
    go_ret
    exact takes_none (Keeps.refl _ _) hr hk

theorem bytes_yes (g : Nat) (s : RS) (base m : Nat) (w : World) (h : IsRd base g s w) (he : s.e = 0) (hm : s.k + m ≤ s.xs.length) :
    Calls Tryz.prog 74 #[.pointer (some ⟨g, 0, none⟩), .int .i64 m] w (Takes base g m ((s.xs.drop s.k).take m) { s with k := s.k + m } w) := by
  have H := Lib.hid h
  have he' : (s.e != 0) = false := by simp [he]
  have hd : decide ((m : Int) < 0) = false := by simp
  have hl : decide (s.left < (m : Int)) = false := by simp [RS.left, he]; omega
  have hb := h.2.1.2.1
  clear h he
  go_enter Tryz.func74, Tryz.ntmps74
  go_wp2_with (first | (go_at_call 75; refine (err g s base _ H.out).mono ?_; rintro e w' ⟨rfl, rfl⟩) | (go_at_call 80; refine (left g s base _ H.out).mono ?_; rintro e w' ⟨rfl, q, rfl⟩) | (go_at_call 95; refine (take g s base m _ (H.out.drewN _) hm).mono ?_; rintro e w' ⟨A1, c1, rfl, hv, hr, hk⟩))
  go_ret
  exact ⟨A1, c1, rfl, hv, hr, hk.of_drewN⟩

set_option maxRecDepth 100000 in
/-- bytes.IndexByte, as the model's entry has it. -/
theorem index (A : Option Addr) (n c : Nat) (xs : List Int) (cv : Int) (w : World) (hx : xs.length = n) (hl : Lies w A xs) :
    Calls Tryz.prog 60 #[.slice A n c, .int .u8 cv] w fun r w' => r = .returned (.int .i64 (Lib.indexByte (Lib.bytesOf xs) cv.toNat.toUInt8)) ∧ w = w' := by
  have hrun : (Extern.BytealgIndexByte.indexByte #[.slice A n c, .int .u8 cv]).run Tryz.prog w = .ok (.int .i64 (Lib.indexByte (Lib.bytesOf xs) cv.toNat.toUInt8)) w := by
    rcases A with _ | ad
    · have hx0 : xs = [] := by
        rcases hl with h | ⟨b, o, h, _⟩
        · exact h
        · cases h
      subst hx0
      exact Lib.run_indexByteNil w n c cv
    · exact Lib.run_indexByteAt w ad n c xs hx (fun i hi => hl.news i _ (bv_at (by omega))) cv
  have HR := Lib.hid hrun
  clear hrun hl hx
  go_enter Tryz.func60, Tryz.ntmps60
  go_wp2
  rw [run_callFunc_extern Tryz.func86 (by kernel_rfl) (by kernel_rfl) (by kernel_rfl) (e := Extern.BytealgIndexByte.indexByte) (by kernel_rfl), HR.out]
  simp only [Result.andThen]
  rw [Oper.upon_value]
  go_wp2
  go_ret
  exact ⟨rfl, rfl⟩

theorem index_eq (c : Int) (hc : 0 ≤ c ∧ c < 256) : ∀ xs : List Int, (∀ x ∈ xs, 0 ≤ x ∧ x < 256) →
    Lib.indexByte (Lib.bytesOf xs) c.toNat.toUInt8 = if xs.findIdx (· == c) < xs.length then (xs.findIdx (· == c) : Int) else -1
  | [], _ => rfl
  | x :: l, h => by
    have ih := index_eq c hc l (fun y hy => h y (List.mem_cons_of_mem _ hy))
    have hx := h x List.mem_cons_self
    have ht : (UInt8.ofNat x.toNat == c.toNat.toUInt8) = (x == c) := by
      rw [Bool.eq_iff_iff]
      simp only [beq_iff_eq]
      constructor
      · intro he
        have := congrArg UInt8.toNat he
        simp [Nat.toUInt8] at this
        omega
      · rintro rfl
        rfl
    simp only [Lib.bytesOf, List.map_cons, Lib.indexByte, ht, List.findIdx_cons, List.length_cons] at ih ⊢
    rw [ih]
    by_cases he : (x == c) = true
    · simp [he]
    · simp only [he]
      by_cases hf : l.findIdx (· == c) < l.length
      · simp [hf]
      · simp [hf]

def RS.upto (s : RS) (c : Int) : List Int × RS :=
  if s.e = 0 then (if (s.xs.drop s.k).findIdx (· == c) < (s.xs.drop s.k).length then ((s.xs.drop s.k).take ((s.xs.drop s.k).findIdx (· == c)), { s with k := s.k + (s.xs.drop s.k).findIdx (· == c) + 1 }) else ([], { s with e := 3 })) else ([], s)

theorem until_err (g : Nat) (s : RS) (base : Nat) (cv : Int) (w : World) (h : IsRd base g s w) (he : s.e ≠ 0) :
    Calls Tryz.prog 73 #[.pointer (some ⟨g, 0, none⟩), .int .u8 cv] w (Takes base g 0 [] s w) := by
  have H := Lib.hid h
  have he' : (s.e != 0) = true := by simp [he]
  clear h he
  go_enter Tryz.func73, Tryz.ntmps73
  go_wp2_with (first | (go_at_call 75; refine (err g s base _ H.out).mono ?_; rintro e w' ⟨rfl, rfl⟩))
  go_ret
  exact takes_none (Keeps.refl _ _) H.out (Keeps.refl _ _)

theorem IsRd.atCell {base g : Nat} {s : RS} {w : World} (h : IsRd base g s w) : w.cell? ⟨g, 1, none⟩ = some (.int .i64 s.k) ∧ w.frozen? ⟨g, 1, none⟩ = false := by
  obtain ⟨_, _, A, c, hb, _⟩ := h
  exact ⟨hb.cell 1, hb.frozen 1⟩

theorem until_any (g : Nat) (s : RS) (base : Nat) (cv : Int) (w : World) (h : IsRd base g s w) (he : s.e = 0) (hcv : 0 ≤ cv ∧ cv < 256) :
    Calls Tryz.prog 73 #[.pointer (some ⟨g, 0, none⟩), .int .u8 cv] w (Takes base g (s.upto cv).1.length (s.upto cv).1 (s.upto cv).2 w) := by
  have H := Lib.hid h
  obtain ⟨hg, ⟨hk, hlen, hbt⟩, A, c, hb, hv, hrb⟩ := h
  have h0 : w.cell? ⟨g, 0, none⟩ = some (.slice A s.xs.length c) := hb.cell 0
  have h1 : w.cell? ⟨g, 1, none⟩ = some (.int .i64 s.k) := hb.cell 1
  have hc : s.xs.length ≤ c := by obtain ⟨_, _, hq, hle⟩ := own_form hv; injection hq with _ _ hq; omega
  have hl0 := (Lies.of_own hv).cutAt c s.k (s.xs.length - s.k) hc (by omega)
  rw [List.take_of_length_le (by simp)] at hl0
  have hl := Lib.hid hl0
  have hsl := fun w => run_cut_from (P := Tryz.prog) 29 5 A s.xs.length c s.k .i64 Tryz.underlying29 size_u8 hk w
  have hi := index_eq cv hcv (s.xs.drop s.k) (fun x hx => hbt x (List.mem_of_mem_drop hx))
  have hn := Lib.hid (show (s.xs.drop s.k).length = s.xs.length - s.k by simp)
  have hlt := hb.lt
  have he' : (s.e != 0) = false := by simp [he]
  obtain ⟨f, hf⟩ : ∃ f, f = (s.xs.drop s.k).findIdx (· == cv) := ⟨_, rfl⟩
  by_cases hfl : f < s.xs.length - s.k
  · rw [← hf, hn.out, if_pos hfl] at hi
    have HI := Lib.hid hi
    have HU := Lib.hid (show s.upto cv = ((s.xs.drop s.k).take f, { s with k := s.k + f + 1 }) by unfold RS.upto; rw [if_pos he, ← hf, hn.out, if_pos hfl])
    have hd : decide ((f : Int) < 0) = false := by simp
    clear hg hb hv hrb hl0 hi hbt he hf
    go_enter Tryz.func73, Tryz.ntmps73
    go_wp2_with (first | (go_at_call 75; refine (err g s base _ H.out).mono ?_; rintro e w' ⟨rfl, rfl⟩))
    go_region_held3 (fun w' => w'.cell? ⟨g, 0, none⟩ = some (.slice A s.xs.length c) ∧ w'.cell? ⟨g, 1, none⟩ = some (.int .i64 s.k)) (go_keep)
      ((go_at_call 60; refine (index _ _ _ (s.xs.drop s.k) _ _ hn.out (by exact hl.out)).mono ?_; rintro e w1 ⟨rfl, rfl⟩; rw [HI.out]))
    go_wp2_with (first
      | (go_at_call 95
         refine (take g s base f _ (by exact H.out) (by omega)).mono ?_
         rintro e w2 ⟨A1, c1, rfl, hv1, hr1, hk1⟩
         have hc1 : w2.cell? ⟨g, 1, none⟩ = some (.int .i64 ((s.k : Int) + f)) := by simpa using hr1.atCell.1
         have hf1 : w2.frozen? ⟨g, 1, none⟩ = false := hr1.atCell.2))
    go_ret
    have hr := hr1.setAt (s.k + f + 1) (by show s.k + f + 1 ≤ s.xs.length; omega)
    have hle : ((s.xs.drop s.k).take f).length = f := by simp; omega
    rw [HU.out]
    refine ⟨A1, c1, ?_, ?_, by simpa using hr, (hk1.of_drew).setOwn _ _⟩
    · simp only [hle]; rfl
    · simp only [hle]
      exact own_keeps (S := (· = g)) hv1 ((Keeps.refl _ _).setOwn _ _) (fun b hb e => by have := (hv1.lt b hb).1; simp at this; omega)
  · rw [← hf, hn.out, if_neg hfl] at hi
    have HI := Lib.hid hi
    have HU := Lib.hid (show s.upto cv = ([], s.fail 3) by unfold RS.upto RS.fail; rw [if_pos he, ← hf, hn.out, if_neg hfl, if_pos he])
    clear hg hb hv hrb hl0 hi hbt he hf
    go_enter Tryz.func73, Tryz.ntmps73
    go_wp2_with (first | (go_at_call 75; refine (err g s base _ H.out).mono ?_; rintro e w' ⟨rfl, rfl⟩))
    go_region_held3 (fun w' => w'.cell? ⟨g, 0, none⟩ = some (.slice A s.xs.length c) ∧ w'.cell? ⟨g, 1, none⟩ = some (.int .i64 s.k)) (go_keep)
      ((go_at_call 60; refine (index _ _ _ (s.xs.drop s.k) _ _ hn.out (by exact hl.out)).mono ?_; rintro e w1 ⟨rfl, rfl⟩; rw [HI.out]))
    go_wp2_with (first | (go_at_call 94; refine (fail g s base _ _ (by exact H.out)).mono ?_; rintro e w' ⟨rfl, hr, hk⟩))
    go_ret
    rw [HU.out]
    exact ⟨none, 0, rfl, World.ownsRow_nil _ _ _ _, hr, hk.of_drew⟩

theorem until_ (g : Nat) (s : RS) (base : Nat) (cv : Int) (w : World) (h : IsRd base g s w) (hcv : 0 ≤ cv ∧ cv < 256) :
    Calls Tryz.prog 73 #[.pointer (some ⟨g, 0, none⟩), .int .u8 cv] w (Takes base g (s.upto cv).1.length (s.upto cv).1 (s.upto cv).2 w) := by
  by_cases he : s.e = 0
  · exact until_any g s base cv w h he hcv
  · rw [show s.upto cv = ([], s) by simp [RS.upto, he]]
    exact until_err g s base cv w h he
theorem bytes (g : Nat) (s : RS) (base : Nat) (n : Int) (w : World) (h : IsRd base g s w) :
    Calls Tryz.prog 74 #[.pointer (some ⟨g, 0, none⟩), .int .i64 n] w (Takes base g (s.many n).1.length (s.many n).1 (s.many n).2 w) := by
  by_cases hn : s.e ≠ 0 ∨ n < 0 ∨ (s.xs.length : Int) - s.k < n
  · have e : s.many n = ([], s.fail 3) := by
      unfold RS.many RS.fail
      by_cases he : s.e = 0
      · have hq : ¬ (0 ≤ n ∧ n ≤ (s.xs.length : Int) - s.k) := by rcases hn with h | h | h <;> omega
        simp only [he, if_true, if_neg hq]
      · simp only [he, if_false]
    rw [e]
    exact bytes_no g s base n w h hn
  · have he : s.e = 0 := by by_cases h0 : s.e = 0; exact h0; exact absurd (.inl h0) hn
    have h1 : 0 ≤ n ∧ n ≤ (s.xs.length : Int) - s.k := by omega
    have hk := h.2.1.1
    obtain ⟨m, rfl⟩ := Int.eq_ofNat_of_zero_le h1.1
    have e : s.many m = ((s.xs.drop s.k).take m, { s with k := s.k + m }) := by unfold RS.many; rw [if_pos he, if_pos h1]; rfl
    have hl : ((s.xs.drop s.k).take m).length = m := by simp; omega
    rw [e]
    simp only [hl]
    exact bytes_yes g s base m w h he (by omega)
end Go.Proofs.YtgaofnmgdefdcaaGreatDoor.Wr

namespace Go.Proofs.YtgaofnmgdefdcaaGreatDoor.Qn
open Go.RowKit Go.Proofs.YtgaofnmgdefdcaaGreatDoor.Gen Go.Proofs.YtgaofnmgdefdcaaGreatDoor.Hr Go.Proofs.YtgaofnmgdefdcaaGreatDoor.Hn Go.Proofs.YtgaofnmgdefdcaaGreatDoor.Ds

/-- The number that is put. -/
def numOf (N wh : Int) (d : D) : Int :=
  if wh % 16 = 0 then N else if d.K = 3 then (d.L.getD (wh % d.L.length).toNat (0, 0)).1 else if d.K = 6 then d.le + (N % 4294967296) % 2 ^ d.bi.toNat else min (max N (-2147483647)) 2147483647
/-- An act's value. -/
def actv (way N wh : Int) (A : Option Addr) (n c : Nat) (arr : Bool) : Array Value := #[.int .u8 way, .int .i64 N, .int .u8 wh, .slice A n c, .bool arr]
theorem and_mask {x : Int} {b : Nat} (h0 : 0 ≤ x) (h1 : x < 4294967296) (hb : b ≤ 31) : bits .and .i64 x (2 ^ b - 1) = x % 2 ^ b := by
  obtain ⟨X, rfl⟩ := Int.eq_ofNat_of_zero_le h0
  have h2 : (2 : Int) ^ b = ((2 ^ b : Nat) : Int) := by simp
  have h3 := Nat.two_pow_pos b
  have h4 : 2 ^ b ≤ 2147483648 := by
    have := Nat.pow_le_pow_right (n := 2) (by decide) hb
    omega
  have h5 : (2 : Int) ^ b - 1 = ((2 ^ b - 1 : Nat) : Int) := by omega
  have hx : X &&& (2 ^ b - 1) = X % 2 ^ b := Nat.and_two_pow_sub_one_eq_mod X b
  have hlt : X % 2 ^ b < 2147483648 := by have := Nat.mod_lt X h3; omega
  rw [h5]
  show IntKind.i64.wrap ((BitVec.ofInt 64 (X : Int) &&& BitVec.ofInt 64 ((2 ^ b - 1 : Nat) : Int)).toNat : Int) = _
  rw [BitVec.toNat_and, ofInt_u64 X (by omega), ofInt_u64 (2 ^ b - 1) (by omega), hx, IntWalk.i64_in _ (by omega), h2]
  omega

set_option maxHeartbeats 8000000 in
set_option maxRecDepth 100000 in
theorem number_ (way N wh : Int) (Ab : Option Addr) (nb cb : Nat) (arr : Bool) (A : Option Addr) (n c : Nat) (d : D) (w : World) (hN : -9223372036854775808 ≤ N ∧ N ≤ 9223372036854775807) (hw : 0 ≤ wh ∧ wh < 256) (hd : chkI d = 0) (hL : Ents w A n d.L) :
    Calls Tryz.prog 14 #[.agg (actv way N wh Ab nb cb arr), .agg (dv A n c d)] w fun r w' => r = .returned (.int .i64 (numOf N wh d)) ∧ Keeps (fun _ => False) w w' := by
  obtain ⟨p, hp⟩ : ∃ p, numOf N wh d = p := ⟨_, rfl⟩
  rw [hp]
  have HP := Lib.hid hp
  have HK : Hid (Keeps (fun _ => False) w ((w.alloc (.cells (actv way N wh Ab nb cb arr) 33)).alloc (.cells (dv A n c d) 43))) := ((Keeps.refl _ _).alloc _).alloc _
  have HLL := Lib.hid (hL.more HK.out)
  have hm : wh.tmod 16 = wh % 16 := Int.tmod_eq_emod_of_nonneg hw.1
  have hci := chkI_in hd
  clear hp hL hd
  obtain ⟨K, Bl, L, le, bi⟩ := d
  unfold actv at HK HLL ⊢
  unfold dv at HK HLL ⊢
  simp only at HK HLL hci ⊢
  by_cases h16 : wh % 16 = 0
  · have HE : Hid (p = N) := by show p = N; rw [← HP.out, numOf, if_pos h16]
    go_enter Tryz.func14, Tryz.ntmps14
    go_wp2
    go_ret
    exact ⟨by rw [HE.out]; rfl, HK.out⟩
  · have h16b : (wh % 16 == 0) = false := by simpa using h16
    have HPE : Hid (p = if K = 3 then (L.getD (wh % L.length).toNat (0, 0)).1 else if K = 6 then le + (N % 4294967296) % 2 ^ bi.toNat else min (max N (-2147483647)) 2147483647) := by show p = _; rw [← HP.out, numOf, if_neg h16]
    clear HP
    by_cases h3 : K = 3
    · subst h3
      have hnew : Hid (newE L = 0) := by
        show newE L = 0
        rcases hci with h | h | h
        · omega
        · exact h.2
        · omega
      have HN0 := Lib.hid (newE_zero hnew.out).1
      have HLN : Hid (L.length = n) := HLL.out.2.1
      have hn1 : 1 ≤ n := by have := HN0.out; have := HLN.out; omega
      have hne1 : ¬ ((n : Int) = 0) := by omega
      have hne2 : ¬ (n = 0) := by omega
      obtain ⟨j, hj⟩ := Int.eq_ofNat_of_zero_le (Int.emod_nonneg wh hne1)
      have hjn : j < n := by have := Int.emod_lt_of_pos wh (show (0 : Int) < n by omega); omega
      have hrem : wh.tmod (n : Int) = (j : Int) := by rw [Int.tmod_eq_emod_of_nonneg hw.1]; exact hj
      have HE : Hid (p = (L.getD j (0, 0)).1) := by
        show p = _
        rw [HPE.out, if_pos rfl, HLN.out, hj, Int.toNat_natCast]
      obtain ⟨b, o, rfl, hb, h0, h1⟩ := g_item HLL.out.1 (j := j) (by rw [HLN.out]; exact hjn)
      obtain ⟨⟨x1, x2⟩, hx⟩ : ∃ q, q = L.getD j (0, 0) := ⟨_, rfl⟩
      rw [← hx] at h0 h1 HE
      simp only at h0 h1 HE
      have hj0 : (0 : Int) ≤ (j : Int) := by omega
      have hj1 : (j : Int) < (n : Int) := by omega
      clear hx hj hci HPE HLL h1 hb hn1
      go_enter Tryz.func14, Tryz.ntmps14
      go_upto_region 4 with fail
      go_region
      all_goals go_wp2
      all_goals go_ret
      all_goals exact ⟨by rw [HE.out]; rfl, HK.out.drewN 1⟩
    · have h3b : (K == 3) = false := by simpa using h3
      by_cases h6 : K = 6
      · subst h6
        have hr : (-2147483647 ≤ le ∧ le ≤ 2147483647) ∧ 0 ≤ bi ∧ bi ≤ 31 := by
          rcases hci with h | h | h
          · omega
          · omega
          · exact h.2
        obtain ⟨b, rfl⟩ := Int.eq_ofNat_of_zero_le hr.2.1
        obtain ⟨u, hu⟩ : ∃ u, N % 4294967296 = u := ⟨_, rfl⟩
        have hu0 : 0 ≤ u ∧ u < 4294967296 := by omega
        obtain ⟨v, hv⟩ : ∃ v, u % 2 ^ b = v := ⟨_, rfl⟩
        have HE : Hid (p = le + v) := by
          show p = _
          rw [HPE.out, if_neg (by decide), if_pos rfl, hu, Int.toNat_natCast, hv]
        have hpw : (2 : Int) ^ b ≤ 2147483648 := by
          have h1 := Nat.pow_le_pow_right (n := 2) (by decide) (show b ≤ 31 by omega)
          have h2 : (2 : Int) ^ b = ((2 ^ b : Nat) : Int) := by simp
          omega
        have hpp : (1 : Int) ≤ 2 ^ b := by
          have h2 : (2 : Int) ^ b = ((2 ^ b : Nat) : Int) := by simp
          have := Nat.two_pow_pos b
          omega
        have hv0 : 0 ≤ v ∧ v < 2147483648 := by
          have h1 := Int.emod_nonneg u (show (2 : Int) ^ b ≠ 0 by omega)
          have h2 := Int.emod_lt_of_pos u (show (0 : Int) < 2 ^ b by omega)
          omega
        have HM := Lib.hid (and_mask (b := b) hu0.1 hu0.2 (by omega))
        obtain ⟨Z, hZ⟩ : ∃ Z, (2 : Int) ^ b = Z := ⟨_, rfl⟩
        have hsh : IntKind.i64.wrap (2 ^ b) = Z := by rw [hZ]; exact IntWalk.i64_in _ (by omega)
        have hsb : IntKind.i64.wrap (Z - 1) = Z - 1 := IntWalk.i64_in _ (by omega)
        have hun : IntKind.u32.wrap N = u := by rw [← hu]; exact IntKind.wrap_u32 N
        have hui : IntKind.i64.wrap u = u := IntWalk.i64_in _ (by omega)
        have hand : bits .and .i64 u (Z - 1) = v := by rw [← hZ, HM.out, hv]
        have hsum : IntKind.i64.wrap (le + v) = le + v := IntWalk.i64_in _ (by omega)
        have hb0 : (0 : Int) ≤ (b : Int) := by omega
        have hbn : ((b : Int)).toNat = b := Int.toNat_natCast b
        have HV : Hid (wrap64 (le + bits .and .i64 u (wrap64 (wrap64 (2 ^ min b 64) - 1))) = le + v) := by
          show wrap64 (le + bits .and .i64 u (wrap64 (wrap64 (2 ^ min b 64) - 1))) = le + v
          have hZ1 : 1 ≤ Z ∧ Z ≤ 2147483648 := by omega
          rw [show min b 64 = b by omega, hZ, show wrap64 Z = Z by unfold wrap64; omega, show wrap64 (Z - 1) = Z - 1 by unfold wrap64; omega, hand]
          unfold wrap64
          omega
        clear hsh hsb hand hsum
        clear hci HPE HLL hu hv hZ hpw hpp HM hr hN hw
        go_enter Tryz.func14, Tryz.ntmps14
        go_upto_region 6 with fail
        go_region
        all_goals go_wp2
        all_goals go_ret
        all_goals exact ⟨by rw [HE.out, ← HV.out]; rfl, HK.out.drewN 1⟩
      · have h6b : (K == 6) = false := by simpa using h6
        have HE : Hid (p = min (max N (-2147483647)) 2147483647) := by show p = _; rw [HPE.out, if_neg h3, if_neg h6]
        obtain ⟨m1, hm1⟩ : ∃ m1, max N (-2147483647) = m1 := ⟨_, rfl⟩
        obtain ⟨m2, hm2⟩ : ∃ m2, min m1 2147483647 = m2 := ⟨_, rfl⟩
        have r1 := fun ts t w => run_mx (P := Tryz.prog) ts t N (-2147483647) m1 hm1 w
        have r2 := fun ts t w => run_mini (P := Tryz.prog) ts t m1 2147483647 m2 hm2 w
        have HE2 : Hid (p = m2) := by show p = m2; rw [HE.out, hm1, hm2]
        clear hm1 hm2
        go_enter Tryz.func14, Tryz.ntmps14
        go_wp2
        go_ret
        exact ⟨by rw [HE2.out]; rfl, HK.out⟩
end Go.Proofs.YtgaofnmgdefdcaaGreatDoor.Qn

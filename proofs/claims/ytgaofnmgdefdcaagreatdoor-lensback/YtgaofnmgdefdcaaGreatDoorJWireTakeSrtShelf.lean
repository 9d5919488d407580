/- What wire's Reader takes as many bytes at once: take, Bytes, Until; bytes.IndexByte. -/
/-
  DERIVED: THE SHELF's CONTRACTS AT THIS DUMP, IN PLAIN WORDS (tools/lay-plain.mjs out of 'YtgaofnmgdefdcaaGreatDoorSrtShelf.lean', which tools/lay-shelf.mjs wrote): THE SAME DECLARATIONS UNDER THE SAME NAMES: 'import', 'namespace', 'open', 'def', 'theorem' AND NOTHING ELSE: no command of the shelf's: FOR A HAND-IN. Each laying: the table of numbers ('.._ren') and one theorem, a field a fact of the dump's own or the kernel's comparison; each contract: ONE APPLICATION.
-/
import Derived.Test.YtgaofnmgdefdcaaGreatDoorJItfNumWireRd
import Derived.Deep.RegionHeld3
import Derived.Shelf.Bytes.SlIndexAt
import Derived.Shelf.SlIterI.Nil
import Derived.Shelf.SortM.Plain
import Derived.Shelf.SortM.SortNone
import Derived.Shelf.SlGeneric
import Derived.Ground.GgzProg
import Derived.Ground.SlgmProg
import Derived.Test.YtgaofnmgdefdcaaGreatDoorProg

namespace Go.Proofs.YtgaofnmgdefdcaaGreatDoor.Wr
open Go.RowKit Go.Proofs.YtgaofnmgdefdcaaGreatDoor.Gen

theorem size_u8 (w : World) : (sizeOf 5).run Tryz.prog w = .ok 1 w := by
  obtain ⟨i0, hi0, hz0, hz1, hz2⟩ := info_parts u8_info
  simp [sizeOf, typeInfo, hi0, hz1]

/-- What is taken, and the Reader behind it. -/
def Takes (base g n : Nat) (ys : List Int) (s : RS) (w : World) (r : Ending) (w' : World) : Prop :=
  ∃ A c, r = .returned (.slice A n c) ∧ w'.ownsRow w.heap.size 5 1 (.slice A n c) n (bv ys) ∧ IsRd base g s w' ∧ Keeps (· = g) w w'

theorem take (g : Nat) (s : RS) (base m : Nat) (w : World) (h : IsRd base g s w) (hm : s.k + m ≤ s.xs.length) :
    Calls Tryz.prog 95 #[.pointer (some ⟨g, 0, none⟩), .int .i64 m] w (Takes base g m ((s.xs.drop s.k).take m) { s with k := s.k + m } w) := by
  have H := Lib.hid h
  obtain ⟨hg, ⟨hk, hlen, _⟩, A, c, hb, hv, hrb⟩ := h
  have h0 : w.cell? ⟨g, 0, none⟩ = some (.slice A s.xs.length c) := hb.cell 0
  have h1 : w.cell? ⟨g, 1, none⟩ = some (.int .i64 s.k) := hb.cell 1
  have h2 : w.frozen? ⟨g, 1, none⟩ = false := hb.frozen 1
  have hc : s.xs.length ≤ c := by obtain ⟨_, _, hq, hle⟩ := own_form hv; injection hq with _ _ hq; omega
  have hl := Lib.hid ((Lies.of_own hv).cutAt c s.k m hc hm)
  have hsl := fun w => run_cut (P := Tryz.prog) 29 5 A s.xs.length c s.k m .i64 .i64 Tryz.underlying29 size_u8 (by omega) w
  have hw : IntKind.i64.wrap ((s.k : Int) + m) = (s.k : Int) + m := IntWalk.i64_in _ (by omega)
  have hn := Lib.hid (show ((s.xs.drop s.k).take m).length = m by simp; omega)
  have hlt := hb.lt
  clear hg hb hv hrb
  go_enter Tryz.func95, Tryz.ntmps95
  go_wp2
  go_region_held3 (fun w' => w'.cell? ⟨g, 0, none⟩ = some (.slice A s.xs.length c) ∧ w'.cell? ⟨g, 1, none⟩ = some (.int .i64 s.k)) (go_keep)
    ((go_at_call 71; refine (clone_n _ _ _ ((s.xs.drop s.k).take m) _ hn.out (by exact hl.out) (by omega)).mono ?_; rintro e w1 ⟨A1, c1, rfl, hv1, hk1⟩; have hq0 : w1.cell? ⟨g, 0, none⟩ = some (.slice A s.xs.length c) := (hk1.cell (p := ⟨g, 0, none⟩) hlt id).trans h0; have hq1 : w1.cell? ⟨g, 1, none⟩ = some (.int .i64 s.k) := (hk1.cell (p := ⟨g, 1, none⟩) hlt id).trans h1))
  have hf : w1.frozen? ⟨g, 1, none⟩ = false := (World.frozen?_of_block (hk1.block g hlt id)).trans h2
  go_wp2
  go_ret
  have hr := (H.out.keeps (S := fun _ => False) hk1.of_drew (fun _ _ => id)).setAt (s.k + m) (by omega)
  exact ⟨A1, c1, rfl, own_keeps (S := (· = g)) hv1 ((Keeps.refl _ _).setOwn _ _) (fun b hb e => by have := (hv1.lt b hb).1; simp at this; omega), by simpa using hr, (hk1.of_drew.none_).setOwn _ _⟩

def RS.many (s : RS) (n : Int) : List Int × RS :=
  if s.e = 0 then (if 0 ≤ n ∧ n ≤ (s.xs.length : Int) - s.k then ((s.xs.drop s.k).take n.toNat, { s with k := s.k + n.toNat }) else ([], { s with e := 3 })) else ([], s)

theorem takes_none {base g : Nat} {s : RS} {w w0 w' : World} (hk0 : Keeps (· = g) w w0) (hr : IsRd base g s w') (hk : Keeps (· = g) w0 w') : Takes base g 0 [] s w (.returned (.slice none 0 0)) w' :=
  ⟨none, 0, rfl, World.ownsRow_nil _ _ _ _, hr, hk0.trans hk⟩

theorem bytes_no (g : Nat) (s : RS) (base : Nat) (n : Int) (w : World) (h : IsRd base g s w) (hn : s.e ≠ 0 ∨ n < 0 ∨ (s.xs.length : Int) - s.k < n) :
    Calls Tryz.prog 74 #[.pointer (some ⟨g, 0, none⟩), .int .i64 n] w (Takes base g 0 [] (s.fail 3) w) := by
  have H := Lib.hid h
  clear h
  by_cases he : s.e = 0
  · have he' : (s.e != 0) = false := by simp [he]
    by_cases h0 : n < 0
    · have hd : decide (n < 0) = true := by simpa using h0
      clear hn he
      go_enter Tryz.func74, Tryz.ntmps74
      go_wp2_with (first | (go_at_call 75; refine (err g s base _ H.out).mono ?_; rintro e w' ⟨rfl, rfl⟩) | (go_at_call 94; refine (fail g s base _ _ H.out).mono ?_; rintro e w' ⟨rfl, hr, hk⟩))
      go_ret
      exact takes_none (Keeps.refl _ _) hr hk
    · have hd : decide (n < 0) = false := by simpa using h0
      have hl : decide (s.left < n) = true := by simp [RS.left, he]; omega
      clear hn he h0
      go_enter Tryz.func74, Tryz.ntmps74
      go_wp2_with (first | (go_at_call 75; refine (err g s base _ H.out).mono ?_; rintro e w' ⟨rfl, rfl⟩) | (go_at_call 80; refine (left g s base _ H.out).mono ?_; rintro e w' ⟨rfl, q, rfl⟩) | (go_at_call 94; refine (fail g s base _ _ (H.out.drewN _)).mono ?_; rintro e w' ⟨rfl, hr, hk⟩))
      go_ret
      exact takes_none ((Keeps.refl _ _).drewN _) hr hk
  · have he' : (s.e != 0) = true := by simp [he]
    clear hn he
    go_enter Tryz.func74, Tryz.ntmps74
    go_wp2_with (first | (go_at_call 75; refine (err g s base _ H.out).mono ?_; rintro e w' ⟨rfl, rfl⟩) | (go_at_call 94; refine (fail g s base _ _ H.out).mono ?_; rintro e w' ⟨rfl, hr, hk⟩))
    go_ret
    exact takes_none (Keeps.refl _ _) hr hk

theorem bytes_yes (g : Nat) (s : RS) (base m : Nat) (w : World) (h : IsRd base g s w) (he : s.e = 0) (hm : s.k + m ≤ s.xs.length) :
    Calls Tryz.prog 74 #[.pointer (some ⟨g, 0, none⟩), .int .i64 m] w (Takes base g m ((s.xs.drop s.k).take m) { s with k := s.k + m } w) := by
  have H := Lib.hid h
  have he' : (s.e != 0) = false := by simp [he]
  have hd : decide ((m : Int) < 0) = false := by simp
  have hl : decide (s.left < (m : Int)) = false := by simp [RS.left, he]; omega
  have hb := h.2.1.2.1
  clear h he
  go_enter Tryz.func74, Tryz.ntmps74
  go_wp2_with (first | (go_at_call 75; refine (err g s base _ H.out).mono ?_; rintro e w' ⟨rfl, rfl⟩) | (go_at_call 80; refine (left g s base _ H.out).mono ?_; rintro e w' ⟨rfl, q, rfl⟩) | (go_at_call 95; refine (take g s base m _ (H.out.drewN _) hm).mono ?_; rintro e w' ⟨A1, c1, rfl, hv, hr, hk⟩))
  go_ret
  exact ⟨A1, c1, rfl, hv, hr, hk.of_drewN⟩

set_option maxRecDepth 100000 in
/-- bytes.IndexByte, as the model's entry has it. -/
theorem index (A : Option Addr) (n c : Nat) (xs : List Int) (cv : Int) (w : World) (hx : xs.length = n) (hl : Lies w A xs) :
    Calls Tryz.prog 60 #[.slice A n c, .int .u8 cv] w fun r w' => r = .returned (.int .i64 (Lib.indexByte (Lib.bytesOf xs) cv.toNat.toUInt8)) ∧ w = w' := by
  have hrun : (Extern.BytealgIndexByte.indexByte #[.slice A n c, .int .u8 cv]).run Tryz.prog w = .ok (.int .i64 (Lib.indexByte (Lib.bytesOf xs) cv.toNat.toUInt8)) w := by
    rcases A with _ | ad
    · have hx0 : xs = [] := by
        rcases hl with h | ⟨b, o, h, _⟩
        · exact h
        · cases h
      subst hx0
      exact Lib.run_indexByteNil w n c cv
    · exact Lib.run_indexByteAt w ad n c xs hx (fun i hi => hl.news i _ (bv_at (by omega))) cv
  have HR := Lib.hid hrun
  clear hrun hl hx
  go_enter Tryz.func60, Tryz.ntmps60
  go_wp2
  rw [run_callFunc_extern Tryz.func86 (by kernel_rfl) (by kernel_rfl) (by kernel_rfl) (e := Extern.BytealgIndexByte.indexByte) (by kernel_rfl), HR.out]
  simp only [Result.andThen]
  rw [Oper.upon_value]
  go_wp2
  go_ret
  exact ⟨rfl, rfl⟩

theorem index_eq (c : Int) (hc : 0 ≤ c ∧ c < 256) : ∀ xs : List Int, (∀ x ∈ xs, 0 ≤ x ∧ x < 256) →
    Lib.indexByte (Lib.bytesOf xs) c.toNat.toUInt8 = if xs.findIdx (· == c) < xs.length then (xs.findIdx (· == c) : Int) else -1
  | [], _ => rfl
  | x :: l, h => by
    have ih := index_eq c hc l (fun y hy => h y (List.mem_cons_of_mem _ hy))
    have hx := h x List.mem_cons_self
    have ht : (UInt8.ofNat x.toNat == c.toNat.toUInt8) = (x == c) := by
      rw [Bool.eq_iff_iff]
      simp only [beq_iff_eq]
      constructor
      · intro he
        have := congrArg UInt8.toNat he
        simp [Nat.toUInt8] at this
        omega
      · rintro rfl
        rfl
    simp only [Lib.bytesOf, List.map_cons, Lib.indexByte, ht, List.findIdx_cons, List.length_cons] at ih ⊢
    rw [ih]
    by_cases he : (x == c) = true
    · simp [he]
    · simp only [he]
      by_cases hf : l.findIdx (· == c) < l.length
      · simp [hf]
      · simp [hf]

def RS.upto (s : RS) (c : Int) : List Int × RS :=
  if s.e = 0 then (if (s.xs.drop s.k).findIdx (· == c) < (s.xs.drop s.k).length then ((s.xs.drop s.k).take ((s.xs.drop s.k).findIdx (· == c)), { s with k := s.k + (s.xs.drop s.k).findIdx (· == c) + 1 }) else ([], { s with e := 3 })) else ([], s)

theorem until_err (g : Nat) (s : RS) (base : Nat) (cv : Int) (w : World) (h : IsRd base g s w) (he : s.e ≠ 0) :
    Calls Tryz.prog 73 #[.pointer (some ⟨g, 0, none⟩), .int .u8 cv] w (Takes base g 0 [] s w) := by
  have H := Lib.hid h
  have he' : (s.e != 0) = true := by simp [he]
  clear h he
  go_enter Tryz.func73, Tryz.ntmps73
  go_wp2_with (first | (go_at_call 75; refine (err g s base _ H.out).mono ?_; rintro e w' ⟨rfl, rfl⟩))
  go_ret
  exact takes_none (Keeps.refl _ _) H.out (Keeps.refl _ _)

theorem IsRd.atCell {base g : Nat} {s : RS} {w : World} (h : IsRd base g s w) : w.cell? ⟨g, 1, none⟩ = some (.int .i64 s.k) ∧ w.frozen? ⟨g, 1, none⟩ = false := by
  obtain ⟨_, _, A, c, hb, _⟩ := h
  exact ⟨hb.cell 1, hb.frozen 1⟩

theorem until_any (g : Nat) (s : RS) (base : Nat) (cv : Int) (w : World) (h : IsRd base g s w) (he : s.e = 0) (hcv : 0 ≤ cv ∧ cv < 256) :
    Calls Tryz.prog 73 #[.pointer (some ⟨g, 0, none⟩), .int .u8 cv] w (Takes base g (s.upto cv).1.length (s.upto cv).1 (s.upto cv).2 w) := by
  have H := Lib.hid h
  obtain ⟨hg, ⟨hk, hlen, hbt⟩, A, c, hb, hv, hrb⟩ := h
  have h0 : w.cell? ⟨g, 0, none⟩ = some (.slice A s.xs.length c) := hb.cell 0
  have h1 : w.cell? ⟨g, 1, none⟩ = some (.int .i64 s.k) := hb.cell 1
  have hc : s.xs.length ≤ c := by obtain ⟨_, _, hq, hle⟩ := own_form hv; injection hq with _ _ hq; omega
  have hl0 := (Lies.of_own hv).cutAt c s.k (s.xs.length - s.k) hc (by omega)
  rw [List.take_of_length_le (by simp)] at hl0
  have hl := Lib.hid hl0
  have hsl := fun w => run_cut_from (P := Tryz.prog) 29 5 A s.xs.length c s.k .i64 Tryz.underlying29 size_u8 hk w
  have hi := index_eq cv hcv (s.xs.drop s.k) (fun x hx => hbt x (List.mem_of_mem_drop hx))
  have hn := Lib.hid (show (s.xs.drop s.k).length = s.xs.length - s.k by simp)
  have hlt := hb.lt
  have he' : (s.e != 0) = false := by simp [he]
  obtain ⟨f, hf⟩ : ∃ f, f = (s.xs.drop s.k).findIdx (· == cv) := ⟨_, rfl⟩
  by_cases hfl : f < s.xs.length - s.k
  · rw [← hf, hn.out, if_pos hfl] at hi
    have HI := Lib.hid hi
    have HU := Lib.hid (show s.upto cv = ((s.xs.drop s.k).take f, { s with k := s.k + f + 1 }) by unfold RS.upto; rw [if_pos he, ← hf, hn.out, if_pos hfl])
    have hd : decide ((f : Int) < 0) = false := by simp
    clear hg hb hv hrb hl0 hi hbt he hf
    go_enter Tryz.func73, Tryz.ntmps73
    go_wp2_with (first | (go_at_call 75; refine (err g s base _ H.out).mono ?_; rintro e w' ⟨rfl, rfl⟩))
    go_region_held3 (fun w' => w'.cell? ⟨g, 0, none⟩ = some (.slice A s.xs.length c) ∧ w'.cell? ⟨g, 1, none⟩ = some (.int .i64 s.k)) (go_keep)
      ((go_at_call 60; refine (index _ _ _ (s.xs.drop s.k) _ _ hn.out (by exact hl.out)).mono ?_; rintro e w1 ⟨rfl, rfl⟩; rw [HI.out]))
    go_wp2_with (first
      | (go_at_call 95
         refine (take g s base f _ (by exact H.out) (by omega)).mono ?_
         rintro e w2 ⟨A1, c1, rfl, hv1, hr1, hk1⟩
         have hc1 : w2.cell? ⟨g, 1, none⟩ = some (.int .i64 ((s.k : Int) + f)) := by simpa using hr1.atCell.1
         have hf1 : w2.frozen? ⟨g, 1, none⟩ = false := hr1.atCell.2))
    go_ret
    have hr := hr1.setAt (s.k + f + 1) (by show s.k + f + 1 ≤ s.xs.length; omega)
    have hle : ((s.xs.drop s.k).take f).length = f := by simp; omega
    rw [HU.out]
    refine ⟨A1, c1, ?_, ?_, by simpa using hr, (hk1.of_drew).setOwn _ _⟩
    · simp only [hle]; rfl
    · simp only [hle]
      exact own_keeps (S := (· = g)) hv1 ((Keeps.refl _ _).setOwn _ _) (fun b hb e => by have := (hv1.lt b hb).1; simp at this; omega)
  · rw [← hf, hn.out, if_neg hfl] at hi
    have HI := Lib.hid hi
    have HU := Lib.hid (show s.upto cv = ([], s.fail 3) by unfold RS.upto RS.fail; rw [if_pos he, ← hf, hn.out, if_neg hfl, if_pos he])
    clear hg hb hv hrb hl0 hi hbt he hf
    go_enter Tryz.func73, Tryz.ntmps73
    go_wp2_with (first | (go_at_call 75; refine (err g s base _ H.out).mono ?_; rintro e w' ⟨rfl, rfl⟩))
    go_region_held3 (fun w' => w'.cell? ⟨g, 0, none⟩ = some (.slice A s.xs.length c) ∧ w'.cell? ⟨g, 1, none⟩ = some (.int .i64 s.k)) (go_keep)
      ((go_at_call 60; refine (index _ _ _ (s.xs.drop s.k) _ _ hn.out (by exact hl.out)).mono ?_; rintro e w1 ⟨rfl, rfl⟩; rw [HI.out]))
    go_wp2_with (first | (go_at_call 94; refine (fail g s base _ _ (by exact H.out)).mono ?_; rintro e w' ⟨rfl, hr, hk⟩))
    go_ret
    rw [HU.out]
    exact ⟨none, 0, rfl, World.ownsRow_nil _ _ _ _, hr, hk.of_drew⟩

theorem until_ (g : Nat) (s : RS) (base : Nat) (cv : Int) (w : World) (h : IsRd base g s w) (hcv : 0 ≤ cv ∧ cv < 256) :
    Calls Tryz.prog 73 #[.pointer (some ⟨g, 0, none⟩), .int .u8 cv] w (Takes base g (s.upto cv).1.length (s.upto cv).1 (s.upto cv).2 w) := by
  by_cases he : s.e = 0
  · exact until_any g s base cv w h he hcv
  · rw [show s.upto cv = ([], s) by simp [RS.upto, he]]
    exact until_err g s base cv w h he
theorem bytes (g : Nat) (s : RS) (base : Nat) (n : Int) (w : World) (h : IsRd base g s w) :
    Calls Tryz.prog 74 #[.pointer (some ⟨g, 0, none⟩), .int .i64 n] w (Takes base g (s.many n).1.length (s.many n).1 (s.many n).2 w) := by
  by_cases hn : s.e ≠ 0 ∨ n < 0 ∨ (s.xs.length : Int) - s.k < n
  · have e : s.many n = ([], s.fail 3) := by
      unfold RS.many RS.fail
      by_cases he : s.e = 0
      · have hq : ¬ (0 ≤ n ∧ n ≤ (s.xs.length : Int) - s.k) := by rcases hn with h | h | h <;> omega
        simp only [he, if_true, if_neg hq]
      · simp only [he, if_false]
    rw [e]
    exact bytes_no g s base n w h hn
  · have he : s.e = 0 := by by_cases h0 : s.e = 0; exact h0; exact absurd (.inl h0) hn
    have h1 : 0 ≤ n ∧ n ≤ (s.xs.length : Int) - s.k := by omega
    have hk := h.2.1.1
    obtain ⟨m, rfl⟩ := Int.eq_ofNat_of_zero_le h1.1
    have e : s.many m = ((s.xs.drop s.k).take m, { s with k := s.k + m }) := by unfold RS.many; rw [if_pos he, if_pos h1]; rfl
    have hl : ((s.xs.drop s.k).take m).length = m := by simp; omega
    rw [e]
    simp only [hl]
    exact bytes_yes g s base m w h he (by omega)
end Go.Proofs.YtgaofnmgdefdcaaGreatDoor.Wr

namespace Go.Proofs
open Go.Shelf
def Tryz.sortedA_ren : Go.Shelf.Ren := ⟨fun | 6 => 43 | 8 => 68 | 9 => 69 | 11 => 91 | 13 => 93 | 12 => 92 | 23 => 116 | 24 => 105 | 14 => 107 | 15 => 108 | 16 => 109 | 17 => 110 | 18 => 111 | 19 => 112 | 20 => 113 | 21 => 114 | 22 => 115 | 25 => 122 | 26 => 123 | 27 => 124 | 28 => 125 | 29 => 126 | 30 => 120 | 31 => 134 | n => n, fun | 26 => 3 | 28 => 100 | 24 => 50 | 0 => 0 | 3 => 3 | 37 => 159 | 48 => 88 | 50 => 69 | 4 => 4 | 40 => 173 | 39 => 172 | 45 => 178 | 5 => 5 | 9 => 9 | 51 => 184 | 55 => 188 | 57 => 198 | 58 => 199 | 33 => 136 | n => n, fun | n => n⟩
theorem Tryz.sortedA : Go.Proofs.SlLaysZI.n6 Tryz.prog Tryz.sortedA_ren := {
  mixed := by kernel_rfl
  f6 := ⟨Tryz.f43.name, by decide, Tryz.func43.trans (congrArg some (by kernel_rfl))⟩
  f8 := ⟨Tryz.f68.name, by decide, Tryz.func68.trans (congrArg some (by kernel_rfl))⟩
  f11 := ⟨Tryz.f91.name, by decide, Tryz.func91.trans (congrArg some (by kernel_rfl))⟩
  t0 := Tryz.underlying0
  a0 := Tryz.isAgg0
  z0 := Tryz.sizeOf0
  v0 := Tryz.zeroValue0
  t24 := Tryz.underlying50
  a24 := Tryz.isAgg50
  z24 := Tryz.sizeOf50
  v24 := Tryz.zeroValue50
  t26 := Tryz.underlying3
  a26 := Tryz.isAgg3
  z26 := Tryz.sizeOf3
  v26 := Tryz.zeroValue3
  t28 := Tryz.underlying100
  a28 := Tryz.isAgg100
  z28 := Tryz.sizeOf100
  v28 := Tryz.zeroValue100
  i26 := by kernel_rfl }
def Tryz.keysA_ren : Go.Shelf.Ren := ⟨fun | 7 => 44 | 10 => 70 | n => n, fun | 23 => 72 | 26 => 3 | 3 => 79 | 28 => 100 | 0 => 0 | 27 => 99 | 33 => 136 | 4 => 4 | n => n, fun | n => n⟩
theorem Tryz.keysA : Go.Proofs.SlLaysZI.n7 Tryz.prog Tryz.keysA_ren := {
  mixed := by kernel_rfl
  f7 := ⟨Tryz.f44.name, by decide, Tryz.func44.trans (congrArg some (by kernel_rfl))⟩
  f10 := ⟨Tryz.f70.name, by decide, Tryz.func70.trans (congrArg some (by kernel_rfl))⟩
  t0 := Tryz.underlying0
  a0 := Tryz.isAgg0
  z0 := Tryz.sizeOf0
  v0 := Tryz.zeroValue0
  t4 := Tryz.underlying4
  a4 := Tryz.isAgg4
  z4 := Tryz.sizeOf4
  v4 := Tryz.zeroValue4
  t23 := Tryz.underlying72
  a23 := Tryz.isAgg72
  z23 := Tryz.sizeOf72
  v23 := Tryz.zeroValue72
  t26 := Tryz.underlying3
  a26 := Tryz.isAgg3
  z26 := Tryz.sizeOf3
  v26 := Tryz.zeroValue3
  t27 := Tryz.underlying99
  a27 := Tryz.isAgg99
  z27 := Tryz.sizeOf99
  v27 := Tryz.zeroValue99
  t28 := Tryz.underlying100
  a28 := Tryz.isAgg100
  z28 := Tryz.sizeOf100
  v28 := Tryz.zeroValue100
  t33 := Tryz.underlying136
  a33 := Tryz.isAgg136
  z33 := Tryz.sizeOf136
  v33 := Tryz.zeroValue136 }
def Tryz.keysB_ren : Go.Shelf.Ren := ⟨fun | 7 => 52 | 10 => 79 | n => n, fun | 23 => 105 | 26 => 3 | 3 => 110 | 28 => 100 | 0 => 0 | 27 => 99 | 33 => 136 | 4 => 4 | n => n, fun | n => n⟩
theorem Tryz.keysB : Go.Proofs.SlLaysZI.n7 Tryz.prog Tryz.keysB_ren := {
  mixed := by kernel_rfl
  f7 := ⟨Tryz.f52.name, by decide, Tryz.func52.trans (congrArg some (by kernel_rfl))⟩
  f10 := ⟨Tryz.f79.name, by decide, Tryz.func79.trans (congrArg some (by kernel_rfl))⟩
  t0 := Tryz.underlying0
  a0 := Tryz.isAgg0
  z0 := Tryz.sizeOf0
  v0 := Tryz.zeroValue0
  t4 := Tryz.underlying4
  a4 := Tryz.isAgg4
  z4 := Tryz.sizeOf4
  v4 := Tryz.zeroValue4
  t23 := Tryz.underlying105
  a23 := Tryz.isAgg105
  z23 := Tryz.sizeOf105
  v23 := Tryz.zeroValue105
  t26 := Tryz.underlying3
  a26 := Tryz.isAgg3
  z26 := Tryz.sizeOf3
  v26 := Tryz.zeroValue3
  t27 := Tryz.underlying99
  a27 := Tryz.isAgg99
  z27 := Tryz.sizeOf99
  v27 := Tryz.zeroValue99
  t28 := Tryz.underlying100
  a28 := Tryz.isAgg100
  z28 := Tryz.sizeOf100
  v28 := Tryz.zeroValue100
  t33 := Tryz.underlying136
  a33 := Tryz.isAgg136
  z33 := Tryz.sizeOf136
  v33 := Tryz.zeroValue136 }
def Tryz.sortA_ren : Go.Shelf.Ren := ⟨fun | 5 => 69 | 8 => 93 | 7 => 92 | 19 => 116 | 20 => 105 | 10 => 107 | 11 => 108 | 12 => 109 | 13 => 110 | 14 => 111 | 15 => 112 | 16 => 113 | 17 => 114 | 18 => 115 | 30 => 122 | 31 => 123 | 32 => 124 | 33 => 125 | 34 => 126 | 35 => 120 | 40 => 134 | n => n, fun | 23 => 50 | 25 => 3 | 3 => 3 | 32 => 159 | 22 => 50 | 0 => 0 | 44 => 88 | 46 => 69 | 4 => 4 | 36 => 173 | 35 => 172 | 41 => 178 | 5 => 5 | 9 => 9 | 53 => 184 | 57 => 188 | 63 => 198 | 64 => 199 | n => n, fun | n => n⟩
theorem Tryz.sortA : Go.Proofs.SlLaysM.n5 Tryz.prog Tryz.sortA_ren := {
  mixed := by kernel_rfl
  f5 := ⟨Tryz.f69.name, by decide, Tryz.func69.trans (congrArg some (by kernel_rfl))⟩
  f7 := ⟨Tryz.f92.name, by decide, Tryz.func92.trans (congrArg some (by kernel_rfl))⟩
  f8 := Tryz.func93.trans (congrArg some (by kernel_rfl))
  f10 := ⟨Tryz.f107.name, by decide, Tryz.func107.trans (congrArg some (by kernel_rfl))⟩
  f11 := ⟨Tryz.f108.name, by decide, Tryz.func108.trans (congrArg some (by kernel_rfl))⟩
  f12 := ⟨Tryz.f109.name, by decide, Tryz.func109.trans (congrArg some (by kernel_rfl))⟩
  f13 := ⟨Tryz.f110.name, by decide, Tryz.func110.trans (congrArg some (by kernel_rfl))⟩
  f14 := ⟨Tryz.f111.name, by decide, Tryz.func111.trans (congrArg some (by kernel_rfl))⟩
  f15 := ⟨Tryz.f112.name, by decide, Tryz.func112.trans (congrArg some (by kernel_rfl))⟩
  f16 := ⟨Tryz.f113.name, by decide, Tryz.func113.trans (congrArg some (by kernel_rfl))⟩
  f17 := ⟨Tryz.f114.name, by decide, Tryz.func114.trans (congrArg some (by kernel_rfl))⟩
  f18 := ⟨Tryz.f115.name, by decide, Tryz.func115.trans (congrArg some (by kernel_rfl))⟩
  f19 := Tryz.func116.trans (congrArg some (by kernel_rfl))
  f20 := Tryz.func105.trans (congrArg some (by kernel_rfl))
  f30 := ⟨Tryz.f122.name, by decide, Tryz.func122.trans (congrArg some (by kernel_rfl))⟩
  f31 := Tryz.func123.trans (congrArg some (by kernel_rfl))
  f32 := Tryz.func124.trans (congrArg some (by kernel_rfl))
  f33 := ⟨Tryz.f125.name, by decide, Tryz.func125.trans (congrArg some (by kernel_rfl))⟩
  f34 := ⟨Tryz.f126.name, by decide, Tryz.func126.trans (congrArg some (by kernel_rfl))⟩
  f35 := ⟨Tryz.f120.name, by decide, Tryz.func120.trans (congrArg some (by kernel_rfl))⟩
  f40 := ⟨Tryz.f134.name, by decide, Tryz.func134.trans (congrArg some (by kernel_rfl))⟩
  t0 := Tryz.underlying0
  a0 := Tryz.isAgg0
  z0 := Tryz.sizeOf0
  v0 := Tryz.zeroValue0
  t3 := Tryz.underlying3
  a3 := Tryz.isAgg3
  z3 := Tryz.sizeOf3
  v3 := Tryz.zeroValue3
  t4 := Tryz.underlying4
  a4 := Tryz.isAgg4
  z4 := Tryz.sizeOf4
  v4 := Tryz.zeroValue4
  t5 := Tryz.underlying5
  a5 := Tryz.isAgg5
  z5 := Tryz.sizeOf5
  v5 := Tryz.zeroValue5
  t9 := Tryz.underlying9
  a9 := Tryz.isAgg9
  z9 := Tryz.sizeOf9
  v9 := Tryz.zeroValue9
  t22 := Tryz.underlying50
  a22 := Tryz.isAgg50
  z22 := Tryz.sizeOf50
  v22 := Tryz.zeroValue50
  t23 := Tryz.underlying50
  a23 := Tryz.isAgg50
  z23 := Tryz.sizeOf50
  v23 := Tryz.zeroValue50
  t25 := Tryz.underlying3
  a25 := Tryz.isAgg3
  z25 := Tryz.sizeOf3
  v25 := Tryz.zeroValue3
  t32 := Tryz.underlying159
  a32 := Tryz.isAgg159
  z32 := Tryz.sizeOf159
  v32 := Tryz.zeroValue159
  t35 := Tryz.underlying172
  a35 := Tryz.isAgg172
  z35 := Tryz.sizeOf172
  v35 := Tryz.zeroValue172
  t36 := Tryz.underlying173
  a36 := Tryz.isAgg173
  z36 := Tryz.sizeOf173
  v36 := Tryz.zeroValue173
  t41 := Tryz.underlying178
  a41 := Tryz.isAgg178
  z41 := Tryz.sizeOf178
  v41 := Tryz.zeroValue178
  t44 := Tryz.underlying88
  a44 := Tryz.isAgg88
  z44 := Tryz.sizeOf88
  v44 := Tryz.zeroValue88
  t46 := Tryz.underlying69
  a46 := Tryz.isAgg69
  z46 := Tryz.sizeOf69
  v46 := Tryz.zeroValue69
  t53 := Tryz.underlying184
  a53 := Tryz.isAgg184
  z53 := Tryz.sizeOf184
  v53 := Tryz.zeroValue184
  t57 := Tryz.underlying188
  a57 := Tryz.isAgg188
  z57 := Tryz.sizeOf188
  v57 := Tryz.zeroValue188
  t63 := Tryz.underlying198
  a63 := Tryz.isAgg198
  z63 := Tryz.sizeOf198
  v63 := Tryz.zeroValue198
  t64 := Tryz.underlying199
  a64 := Tryz.isAgg199
  z64 := Tryz.sizeOf199
  v64 := Tryz.zeroValue199 }
end Go.Proofs

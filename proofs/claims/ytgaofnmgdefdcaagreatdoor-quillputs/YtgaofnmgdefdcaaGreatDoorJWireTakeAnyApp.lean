/- What wire's Reader takes as many bytes at once: take, Bytes, Until; bytes.IndexByte. -/
/- Appends of bytes that may be nil, at a step of a region that draws its order; what lies ahead of a place. No conditions beyond those that each law names. -/
import Derived.Test.YtgaofnmgdefdcaaGreatDoorJItfNumWireRd
import Derived.Deep.RegionHeld3
import Derived.Shelf.Bytes.SlIndexAt
import Derived.Laws.AppendOwnNone
import Derived.Laws.BitsAllLaws
import Derived.Deep.AppendLies
import Derived.Deep.RegionLaw

namespace Go.Proofs.YtgaofnmgdefdcaaGreatDoor.Wr
open Go.RowKit Go.Proofs.YtgaofnmgdefdcaaGreatDoor.Gen

theorem size_u8 (w : World) : (sizeOf 5).run Tryz.prog w = .ok 1 w := by
  obtain ⟨i0, hi0, hz0, hz1, hz2⟩ := info_parts u8_info
  simp [sizeOf, typeInfo, hi0, hz1]

/-- What is taken, and the Reader behind it. -/
def Takes (base g n : Nat) (ys : List Int) (s : RS) (w : World) (r : Ending) (w' : World) : Prop :=
  ∃ A c, r = .returned (.slice A n c) ∧ w'.ownsRow w.heap.size 5 1 (.slice A n c) n (bv ys) ∧ IsRd base g s w' ∧ Keeps (· = g) w w'

theorem take (g : Nat) (s : RS) (base m : Nat) (w : World) (h : IsRd base g s w) (hm : s.k + m ≤ s.xs.length) :
    Calls Tryz.prog 95 #[.pointer (some ⟨g, 0, none⟩), .int .i64 m] w (Takes base g m ((s.xs.drop s.k).take m) { s with k := s.k + m } w) := by
  have H := Lib.hid h
  obtain ⟨hg, ⟨hk, hlen, _⟩, A, c, hb, hv, hrb⟩ := h
  have h0 : w.cell? ⟨g, 0, none⟩ = some (.slice A s.xs.length c) := hb.cell 0
  have h1 : w.cell? ⟨g, 1, none⟩ = some (.int .i64 s.k) := hb.cell 1
  have h2 : w.frozen? ⟨g, 1, none⟩ = false := hb.frozen 1
  have hc : s.xs.length ≤ c := by obtain ⟨_, _, hq, hle⟩ := own_form hv; injection hq with _ _ hq; omega
  have hl := Lib.hid ((Lies.of_own hv).cutAt c s.k m hc hm)
  have hsl := fun w => run_cut (P := Tryz.prog) 29 5 A s.xs.length c s.k m .i64 .i64 Tryz.underlying29 size_u8 (by omega) w
  have hw : IntKind.i64.wrap ((s.k : Int) + m) = (s.k : Int) + m := IntWalk.i64_in _ (by omega)
  have hn := Lib.hid (show ((s.xs.drop s.k).take m).length = m by simp; omega)
  have hlt := hb.lt
  clear hg hb hv hrb
  go_enter Tryz.func95, Tryz.ntmps95
  go_wp2
  go_region_held3 (fun w' => w'.cell? ⟨g, 0, none⟩ = some (.slice A s.xs.length c) ∧ w'.cell? ⟨g, 1, none⟩ = some (.int .i64 s.k)) (go_keep)
    ((go_at_call 71; refine (clone_n _ _ _ ((s.xs.drop s.k).take m) _ hn.out (by exact hl.out) (by omega)).mono ?_; rintro e w1 ⟨A1, c1, rfl, hv1, hk1⟩; have hq0 : w1.cell? ⟨g, 0, none⟩ = some (.slice A s.xs.length c) := (hk1.cell (p := ⟨g, 0, none⟩) hlt id).trans h0; have hq1 : w1.cell? ⟨g, 1, none⟩ = some (.int .i64 s.k) := (hk1.cell (p := ⟨g, 1, none⟩) hlt id).trans h1))
  have hf : w1.frozen? ⟨g, 1, none⟩ = false := (World.frozen?_of_block (hk1.block g hlt id)).trans h2
  go_wp2
  go_ret
  have hr := (H.out.keeps (S := fun _ => False) hk1.of_drew (fun _ _ => id)).setAt (s.k + m) (by omega)
  exact ⟨A1, c1, rfl, own_keeps (S := (· = g)) hv1 ((Keeps.refl _ _).setOwn _ _) (fun b hb e => by have := (hv1.lt b hb).1; simp at this; omega), by simpa using hr, (hk1.of_drew.none_).setOwn _ _⟩

def RS.many (s : RS) (n : Int) : List Int × RS :=
  if s.e = 0 then (if 0 ≤ n ∧ n ≤ (s.xs.length : Int) - s.k then ((s.xs.drop s.k).take n.toNat, { s with k := s.k + n.toNat }) else ([], { s with e := 3 })) else ([], s)

theorem takes_none {base g : Nat} {s : RS} {w w0 w' : World} (hk0 : Keeps (· = g) w w0) (hr : IsRd base g s w') (hk : Keeps (· = g) w0 w') : Takes base g 0 [] s w (.returned (.slice none 0 0)) w' :=
  ⟨none, 0, rfl, World.ownsRow_nil _ _ _ _, hr, hk0.trans hk⟩

theorem bytes_no (g : Nat) (s : RS) (base : Nat) (n : Int) (w : World) (h : IsRd base g s w) (hn : s.e ≠ 0 ∨ n < 0 ∨ (s.xs.length : Int) - s.k < n) :
    Calls Tryz.prog 74 #[.pointer (some ⟨g, 0, none⟩), .int .i64 n] w (Takes base g 0 [] (s.fail 3) w) := by
  have H := Lib.hid h
  clear h
  by_cases he : s.e = 0
  · have he' : (s.e != 0) = false := by simp [he]
    by_cases h0 : n < 0
    · have hd : decide (n < 0) = true := by simpa using h0
      clear hn he
      go_enter Tryz.func74, Tryz.ntmps74
      go_wp2_with (first | (go_at_call 75; refine (err g s base _ H.out).mono ?_; rintro e w' ⟨rfl, rfl⟩) | (go_at_call 94; refine (fail g s base _ _ H.out).mono ?_; rintro e w' ⟨rfl, hr, hk⟩))
      go_ret
      exact takes_none (Keeps.refl _ _) hr hk
    · have hd : decide (n < 0) = false := by simpa using h0
      have hl : decide (s.left < n) = true := by simp [RS.left, he]; omega
      clear hn he h0
      go_enter Tryz.func74, Tryz.ntmps74
      go_wp2_with (first | (go_at_call 75; refine (err g s base _ H.out).mono ?_; rintro e w' ⟨rfl, rfl⟩) | (go_at_call 80; refine (left g s base _ H.out).mono ?_; rintro e w' ⟨rfl, q, rfl⟩) | (go_at_call 94; refine (fail g s base _ _ (H.out.drewN _)).mono ?_; rintro e w' ⟨rfl, hr, hk⟩))
      go_ret
      exact takes_none ((Keeps.refl _ _).drewN _) hr hk
  · have he' : (s.e != 0) = true := by simp [he]
    clear hn he
    go_enter Tryz.func74, Tryz.ntmps74
    go_wp2_with (first | (go_at_call 75; refine (err g s base _ H.out).mono ?_; rintro e w' ⟨rfl, rfl⟩) | (go_at_call 94; refine (fail g s base _ _ H.out).mono ?_; rintro e w' ⟨rfl, hr, hk⟩))
    go_ret
    exact takes_none (Keeps.refl _ _) hr hk

theorem bytes_yes (g : Nat) (s : RS) (base m : Nat) (w : World) (h : IsRd base g s w) (he : s.e = 0) (hm : s.k + m ≤ s.xs.length) :
    Calls Tryz.prog 74 #[.pointer (some ⟨g, 0, none⟩), .int .i64 m] w (Takes base g m ((s.xs.drop s.k).take m) { s with k := s.k + m } w) := by
  have H := Lib.hid h
  have he' : (s.e != 0) = false := by simp [he]
  have hd : decide ((m : Int) < 0) = false := by simp
  have hl : decide (s.left < (m : Int)) = false := by simp [RS.left, he]; omega
  have hb := h.2.1.2.1
  clear h he
  go_enter Tryz.func74, Tryz.ntmps74
  go_wp2_with (first | (go_at_call 75; refine (err g s base _ H.out).mono ?_; rintro e w' ⟨rfl, rfl⟩) | (go_at_call 80; refine (left g s base _ H.out).mono ?_; rintro e w' ⟨rfl, q, rfl⟩) | (go_at_call 95; refine (take g s base m _ (H.out.drewN _) hm).mono ?_; rintro e w' ⟨A1, c1, rfl, hv, hr, hk⟩))
  go_ret
  exact ⟨A1, c1, rfl, hv, hr, hk.of_drewN⟩

set_option maxRecDepth 100000 in
/-- bytes.IndexByte, as the model's entry has it. -/
theorem index (A : Option Addr) (n c : Nat) (xs : List Int) (cv : Int) (w : World) (hx : xs.length = n) (hl : Lies w A xs) :
    Calls Tryz.prog 60 #[.slice A n c, .int .u8 cv] w fun r w' => r = .returned (.int .i64 (Lib.indexByte (Lib.bytesOf xs) cv.toNat.toUInt8)) ∧ w = w' := by
  have hrun : (Extern.BytealgIndexByte.indexByte #[.slice A n c, .int .u8 cv]).run Tryz.prog w = .ok (.int .i64 (Lib.indexByte (Lib.bytesOf xs) cv.toNat.toUInt8)) w := by
    rcases A with _ | ad
    · have hx0 : xs = [] := by
        rcases hl with h | ⟨b, o, h, _⟩
        · exact h
        · cases h
      subst hx0
      exact Lib.run_indexByteNil w n c cv
    · exact Lib.run_indexByteAt w ad n c xs hx (fun i hi => hl.news i _ (bv_at (by omega))) cv
  have HR := Lib.hid hrun
  clear hrun hl hx
  go_enter Tryz.func60, Tryz.ntmps60
  go_wp2
  rw [run_callFunc_extern Tryz.func86 (by kernel_rfl) (by kernel_rfl) (by kernel_rfl) (e := Extern.BytealgIndexByte.indexByte) (by kernel_rfl), HR.out]
  simp only [Result.andThen]
  rw [Oper.upon_value]
  go_wp2
  go_ret
  exact ⟨rfl, rfl⟩

theorem index_eq (c : Int) (hc : 0 ≤ c ∧ c < 256) : ∀ xs : List Int, (∀ x ∈ xs, 0 ≤ x ∧ x < 256) →
    Lib.indexByte (Lib.bytesOf xs) c.toNat.toUInt8 = if xs.findIdx (· == c) < xs.length then (xs.findIdx (· == c) : Int) else -1
  | [], _ => rfl
  | x :: l, h => by
    have ih := index_eq c hc l (fun y hy => h y (List.mem_cons_of_mem _ hy))
    have hx := h x List.mem_cons_self
    have ht : (UInt8.ofNat x.toNat == c.toNat.toUInt8) = (x == c) := by
      rw [Bool.eq_iff_iff]
      simp only [beq_iff_eq]
      constructor
      · intro he
        have := congrArg UInt8.toNat he
        simp [Nat.toUInt8] at this
        omega
      · rintro rfl
        rfl
    simp only [Lib.bytesOf, List.map_cons, Lib.indexByte, ht, List.findIdx_cons, List.length_cons] at ih ⊢
    rw [ih]
    by_cases he : (x == c) = true
    · simp [he]
    · simp only [he]
      by_cases hf : l.findIdx (· == c) < l.length
      · simp [hf]
      · simp [hf]

def RS.upto (s : RS) (c : Int) : List Int × RS :=
  if s.e = 0 then (if (s.xs.drop s.k).findIdx (· == c) < (s.xs.drop s.k).length then ((s.xs.drop s.k).take ((s.xs.drop s.k).findIdx (· == c)), { s with k := s.k + (s.xs.drop s.k).findIdx (· == c) + 1 }) else ([], { s with e := 3 })) else ([], s)

theorem until_err (g : Nat) (s : RS) (base : Nat) (cv : Int) (w : World) (h : IsRd base g s w) (he : s.e ≠ 0) :
    Calls Tryz.prog 73 #[.pointer (some ⟨g, 0, none⟩), .int .u8 cv] w (Takes base g 0 [] s w) := by
  have H := Lib.hid h
  have he' : (s.e != 0) = true := by simp [he]
  clear h he
  go_enter Tryz.func73, Tryz.ntmps73
  go_wp2_with (first | (go_at_call 75; refine (err g s base _ H.out).mono ?_; rintro e w' ⟨rfl, rfl⟩))
  go_ret
  exact takes_none (Keeps.refl _ _) H.out (Keeps.refl _ _)

theorem IsRd.atCell {base g : Nat} {s : RS} {w : World} (h : IsRd base g s w) : w.cell? ⟨g, 1, none⟩ = some (.int .i64 s.k) ∧ w.frozen? ⟨g, 1, none⟩ = false := by
  obtain ⟨_, _, A, c, hb, _⟩ := h
  exact ⟨hb.cell 1, hb.frozen 1⟩

theorem until_any (g : Nat) (s : RS) (base : Nat) (cv : Int) (w : World) (h : IsRd base g s w) (he : s.e = 0) (hcv : 0 ≤ cv ∧ cv < 256) :
    Calls Tryz.prog 73 #[.pointer (some ⟨g, 0, none⟩), .int .u8 cv] w (Takes base g (s.upto cv).1.length (s.upto cv).1 (s.upto cv).2 w) := by
  have H := Lib.hid h
  obtain ⟨hg, ⟨hk, hlen, hbt⟩, A, c, hb, hv, hrb⟩ := h
  have h0 : w.cell? ⟨g, 0, none⟩ = some (.slice A s.xs.length c) := hb.cell 0
  have h1 : w.cell? ⟨g, 1, none⟩ = some (.int .i64 s.k) := hb.cell 1
  have hc : s.xs.length ≤ c := by obtain ⟨_, _, hq, hle⟩ := own_form hv; injection hq with _ _ hq; omega
  have hl0 := (Lies.of_own hv).cutAt c s.k (s.xs.length - s.k) hc (by omega)
  rw [List.take_of_length_le (by simp)] at hl0
  have hl := Lib.hid hl0
  have hsl := fun w => run_cut_from (P := Tryz.prog) 29 5 A s.xs.length c s.k .i64 Tryz.underlying29 size_u8 hk w
  have hi := index_eq cv hcv (s.xs.drop s.k) (fun x hx => hbt x (List.mem_of_mem_drop hx))
  have hn := Lib.hid (show (s.xs.drop s.k).length = s.xs.length - s.k by simp)
  have hlt := hb.lt
  have he' : (s.e != 0) = false := by simp [he]
  obtain ⟨f, hf⟩ : ∃ f, f = (s.xs.drop s.k).findIdx (· == cv) := ⟨_, rfl⟩
  by_cases hfl : f < s.xs.length - s.k
  · rw [← hf, hn.out, if_pos hfl] at hi
    have HI := Lib.hid hi
    have HU := Lib.hid (show s.upto cv = ((s.xs.drop s.k).take f, { s with k := s.k + f + 1 }) by unfold RS.upto; rw [if_pos he, ← hf, hn.out, if_pos hfl])
    have hd : decide ((f : Int) < 0) = false := by simp
    clear hg hb hv hrb hl0 hi hbt he hf
    go_enter Tryz.func73, Tryz.ntmps73
    go_wp2_with (first | (go_at_call 75; refine (err g s base _ H.out).mono ?_; rintro e w' ⟨rfl, rfl⟩))
    go_region_held3 (fun w' => w'.cell? ⟨g, 0, none⟩ = some (.slice A s.xs.length c) ∧ w'.cell? ⟨g, 1, none⟩ = some (.int .i64 s.k)) (go_keep)
      ((go_at_call 60; refine (index _ _ _ (s.xs.drop s.k) _ _ hn.out (by exact hl.out)).mono ?_; rintro e w1 ⟨rfl, rfl⟩; rw [HI.out]))
    go_wp2_with (first
      | (go_at_call 95
         refine (take g s base f _ (by exact H.out) (by omega)).mono ?_
         rintro e w2 ⟨A1, c1, rfl, hv1, hr1, hk1⟩
         have hc1 : w2.cell? ⟨g, 1, none⟩ = some (.int .i64 ((s.k : Int) + f)) := by simpa using hr1.atCell.1
         have hf1 : w2.frozen? ⟨g, 1, none⟩ = false := hr1.atCell.2))
    go_ret
    have hr := hr1.setAt (s.k + f + 1) (by show s.k + f + 1 ≤ s.xs.length; omega)
    have hle : ((s.xs.drop s.k).take f).length = f := by simp; omega
    rw [HU.out]
    refine ⟨A1, c1, ?_, ?_, by simpa using hr, (hk1.of_drew).setOwn _ _⟩
    · simp only [hle]; rfl
    · simp only [hle]
      exact own_keeps (S := (· = g)) hv1 ((Keeps.refl _ _).setOwn _ _) (fun b hb e => by have := (hv1.lt b hb).1; simp at this; omega)
  · rw [← hf, hn.out, if_neg hfl] at hi
    have HI := Lib.hid hi
    have HU := Lib.hid (show s.upto cv = ([], s.fail 3) by unfold RS.upto RS.fail; rw [if_pos he, ← hf, hn.out, if_neg hfl, if_pos he])
    clear hg hb hv hrb hl0 hi hbt he hf
    go_enter Tryz.func73, Tryz.ntmps73
    go_wp2_with (first | (go_at_call 75; refine (err g s base _ H.out).mono ?_; rintro e w' ⟨rfl, rfl⟩))
    go_region_held3 (fun w' => w'.cell? ⟨g, 0, none⟩ = some (.slice A s.xs.length c) ∧ w'.cell? ⟨g, 1, none⟩ = some (.int .i64 s.k)) (go_keep)
      ((go_at_call 60; refine (index _ _ _ (s.xs.drop s.k) _ _ hn.out (by exact hl.out)).mono ?_; rintro e w1 ⟨rfl, rfl⟩; rw [HI.out]))
    go_wp2_with (first | (go_at_call 94; refine (fail g s base _ _ (by exact H.out)).mono ?_; rintro e w' ⟨rfl, hr, hk⟩))
    go_ret
    rw [HU.out]
    exact ⟨none, 0, rfl, World.ownsRow_nil _ _ _ _, hr, hk.of_drew⟩

theorem until_ (g : Nat) (s : RS) (base : Nat) (cv : Int) (w : World) (h : IsRd base g s w) (hcv : 0 ≤ cv ∧ cv < 256) :
    Calls Tryz.prog 73 #[.pointer (some ⟨g, 0, none⟩), .int .u8 cv] w (Takes base g (s.upto cv).1.length (s.upto cv).1 (s.upto cv).2 w) := by
  by_cases he : s.e = 0
  · exact until_any g s base cv w h he hcv
  · rw [show s.upto cv = ([], s) by simp [RS.upto, he]]
    exact until_err g s base cv w h he
theorem bytes (g : Nat) (s : RS) (base : Nat) (n : Int) (w : World) (h : IsRd base g s w) :
    Calls Tryz.prog 74 #[.pointer (some ⟨g, 0, none⟩), .int .i64 n] w (Takes base g (s.many n).1.length (s.many n).1 (s.many n).2 w) := by
  by_cases hn : s.e ≠ 0 ∨ n < 0 ∨ (s.xs.length : Int) - s.k < n
  · have e : s.many n = ([], s.fail 3) := by
      unfold RS.many RS.fail
      by_cases he : s.e = 0
      · have hq : ¬ (0 ≤ n ∧ n ≤ (s.xs.length : Int) - s.k) := by rcases hn with h | h | h <;> omega
        simp only [he, if_true, if_neg hq]
      · simp only [he, if_false]
    rw [e]
    exact bytes_no g s base n w h hn
  · have he : s.e = 0 := by by_cases h0 : s.e = 0; exact h0; exact absurd (.inl h0) hn
    have h1 : 0 ≤ n ∧ n ≤ (s.xs.length : Int) - s.k := by omega
    have hk := h.2.1.1
    obtain ⟨m, rfl⟩ := Int.eq_ofNat_of_zero_le h1.1
    have e : s.many m = ((s.xs.drop s.k).take m, { s with k := s.k + m }) := by unfold RS.many; rw [if_pos he, if_pos h1]; rfl
    have hl : ((s.xs.drop s.k).take m).length = m := by simp; omega
    rw [e]
    simp only [hl]
    exact bytes_yes g s base m w h he (by omega)
end Go.Proofs.YtgaofnmgdefdcaaGreatDoor.Wr

namespace Go.Proofs.YtgaofnmgdefdcaaGreatDoor.Ap
open Go.RowKit Go.Proofs.YtgaofnmgdefdcaaGreatDoor.Gen Go.Proofs.YtgaofnmgdefdcaaGreatDoor.Wr

theorem run_app_none (base n c : Nat) (ty : TypeId) (v : Value) (ys : List Int) (w : World) (hown : w.ownsRow base 5 1 v n (bv ys)) :
    (Builtin.append_ #[29, 29] ty #[v, .slice none 0 c]).run Tryz.prog w = .ok v w := by
  obtain ⟨i0, hi0, hz0, hz1, hz2⟩ := info_parts u8_info
  have ht : Tryz.prog.underlying 29 = some (.slice 5) := Tryz.underlying29
  rcases hown.2 with ⟨rfl, rfl⟩ | ⟨g, cap, cur, rfl, _, _, hnc, _⟩
  · simp [Builtin.append_, run_underlying ht, sizeOf, typeInfo, hi0, Builtin.lenOf, Builtin.firstCells]
  · simp [Builtin.append_, run_underlying ht, sizeOf, typeInfo, hi0, Builtin.lenOf, Builtin.firstCells, hnc, storeCells]
/-- Bytes that may be nil, behind a row of one's own. -/
theorem run_app (base n m c : Nat) (ty : TypeId) (v : Value) (ys xs : List Int) (A : Option Addr) (w : World) (hown : w.ownsRow base 5 1 v n (bv ys)) (hl : Lies w A xs) (hm : xs.length = m) (h63 : n + m ≤ 1000000) (hbase : base ≤ w.heap.size) :
    ∃ v' w', (Builtin.append_ #[29, 29] ty #[v, .slice A m c]).run Tryz.prog w = .ok v' w' ∧ w'.ownsRow base 5 1 v' (n + m) (bv (ys ++ xs)) ∧ w.grownBy w' v.ownBlock ∧ (v'.ownBlock = v.ownBlock ∨ v'.ownBlock = some w.heap.size) := by
  obtain ⟨i0, hi0, hz0, hz1, hz2⟩ := info_parts u8_info
  cases A with
  | none =>
    obtain rfl : xs = [] := by
      rcases hl with h1 | ⟨b, o, h1, _⟩
      · exact h1
      · cases h1
    simp at hm
    subst hm
    exact ⟨v, w, run_app_none base n c ty v ys w hown, by simpa using hown, World.grownBy.refl _ _, .inl rfl⟩
  | some ad =>
    obtain ⟨v', w', h1, h2, h3, _, h5⟩ := run_append_own_at (P := Tryz.prog) w base 29 ty 5 i0 _ 1 1 Tryz.underlying29 hi0 hz0 hz1 hz2 rfl (by omega) v n (bv ys) hown ad m c (bv xs) (by rw [bv_len]; omega) hl.news (bv_one _) (by simp only [maxLen]; omega) (by omega) hbase
    exact ⟨v', w', h1, by rw [bv_append]; exact h2, h3, h5⟩
theorem wp_app {o : Oper} {a : Act} {w : World} {K : Act → World → Prop} {Q : Exit → Act → World → Prop} (s x : Operand)
    (ho : o.op = .call { callee := .builtin .append, args := #[s, x], argTypes := #[29, 29] })
    (base n m c : Nat) (v : Value) (ys xs : List Int) (A : Option Addr) (hs : a.eval s = v) (hown : w.ownsRow base 5 1 v n (bv ys)) (hx : a.eval x = .slice A m c) (hl : Lies w A xs) (hm : xs.length = m) (h63 : n + m ≤ 1000000) (hbase : base ≤ w.heap.size)
    (h : ∀ v' w', w'.ownsRow base 5 1 v' (n + m) (bv (ys ++ xs)) → w.grownBy w' v.ownBlock → (v'.ownBlock = v.ownBlock ∨ v'.ownBlock = some w.heap.size) → K (a.put o.dst v') w') : o.wp Tryz.prog a w K Q := by
  obtain ⟨v', w', hr, h2, h3, h4⟩ := run_app base n m c o.type v ys xs A w hown hl hm h63 hbase
  unfold Oper.wp execOp
  simp only [ho, resolve, invoke, builtin, Sem.run_bind, Sem.run_pure, Result.andThen_ok, List.map_toArray, List.map_cons, List.map_nil, hs, hx, hr]
  exact h v' w' h2 h3 h4
theorem step_app {ops : Array Oper} {o : Oper} {a : Act} {w : World} {K : Act → World → Prop} {Q : Exit → Act → World → Prop} {E : Prop} (hgd : o.guard = none) (s x : Operand)
    (ho : o.op = .call { callee := .builtin .append, args := #[s, x], argTypes := #[29, 29] })
    (base n m c : Nat) (v : Value) (ys xs : List Int) (A : Option Addr) (hs : a.eval s = v) (hown : w.ownsRow base 5 1 v n (bv ys)) (hx : a.eval x = .slice A m c) (hl : Lies w A xs) (hm : xs.length = m) (h63 : n + m ≤ 1000000) (hbase : base ≤ w.heap.size)
    (h : ∀ v' w', w'.ownsRow base 5 1 v' (n + m) (bv (ys ++ xs)) → w.grownBy w' v.ownBlock → (v'.ownBlock = v.ownBlock ∨ v'.ownBlock = some w.heap.size) → K (a.put o.dst v') w') :
    if Region.wanted o (yielded ops a.tmps) = true then Oper.wp Tryz.prog o a w K Q else E := by
  have hw : Region.wanted o (yielded ops a.tmps) = true := by simp [Region.wanted, hgd]
  rw [if_pos hw]
  exact wp_app s x ho base n m c v ys xs A hs hown hx hl hm h63 hbase h
theorem wpList_app {ops : Array Oper} {rest : List Oper} {o : Oper} {a : Act} {w : World} {Q : Exit → Act → World → Prop} (hgd : o.guard = none) (s x : Operand)
    (ho : o.op = .call { callee := .builtin .append, args := #[s, x], argTypes := #[29, 29] })
    (base n m c : Nat) (v : Value) (ys xs : List Int) (A : Option Addr) (hs : a.eval s = v) (hown : w.ownsRow base 5 1 v n (bv ys)) (hx : a.eval x = .slice A m c) (hl : Lies w A xs) (hm : xs.length = m) (h63 : n + m ≤ 1000000) (hbase : base ≤ w.heap.size)
    (h : ∀ v' w', w'.ownsRow base 5 1 v' (n + m) (bv (ys ++ xs)) → w.grownBy w' v.ownBlock → (v'.ownBlock = v.ownBlock ∨ v'.ownBlock = some w.heap.size) → wpList Tryz.prog ops Q rest (a.put o.dst v') w') :
    wpList Tryz.prog ops Q (o :: rest) a w :=
  wpList_plain hgd fun _ hK => wp_app s x ho base n m c v ys xs A hs hown hx hl hm h63 hbase fun v' w' h2 h3 h4 => hK _ _ (h v' w' h2 h3 h4)
/-- An empty row of one's own. -/
theorem own_empty (w : World) (base : Nat) (hb : base ≤ w.heap.size) : (w.alloc (.cells #[] 5)).ownsRow base 5 1 (.slice (some ⟨w.heap.size, 0, none⟩) 0 0) 0 (bv []) :=
  ⟨rfl, .inr ⟨w.heap.size, 0, #[], rfl, hb, heap_alloc_new w _, Nat.le_refl _, by simp [maxLen], rfl, rfl⟩⟩
theorem lies_take {w : World} {A : Option Addr} {xs : List Int} (h : Lies w A xs) (j : Nat) : Lies w A (xs.take j) := by
  rcases h with rfl | ⟨b, o, rfl, hb, hc⟩
  · exact .inl (by simp)
  · refine .inr ⟨b, o, rfl, hb, fun i hi => ?_⟩
    simp only [List.length_take] at hi
    rw [hc i (by omega)]
    congr 2
    simp only [List.getD_eq_getElem?_getD]
    rw [List.getElem?_take_of_lt (by omega)]
theorem own_set {w : World} {base g n c j : Nat} {zs : List Int} (h : w.ownsRow base 5 1 (.slice (some ⟨g, 0, none⟩) n c) n (bv zs)) (y : Int) :
    (w.setCell ⟨g, j, none⟩ (.int .u8 y)).ownsRow base 5 1 (.slice (some ⟨g, 0, none⟩) n c) n (bv (zs.set j y)) := by
  obtain ⟨hl, h⟩ := h
  rcases h with ⟨h, _⟩ | ⟨g', cap, cur, hv, hb, hh, h1, h2, h3, h4⟩
  · cases h
  · injection hv with hv _ hc
    injection hv with hv
    injection hv with hv
    subst hv
    subst hc
    refine ⟨by simpa [bv] using hl, .inr ⟨g, c, cur.setIfInBounds j (.int .u8 y), rfl, hb, (show Blk w g 5 cur from hh).setCell j _, h1, h2, by simpa using h3, ?_⟩⟩
    rw [Nat.mul_one] at h4 ⊢
    rw [Array.toList_setIfInBounds, List.take_set, h4]
    simp [bv, List.map_set]
theorem own_cell {w : World} {base n c j : Nat} {A : Option Addr} {zs : List Int} (h : w.ownsRow base 5 1 (.slice A n c) n (bv zs)) (hj : j < n) :
    ∃ g, A = some ⟨g, 0, none⟩ ∧ w.cell? ⟨g, j, none⟩ = some (.int .u8 (zs.getD j 0)) ∧ w.frozen? ⟨g, j, none⟩ = false ∧ base ≤ g ∧ g < w.heap.size := by
  have hl := h.1
  rw [bv_len, Nat.mul_one] at hl
  rcases h.2 with ⟨h, hn⟩ | ⟨g, cap, cur, hv, hb', hh, _⟩
  · omega
  · injection hv with hv _ _
    subst hv
    have hlt := (show Blk w g 5 cur from hh).lt
    have hc := h.cells (g := g) rfl j _ (bv_at (by omega))
    rw [add_none, Nat.zero_add] at hc
    exact ⟨g, rfl, hc, (show Blk w g 5 cur from hh).frozen j, hb', hlt⟩
end Go.Proofs.YtgaofnmgdefdcaaGreatDoor.Ap

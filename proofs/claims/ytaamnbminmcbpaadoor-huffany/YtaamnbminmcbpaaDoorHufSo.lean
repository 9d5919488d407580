/- The sizes of weights, the lightest first. -/
import Derived.Test.YtaamnbminmcbpaaDoorHufMg
namespace Go.Proofs.YtaamnbminmcbpaaDoor.So
open Go.RowKit Go.Proofs.YtaamnbminmcbpaaDoor.Gen Go.Proofs.YtaamnbminmcbpaaDoor.Hp Go.Proofs.YtaamnbminmcbpaaDoor.Hr Go.Proofs.YtaamnbminmcbpaaDoor.Hm Go.Proofs.YtaamnbminmcbpaaDoor.Hg

/-- A slice that fills its block. -/
theorem own_full {w : World} {base g n sz : Nat} {e : TypeId} {xs : List Value} (h : w.ownsRow base e sz (.slice (some ⟨g, 0, none⟩) n n) n xs) : Blk w g e xs.toArray ∧ base ≤ g := by
  rcases h.2 with ⟨h, _⟩ | ⟨g', cap, cur, hv, hb, hh, h1, h2, h3, h4⟩
  · cases h
  · injection hv with hv _ hc
    injection hv with hv
    injection hv with hv
    subst hv
    subst hc
    refine ⟨?_, hb⟩
    rw [List.take_of_length_le (by rw [Array.length_toList, h3]; exact Nat.le_refl _)] at h4
    unfold Blk
    rw [← h4, Array.toArray_toList]
    exact hh
theorem own_of_blk {w : World} {base g n sz : Nat} {e : TypeId} {xs : List Value} (h : Blk w g e xs.toArray) (hb : base ≤ g) (hn : n ≤ maxLen) (hl : xs.length = n * sz) : w.ownsRow base e sz (.slice (some ⟨g, 0, none⟩) n n) n xs :=
  ⟨hl, .inr ⟨g, n, xs.toArray, rfl, hb, h, Nat.le_refl _, hn, by simpa using hl, by simp [← hl]⟩⟩
theorem int_info : (Tryd.prog.info? 3).map (fun i => (i.zero, i.size, i.bytes)) = some (some (.int .i64 0), 1, 8) := by kernel_rfl
theorem made_one (n : Nat) (z : Value) (hz : z.cells = #[z]) : (madeCells z.cells n).toList = List.replicate n z := by
  refine List.ext_getElem (by simp [madeCells]) fun i h1 h2 => ?_
  simp [madeCells, hz, Nat.mod_one]
theorem sit_info : (Tryd.prog.info? 81).map (fun i => (i.zero, i.size, i.bytes)) = some (some (.slice none 0 0), 1, 24) := by kernel_rfl
theorem made_nums (n : Nat) : (madeCells (Value.int .i64 0).cells (n * 1)).toList = nv (List.replicate n 0) := by
  rw [Nat.mul_one]
  simp only [nv, List.map_replicate]
  exact made_one n _ rfl
theorem nv_set (l : List Nat) (j x : Nat) : (nv l).toArray.setIfInBounds j (.int .i64 (x : Int)) = (nv (l.set j x)).toArray := by
  simp [nv, List.map_set]

/-- Pairs that go into the i-th row. -/
def pr (ws : List Nat) : Nat → List Nat
  | 0 => []
  | i + 1 => paired (rowOf ws i)
theorem rowOf_pr (ws : List Nat) : ∀ i, rowOf ws i = merged ws (pr ws i)
  | 0 => rfl
  | _ + 1 => rfl
theorem row_bound {ws : List Nat} {M : Nat} (h : ∀ x ∈ ws, x ≤ M) : ∀ (i : Nat) (x : It), x ∈ rowOf ws i → x.1 ≤ M * 2 ^ i
  | 0, x, hx => by
    rcases mem_merged ws [] x hx with h1 | h1
    · simpa using h _ h1
    · cases h1
  | i + 1, x, hx => by
    rcases mem_merged ws _ x hx with h1 | h1
    · have h2 := h _ h1
      have h3 : 1 ≤ 2 ^ (i + 1) := Nat.one_le_two_pow
      have := Nat.mul_le_mul_left M h3
      omega
    · obtain ⟨a, b, ha, hb, e⟩ := paired_mem _ _ h1
      have h2 := row_bound h i a ha
      have h3 := row_bound h i b hb
      rw [Nat.pow_succ, ← Nat.mul_assoc]
      omega
theorem row_len_le (ws : List Nat) : ∀ i, (rowOf ws i).length ≤ 2 * ws.length
  | 0 => by rw [rowOf_len0]; omega
  | i + 1 => by have := row_len_le ws i; rw [rowOf_len]; omega

/-- The first i rows lie, one by one, in block g's cells. -/
structure Rst (w wr : World) (ws : List Nat) (g i : Nat) (rows : List Value) : Prop where
  blk : Blk wr g 81 (rows ++ List.replicate (20 - i) (Value.slice none 0 0)).toArray
  len : rows.length = i
  row : ∀ j, j < i → ∃ A c n, n = (rowOf ws j).length ∧ rows[j]? = some (.slice A n c) ∧ n ≤ c ∧ RowAt wr A (ics (rowOf ws j)) ∧ ∀ b o, A = some ⟨b, o, none⟩ → g < b ∧ b < wr.heap.size
  keeps : Keeps (fun _ => False) w wr
theorem Rst.next {w wr w1 : World} {ws : List Nat} {g i : Nat} {rows : List Value} (h : Rst w wr ws g i rows) (k : Keeps (fun _ => False) wr w1) : Rst w w1 ws g i rows :=
  ⟨h.blk.keeps k id, h.len, fun j hj => by
    obtain ⟨A, c, n, h1, h2, h3, h4, h5⟩ := h.row j hj
    exact ⟨A, c, n, h1, h2, h3, h4.keeps k (fun _ _ _ => id), fun b o e => ⟨(h5 b o e).1, Nat.lt_of_lt_of_le (h5 b o e).2 k.size⟩⟩, h.keeps.trans k⟩
theorem keeps_far {w wr w1 : World} {gs : Nat} (h : Keeps (fun _ => False) w wr) (k : Keeps (· = gs) wr w1) (hw : w.heap.size ≤ gs) : Keeps (fun _ => False) w w1 :=
  ⟨k.os.trans h.os, k.tape.trans h.tape, k.output.trans h.output, Nat.le_trans h.size k.size, fun x hx hn => (k.block x (Nat.lt_of_lt_of_le hx h.size) (by omega)).trans (h.block x hx hn)⟩
/-- All rows lie below block m. -/
def Low (rows : List Value) (m : Nat) : Prop := ∀ (j : Nat) (A : Option Addr) (n c b o : Nat), rows[j]? = some (Value.slice A n c) → A = some (⟨b, o, none⟩ : Addr) → b < m
theorem Rst.low {w wr : World} {ws : List Nat} {g i : Nat} {rows : List Value} (h : Rst w wr ws g i rows) : Low rows wr.heap.size := by
  intro j A n c b o h1 h2
  have hj := (List.getElem?_eq_some_iff.1 h1).1
  rw [h.len] at hj
  obtain ⟨A', c', n', _, h4, _, _, h5⟩ := h.row j hj
  rw [h1] at h4
  injection h4 with h4
  injection h4 with h4
  exact (h5 b o (h4 ▸ h2)).2
theorem Rst.far {w wr w1 : World} {ws : List Nat} {g gs i : Nat} {rows : List Value} (h : Rst w wr ws g i rows) (k : Keeps (· = gs) wr w1) (hg : g < gs) (hl : Low rows gs) (hw : w.heap.size ≤ gs) : Rst w w1 ws g i rows :=
  ⟨h.blk.keeps k (by omega), h.len, fun j hj => by
    obtain ⟨A, c, n, h1, h2, h3, h4, h5⟩ := h.row j hj
    exact ⟨A, c, n, h1, h2, h3, h4.keeps k (fun b o e => by have := hl j A n c b o h2 e; omega), fun b o e => ⟨(h5 b o e).1, Nat.lt_of_lt_of_le (h5 b o e).2 k.size⟩⟩,
   keeps_far h.keeps k hw⟩
theorem Rst.store {w wr : World} {ws : List Nat} {g i : Nat} {rows : List Value} (h : Rst w wr ws g i rows) (hi : i < 20) (hg : w.heap.size ≤ g) {A : Option Addr} {n c : Nat} (hn : n = (rowOf ws i).length) (hc : n ≤ c) (hr : RowAt wr A (ics (rowOf ws i))) (hb : ∀ b o, A = some ⟨b, o, none⟩ → g < b ∧ b < wr.heap.size) :
    Rst w (wr.setCell ⟨g, i, none⟩ (.slice A n c)) ws g (i + 1) (rows ++ [Value.slice A n c]) := by
  have hs : Keeps (· = g) wr (wr.setCell ⟨g, i, none⟩ (.slice A n c)) := (Keeps.refl _ _).setOwn i _
  refine ⟨?_, by simp [h.len], fun j hj => ?_, ?_⟩
  · have h1 := h.blk.setCell i (.slice A n c)
    have e : (rows ++ List.replicate (20 - i) (Value.slice none 0 0)).toArray.setIfInBounds i (Value.slice A n c) = (rows ++ [Value.slice A n c] ++ List.replicate (20 - (i + 1)) (Value.slice none 0 0)).toArray := by
      rw [List.setIfInBounds_toArray]
      congr 1
      rw [show 20 - i = (20 - (i + 1)) + 1 by omega, List.replicate_succ, List.set_append_right _ _ (by rw [h.len]; exact Nat.le_refl _), h.len]
      simp
    rw [e] at h1
    exact h1
  · rcases Nat.lt_or_ge j i with hlt | hge
    · obtain ⟨A', c', n', h1, h2, h3, h4, h5⟩ := h.row j hlt
      refine ⟨A', c', n', h1, ?_, h3, h4.keeps hs (fun b o e => by have := h5 b o e; omega), fun b o e => ⟨(h5 b o e).1, by simp only [World.setCell, Array.size_modify]; exact (h5 b o e).2⟩⟩
      rw [List.getElem?_append_left (by rw [h.len]; exact hlt), h2]
    · obtain rfl : j = i := by omega
      refine ⟨A, c, n, hn, ?_, hc, hr.keeps hs (fun b o e => by have := hb b o e; omega), fun b o e => ⟨(hb b o e).1, by simp only [World.setCell, Array.size_modify]; exact (hb b o e).2⟩⟩
      rw [List.getElem?_append_right (by rw [h.len]; exact Nat.le_refl _), h.len]
      simp
  · exact h.keeps.setCell (p := ⟨g, i, none⟩) (.inr hg) _

theorem szOf_snoc (l : List Nat) (a j : Nat) : szOf (l ++ [a]) j = szOf l j + if j < a then 1 else 0 := by
  simp [szOf, List.countP_append, List.countP_cons]
/-- Sizes, while those below e have one bit more. -/
def more (n : Nat) (l : List Nat) (e : Nat) : List Nat := (List.range n).map fun j => szOf l j + if j < e then 1 else 0
theorem more_len (n : Nat) (l : List Nat) (e : Nat) : (more n l e).length = n := by simp [more]
theorem more_zero (n : Nat) (l : List Nat) : more n l 0 = (List.range n).map (szOf l) := by simp [more]
theorem more_nil (n : Nat) : more n [] 0 = List.replicate n 0 := by
  rw [more_zero]
  have : szOf [] = fun _ => 0 := by funext j; rfl
  rw [this]
  simp [List.map_const']
theorem more_all (n : Nat) (l : List Nat) (a : Nat) : more n l a = more n (l ++ [a]) 0 := by
  rw [more_zero]
  simp only [more]
  congr 1
  funext j
  rw [szOf_snoc]
theorem more_get {n : Nat} (l : List Nat) {e : Nat} (h : e < n) : (more n l e).getD e 0 = szOf l e := by
  simp [more, List.getD_eq_getElem?_getD, h]
theorem more_set {n : Nat} (l : List Nat) {e : Nat} (h : e < n) : (more n l e).set e (szOf l e + 1) = more n l (e + 1) := by
  refine List.ext_getElem (by simp [more]) fun i h1 h2 => ?_
  have hi : i < n := by simp [more] at h2; exact h2
  simp only [more, List.getElem_set, List.getElem_map, List.getElem_range]
  by_cases he : e = i
  · subst he
    simp
  · rw [if_neg he]
    congr 1
    by_cases h3 : i < e
    · simp [h3, show i < e + 1 by omega]
    · simp [h3, show ¬ i < e + 1 by omega]

theorem run_cut_to {P : Program} (t e : TypeId) (sz : Nat) (A : Option Addr) (n c k : Nat) (ht : P.underlying t = some (.slice e)) (he : ∀ w, (sizeOf e).run P w = .ok sz w) (hk : k ≤ c) (w : World) :
    (Instr.slice t (.slice A n c) none (some (.int .i64 (k : Int))) none).run P w = .ok (.slice A k c) w := by
  have hel : P.elem t = e := by simp [Program.elem, ht]
  rw [run_slice_h (P := P) w t A n c (by rw [hel]; exact ht) .i64 k (by omega) (by omega), hel, he]
  simp only [Result.andThen, sliced, Int.toNat_natCast]
  cases A with
  | none => simp
  | some a => obtain ⟨b, o, sp⟩ := a; simp [Addr.add]
/-- What is taken, row by row; sizes so far. -/
structure Sst (w wr : World) (ws : List Nat) (g gs n r t : Nat) (done : List Nat) : Prop where
  rows : ∃ rows, Rst w wr ws g 20 rows ∧ Low rows gs
  szs : Blk wr gs 3 (nv (more n done 0)).toArray
  tl : 0 < r → t ≤ (rowOf ws (r - 1)).length
  al : alones ws 19 (2 * n - 2) = done ++ (if r = 0 then [] else alones ws (r - 1) t)
theorem Sst.few {w wr : World} {ws : List Nat} {g gs n r t : Nat} {done : List Nat} (h : Sst w wr ws g gs n r t done) : done.length ≤ 20 := by
  have h1 := congrArg List.length h.al
  rw [alones_length, List.length_append] at h1
  omega
theorem Sst.step {w wr : World} {ws : List Nat} {g gs n r t : Nat} {done : List Nat} (hw : ws.Pairwise (· ≤ ·)) (h : Sst w wr ws g gs n (r + 1) t done) {w1 : World} (hr : ∃ rows, Rst w w1 ws g 20 rows ∧ Low rows gs) {a : Nat} (ha : a = sg ((rowOf ws r).take t)) (hs : Blk w1 gs 3 (nv (more n done a)).toArray) :
    Sst w w1 ws g gs n r (2 * (t - a)) (done ++ [a]) := by
  have htl := h.tl (by omega)
  have hal := h.al
  simp only [Nat.add_sub_cancel] at htl hal
  rw [if_neg (by omega)] at hal
  refine ⟨hr, by rw [← more_all]; exact hs, fun h0 => ?_, ?_⟩
  · obtain ⟨r, rfl⟩ : ∃ k, r = k + 1 := ⟨r - 1, by omega⟩
    rw [ha]
    exact below_le ws hw r t htl
  · rw [hal]
    cases r with
    | zero => simp [alones, ha]
    | succ r => simp [alones, ha]

set_option maxHeartbeats 1600000 in
set_option maxRecDepth 4000 in
theorem sizesOf_ (A : Option Addr) (c n : Nat) (ws : List Nat) (w : World) (hws : ws.length = n) (hA : RowAt w A (nv ws)) (h0 : 0 < n) (hn : n ≤ 256) (hs : ws.Pairwise (· ≤ ·)) (hb : ∀ x ∈ ws, x ≤ 2 ^ 31) :
    Calls Tryd.prog 28 #[.slice A n c] w fun r w' => ∃ g, r = .returned (.slice (some ⟨g, 0, none⟩) n n) ∧ Blk w' g 3 (nv (sizes ws)).toArray ∧ w.heap.size ≤ g ∧ Keeps (fun _ => False) w w' := by
  have HW := Lib.hid hws
  have HA := Lib.hid hA
  have HS := Lib.hid hs
  have HB := Lib.hid hb
  clear hws hA hs hb
  obtain ⟨i0, hi0, hz0, hz1, hz2⟩ := info_parts int_info
  go_enter Tryd.func28, Tryd.ntmps28
  obtain ⟨j0, hj0, hy0, hy1, hy2⟩ := info_parts sit_info
  go_wp2_with (
    at_make
    refine wpList_make_full _ rfl _ _ _ rfl w.heap.size 81 j0 _ 1 Tryd.underlying80 hj0 hy0 hy1 .i64 .i64 _ _ 20 rfl rfl (by omega) (by omega) (by rw [hy2]; omega) (by simp only [maxLen]; omega) (Nat.le_refl _) ?_
    intro w1 hown hg
    rw [made_one _ _ rfl] at hown
    have HR := Lib.hid (own_full hown).1
    have HK := Lib.hid (Keeps.grown (Keeps.refl (fun _ => False) w) hg (fun _ h => by cases h))
    clear hown hg)
  go_loopw [4, 14] (fun pv i wr => ∃ (d : Nat) (rows : List Value) (P : Option Addr) (m cp : Nat), d ≤ 20 ∧ pv = .slice P m cp ∧ i = .int .i64 (d : Int) ∧ Rst w wr ws w.heap.size d rows ∧ RowAt wr P (ics (pit (pr ws d))) ∧ (pr ws d).length = m ∧ m ≤ cp ∧ (P = none → cp = 0)) (fun _ i _ => 20 - (intOf i).toNat)
  case atStart => exact ⟨0, [], none, 0, 0, by omega, rfl, rfl, ⟨by simpa using HR.out, rfl, fun j hj => by omega, HK.out⟩, .inl rfl, rfl, Nat.le_refl _, fun _ => rfl⟩
  case round =>
    clear HR HK
    obtain ⟨d, rows, P, m, cp, hd, rfl, rfl, hst, hrp, hpl, hmc, hpn⟩ := hrel
    have HT := Lib.hid hst
    have HP := Lib.hid hrp
    have HPL := Lib.hid hpl
    have HPN := Lib.hid hpn
    have hm1 : m ≤ 1000 := by
      have h1 := row_len_le ws d
      rw [rowOf_pr, merged_length, hpl, HW.out] at h1
      omega
    clear hst hrp hpl hpn
    by_cases hlt : d < 20
    · have hc0 : wr.cell? ⟨w.heap.size, d, none⟩ = some (.slice none 0 0) := by
        rw [HT.out.blk.cell d]
        rw [List.getElem?_toArray, List.getElem?_append_right (by rw [HT.out.len]; exact Nat.le_refl _), HT.out.len, List.getElem?_replicate]
        simp
        omega
      have hdi : (d : Int) < 20 := by omega
      have hd0 : (0 : Int) ≤ (d : Int) := by omega
      clear hlt hc0
      go_wp2_with fail
      refine (merged_ A c n ws P cp m (pr ws d) wr HW.out (HA.out.keeps HT.out.keeps (fun _ _ _ => id)) HPL.out HP.out hmc HPN.out (by omega) hm1).mono ?_
      rintro e w1 ⟨A2, c2, rfl, hown, hk1⟩
      rw [← rowOf_pr] at hown
      have HT1 := Lib.hid (HT.out.next hk1)
      have HL : Hid (n + m = (rowOf ws d).length) := by
        show n + m = (rowOf ws d).length
        rw [rowOf_pr, merged_length, HPL.out, HW.out]
      have hL2 := row_len_le ws d
      rw [← HL.out, HW.out] at hL2
      generalize n + m = L at *
      have HO := Lib.hid hown
      have hc0 : w1.cell? ⟨w.heap.size, d, none⟩ = some (.slice none 0 0) := by
        rw [HT1.out.blk.cell d]
        rw [List.getElem?_toArray, List.getElem?_append_right (by rw [HT.out.len]; exact Nat.le_refl _), HT.out.len, List.getElem?_replicate]
        simp
        omega
      have hf0 := HT1.out.blk.frozen d
      have hLc : L ≤ c2 := by
        obtain ⟨_, _, he, h⟩ := own_form hown
        injection he with _ _ he
        omega
      have hgb : ∀ b o, A2 = some ⟨b, o, none⟩ → w.heap.size < b ∧ b < w1.heap.size := by
        rintro b o rfl
        have h1 := hown.lt b rfl
        have h2 := HT.out.blk.lt
        omega
      have HT2 := Lib.hid (HT1.out.store (by omega) (Nat.le_refl _) HL.out hLc (RowAt.of_own hown) hgb)
      have HR2 := Lib.hid ((RowAt.of_own hown).keeps (S := (· = w.heap.size)) ((Keeps.refl _ _).setOwn d (.slice A2 L c2)) (fun b o e => by have := hgb b o e; omega))
      clear hown hgb hk1 HT HT1 HP HPL HPN
      go_wp2_with fail
      generalize w1.setCell ⟨w.heap.size, d, none⟩ (.slice A2 L c2) = w2 at *
      refine (paired_ A2 c2 L (rowOf ws d) w2 HL.out.symm HR2.out (by omega) ?_).mono ?_
      · intro x hx
        have h1 := row_bound HB.out d x hx
        have h2 : 2 ^ d ≤ 2 ^ 20 := Nat.pow_le_pow_right (by omega) (by omega)
        have := Nat.mul_le_mul_left (2 ^ 31) h2
        omega
      rintro e w3 ⟨A3, c3, rfl, hown, hk3⟩
      have HT3 := Lib.hid (HT2.out.next hk3)
      have HO3 := Lib.hid hown
      have hL3 : L / 2 ≤ c3 := by
        obtain ⟨_, _, he, h⟩ := own_form hown
        injection he with _ _ he
        omega
      have hn3 : A3 = none → c3 = 0 := by
        rintro rfl
        rcases hown.2 with ⟨h, _⟩ | ⟨_, _, _, h, _⟩
        · injection h
        · cases h
      have HN3 := Lib.hid hn3
      clear hown hk3 HR2 HT2 hn3
      go_wp2
      refine ⟨⟨d + 1, _, A3, L / 2, c3, by omega, rfl, by go_num, HT3.out, RowAt.of_own HO3.out, by show (paired (rowOf ws d)).length = _; rw [paired_length, HL.out], hL3, HN3.out⟩, by simp [intOf]; omega⟩
    · obtain rfl : d = 20 := by omega
      clear HP HPL HPN hmc hm1 hlt
      go_wp2_with (
        at_make
        refine wpList_make_full _ rfl _ _ _ rfl w.heap.size 3 i0 _ 1 Tryd.underlying69 hi0 hz0 hz1 .i64 .i64 _ _ n rfl rfl (by omega) (by omega) (by rw [hz2]; omega) (by simp only [maxLen]; omega) HT.out.keeps.size ?_
        intro w1 hown hg
        rw [made_nums] at hown
        have HLW := Lib.hid HT.out.low
        have HT1 := Lib.hid (HT.out.next (Keeps.grown (Keeps.refl (fun _ => False) wr) hg (fun _ h => by cases h)))
        have HB1 := Lib.hid (own_full hown).1
        have HG1 := Lib.hid HT.out.blk.lt
        clear hown hg HT)
      have HA1 : Hid (Sst w w1 ws w.heap.size wr.heap.size n 20 (2 * n - 2) []) := by
        refine ⟨⟨_, HT1.out, HLW.out⟩, by rw [more_nil]; exact HB1.out, fun _ => ?_, ?_⟩
        · rw [← HW.out]; exact fits ws (by have := HW.out; omega) (by have := HW.out; omega)
        · simp
      clear HT1 HB1 HLW
      generalize wr.heap.size = gs at *
      go_loopw [7, 8] (fun tk i wx => ∃ (r t : Nat) (I : Int) (done : List Nat), r ≤ 20 ∧ I + 1 = (r : Int) ∧ tk = .int .i64 (t : Int) ∧ i = .int .i64 I ∧ Sst w wx ws w.heap.size gs n r t done) (fun _ i _ => (intOf i + 1).toNat)
      case atStart => exact ⟨20, 2 * n - 2, 19, [], by omega, by omega, by congr 1; omega, rfl, HA1.out⟩
      case round =>
        clear HA1
        obtain ⟨r, t, I, done, hr, hI, rfl, rfl, hst⟩ := hrel
        have HT := Lib.hid hst
        clear hst
        cases r with
        | zero =>
          obtain rfl : I = -1 := by omega
          go_wp2
          go_ret
          obtain ⟨rows, hrs, hlow⟩ := HT.out.rows
          refine ⟨gs, rfl, ?_, by have := HG1.out; omega, hrs.keeps⟩
          have h1 := HT.out.szs
          have h2 := HT.out.al
          rw [if_pos rfl, List.append_nil] at h2
          rw [more_zero, ← h2] at h1
          rw [sizes, HW.out]
          exact h1
        | succ r =>
          obtain rfl : I = (r : Int) := by omega
          obtain ⟨rows, hrs, hlow⟩ := HT.out.rows
          obtain ⟨A4, c4, L, hL, hrow, hLc, hrat, hgb⟩ := hrs.row r (by omega)
          have hcell : wr.cell? ⟨w.heap.size, r, none⟩ = some (.slice A4 L c4) := by
            rw [hrs.blk.cell r, List.getElem?_toArray, List.getElem?_append_left (by rw [hrs.len]; omega), hrow]
          have htl := HT.out.tl (by omega)
          rw [Nat.add_sub_cancel, ← hL] at htl
          have hL2 := row_len_le ws r
          rw [← hL, HW.out] at hL2
          have hcut := fun w => run_cut_to (P := Tryd.prog) 81 91 2 A4 L c4 t Tryd.underlying81 size_it (by omega) w
          have HRS := Lib.hid hrs
          have HRA := Lib.hid (hrat.take (2 * t))
          rw [← ics_take] at HRA
          have HRL : Hid (((rowOf ws r).take t).length = t) := by
            show ((rowOf ws r).take t).length = t
            rw [List.length_take]
            omega
          have hb0 : (0 : Int) ≤ (r : Int) := by omega
          have hb1 : (r : Int) < 20 := by omega
          have HLW := Lib.hid hlow
          clear hrs hrow hrat hgb hL hlow
          go_wp2_with fail
          refine (countSingles_ A4 c4 t _ wr HRL.out HRA.out (by omega)).mono ?_
          rintro e w3 ⟨rfl, hk3⟩
          have hsgt : sg ((rowOf ws r).take t) ≤ t := by have := sg_le ((rowOf ws r).take t); rw [HRL.out] at this; exact this
          have hsgn : sg ((rowOf ws r).take t) ≤ n := by
            have h := alones_le ws HS.out r t (by have := HT.out.tl (by omega); simpa using this) (sg ((rowOf ws r).take t)) (by cases r <;> simp [alones])
            rw [HW.out] at h
            exact h
          obtain ⟨a, ha⟩ : ∃ a, a = sg ((rowOf ws r).take t) := ⟨_, rfl⟩
          rw [← ha] at hsgt hsgn ⊢
          have HAA := Lib.hid ha
          have HZ := Lib.hid (HT.out.szs.keeps hk3 id)
          have HR3 := Lib.hid (HRS.out.next hk3)
          have HF := Lib.hid HT.out.few
          clear hk3 ha hcell hcut HRS HRA HRL
          go_wp2
          go_loopw [51] (fun j wx => ∃ e : Nat, e ≤ a ∧ j = .int .i64 (e : Int) ∧ Blk wx gs 3 (nv (more n done e)).toArray ∧ Keeps (· = gs) w3 wx) (fun j _ => a - (intOf j).toNat)
          case atStart => exact ⟨0, by omega, rfl, HZ.out, Keeps.refl _ _⟩
          case round =>
            obtain ⟨e, he, rfl, hz, hk⟩ := hrel
            have HZ2 := Lib.hid hz
            have HK2 := Lib.hid hk
            clear hz hk
            by_cases hle : e < a
            · have hc1 := HZ2.out.cell e
              have hv : (nv (more n done e)).toArray[e]? = some (.int .i64 ((szOf done e : Nat) : Int)) := by
                rw [List.getElem?_toArray, nv, List.getElem?_map]
                have h1 := more_get (n := n) done (e := e) (by omega)
                rw [List.getD_eq_getElem?_getD, List.getElem?_eq_getElem (by rw [more_len]; omega), Option.getD_some] at h1
                rw [List.getElem?_eq_getElem (by rw [more_len]; omega), h1]
                rfl
              rw [hv] at hc1
              have hf1 := HZ2.out.frozen e
              have hzl := szOf_le done e
              have hfw := HF.out
              obtain ⟨z, hz⟩ : ∃ z, z = szOf done e := ⟨_, rfl⟩
              rw [← hz] at hc1 hzl
              have hwz : IntKind.i64.wrap ((z : Int) + 1) = (z : Int) + 1 := by simp [IntKind.wrap, IntKind.bits, IntKind.signed]; omega
              have HSET : Hid (Blk (wr.setCell ⟨gs, e, none⟩ (.int .i64 ((z : Int) + 1))) gs 3 (nv (more n done (e + 1))).toArray) := by
                have h1 := HZ2.out.setCell e (.int .i64 ((z + 1 : Nat) : Int))
                rw [nv_set, hz, more_set done (by omega), ← hz] at h1
                exact h1
              have HKS := Lib.hid (HK2.out.setOwn e (.int .i64 ((z : Int) + 1)))
              have he0 : (0 : Int) ≤ (e : Int) := by omega
              have he1 : (e : Int) < (n : Int) := by omega
              clear hv hz hzl hfw
              go_wp2
              refine ⟨⟨e + 1, by omega, by go_num, HSET.out, HKS.out⟩, by simp [intOf]; omega⟩
            · obtain rfl : e = a := by omega
              have hwt : IntKind.i64.wrap ((t : Int) - (e : Int)) = ((t - e : Nat) : Int) := by simp [IntKind.wrap, IntKind.bits, IntKind.signed]; omega
              have hg1 := HG1.out
              have HEND := Lib.hid (HT.out.step HS.out ⟨_, HR3.out.far HK2.out hg1 HLW.out (by omega), HLW.out⟩ HAA.out HZ2.out)
              go_wp2
              exact ⟨⟨r, 2 * (t - e), (r : Int) - 1, done ++ [e], by omega, by omega, by go_num, rfl, HEND.out⟩, by simp [intOf]⟩
end Go.Proofs.YtaamnbminmcbpaaDoor.So

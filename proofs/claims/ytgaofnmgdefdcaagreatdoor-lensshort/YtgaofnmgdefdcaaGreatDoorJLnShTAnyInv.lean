/- Two Lenses beside each other, by the two ways of LensShort: one of a block cut short, one of a row cut short. The condition: strconv's table of tens reads as its text lays it. -/
/- A region that draws its order, by one fact that every operation keeps, whichever comes up next. No program, no conditions beyond those that each law names. -/
/- A region that draws its order, some of its operations taken ahead: one fact over the values of chosen slots that every operation keeps, whichever comes up next. No program, no conditions beyond those that each law names. -/
import Derived.Test.YtgaofnmgdefdcaaGreatDoorJAwake11LnShM
import Derived.OrdersHeld
import Derived.Deep.RegionHeld3

namespace Go.Proofs.YtgaofnmgdefdcaaGreatDoor.Le
open Go.RowKit Go.Proofs.YtgaofnmgdefdcaaGreatDoor.Gen Go.Proofs.YtgaofnmgdefdcaaGreatDoor.Hu Go.Proofs.YtgaofnmgdefdcaaGreatDoor.Mp Go.Proofs.YtgaofnmgdefdcaaGreatDoor.Cm Go.Proofs.YtgaofnmgdefdcaaGreatDoor.Hr Go.Proofs.YtgaofnmgdefdcaaGreatDoor.Hn Go.Proofs.YtgaofnmgdefdcaaGreatDoor.Hk Go.Proofs.YtgaofnmgdefdcaaGreatDoor.Ln Go.Proofs.YtgaofnmgdefdcaaGreatDoor.Ds Go.Proofs.YtgaofnmgdefdcaaGreatDoor.Ky Go.Proofs.YtgaofnmgdefdcaaGreatDoor.Wr Go.Proofs.YtgaofnmgdefdcaaGreatDoor.Ir Go.Proofs.YtgaofnmgdefdcaaGreatDoor.Ib Go.Proofs.YtgaofnmgdefdcaaGreatDoor.Br Go.Proofs.YtgaofnmgdefdcaaGreatDoor.Bp Go.Proofs.YtgaofnmgdefdcaaGreatDoor.Qh Go.Proofs.YtgaofnmgdefdcaaGreatDoor.Qs Go.Proofs.YtgaofnmgdefdcaaGreatDoor.Qf Go.Proofs.YtgaofnmgdefdcaaGreatDoor.Qc Go.Proofs.YtgaofnmgdefdcaaGreatDoor.It Go.Proofs.YtgaofnmgdefdcaaGreatDoor.Qi Go.Proofs.YtgaofnmgdefdcaaGreatDoor.Qu

/-- The whole row's bytes are the numbers that were put. -/
theorem row_us {u : Nat → Int} {n : Nat} {zs : List Int} (hu : ∀ i, 0 ≤ u i ∧ u i < 256) (h : IsPack (ofB (us u n)) (zs.map Int.toNat)) (hz : ∀ x ∈ zs, 0 ≤ x ∧ x < 256) : zs.length = n ∧ ∀ i, i < n → zs.getD i 0 = u i := by
  have h1 : IsPack (ofB (us u n)) (us u n) := pack_whole (fun x hx => by
    unfold us at hx
    obtain ⟨i, _, rfl⟩ := List.mem_map.1 hx
    have := hu i
    omega)
  have h2 := pack_one h h1
  have hl : zs.length = n := by
    have := congrArg List.length h2
    rw [us_len] at this
    simpa using this
  refine ⟨hl, fun i hi => ?_⟩
  have h3 := congrArg (fun l => l[i]?) h2
  have h4 : i < zs.length := by omega
  simp only [List.getElem?_map, us, List.getElem?_range hi, Option.map_some, List.getElem?_eq_getElem h4] at h3
  injection h3 with h3
  have h5 := hz zs[i] (List.getElem_mem _)
  have h6 := hu i
  rw [List.getD_eq_getElem?_getD, List.getElem?_eq_getElem h4]
  simp only [Option.getD_some]
  omega
structure Two (w1 : World) (gx gy bd bf : Nat) (v : Nat → Int) (zs : List Int) (N K jx jy jr : Nat) (ex ey : Int) (w : World) : Prop where
  ex : ∃ Bx By Fx Fy sx sy Gx Gy Nx Ny, Lz Bx gx Fx sx Gx Nx ex w ∧ Lz By gy Fy sy Gy Ny ey w ∧ (∀ k, Fx k → ¬ Fy k) ∧ (¬ Fx bd ∧ ¬ Fx bf ∧ ¬ Fy bd ∧ ¬ Fy bf) ∧ (w1.heap.size ≤ Bx ∧ w1.heap.size ≤ By) ∧ (Nx ≤ jx ∧ Ny ≤ jy + jr) ∧
    (ex = 0 → Gx 5 = some ⟨(cat v N).take K, (cat v jx).length, 0⟩ ∧ (cat v jx).length ≤ K) ∧ (ex ≠ 0 → ex = 3) ∧
    (ey = 0 → Gy 5 = some ⟨cat v N, (cat v jy).length, 0⟩ ∧ sy = ⟨zs, 8 * jr, false⟩ ∧ jr ≤ zs.length) ∧ (ey ≠ 0 → ey = 3)
  d : Blk w bd 43 #[.int .u8 1, .int .i64 5, .slice none 0 0, .int .i64 0, .int .i64 0]
  f : Blk w bf 43 #[.int .u8 6, .int .i64 0, .slice none 0 0, .int .i64 0, .int .i64 8]
  keeps : Keeps (w1.heap.size ≤ ·) w1 w
theorem within_stays {d : D} {s s' : BS} {G G' : Rs} {er fr up n e : Int} (h : WithinR d s G er fr up n e s' G') (h0 : er ≠ 0) : e = er := by
  rcases h with ⟨_, _, h, _⟩ | ⟨h, _⟩
  · exact h
  · exact absurd h h0
section
variable {w1 w : World} {gx gy bd bf N K jx jy jr : Nat} {v : Nat → Int} {zs : List Int} {ex ey : Int}
theorem Two.tab (h : Two w1 gx gy bd bf v zs N K jx jy jr ex ey w) (ht : Tab w1.heap.size w1) : Tab w1.heap.size w := ht.keeps (Nat.le_refl _) h.keeps fun _ => id
theorem Two.err_x (h : Two w1 gx gy bd bf v zs N K jx jy jr ex ey w) : Calls Tryz.prog 26 #[.pointer (some ⟨gx, 0, none⟩)] w fun r w' => r = .returned (.int .i64 ex) ∧ w' = w := by
  obtain ⟨⟨Bx, By, Fx, Fy, sx, sy, Gx, Gy, Nx, Ny, h1, h2, _⟩, _⟩ := h
  exact err_ w h1
theorem Two.err_y (h : Two w1 gx gy bd bf v zs N K jx jy jr ex ey w) : Calls Tryz.prog 26 #[.pointer (some ⟨gy, 0, none⟩)] w fun r w' => r = .returned (.int .i64 ey) ∧ w' = w := by
  obtain ⟨⟨Bx, By, Fx, Fy, sx, sy, Gx, Gy, Nx, Ny, h1, h2, _⟩, _⟩ := h
  exact err_ w h2
set_option maxHeartbeats 4000000 in
theorem Two.x_d (h : Two w1 gx gy bd bf v zs N K jx jy jr ex ey w) (ht : Tab w1.heap.size w1) (hv : ∀ i, -2147483647 ≤ v i ∧ v i ≤ 2147483647) (hj : jx < N) (hN : N ≤ 100) (hK : K ≤ (cat v N).length) :
    Calls Tryz.prog 28 #[.pointer (some ⟨gx, 0, none⟩), .agg #[.int .u8 1, .int .i64 5, .slice none 0 0, .int .i64 0, .int .i64 0]] w fun r w' => ∃ n e', r = .returned (.int .i64 n) ∧ (e' = 0 → n = v jx) ∧ Two w1 gx gy bd bf v zs N K (jx + 1) jy jr e' ey w' := by
  have htw := h.tab ht
  obtain ⟨⟨Bx, By, Fx, Fy, sx, sy, Gx, Gy, Nx, Ny, h1, h2, h3, ⟨h4, h5, h6, h7⟩, ⟨h8, h9⟩, ⟨h10, h11⟩, h12, h13, h14, h15⟩, hd, hf, hk⟩ := h
  refine (Le.int_ none 0 0 ⟨1, 5, [], 0, 0⟩ w (Tab_rise htw h8) h1 (by omega) ⟨.inl rfl, rfl, by omega⟩ (by simp) (fun h => by omega)).mono ?_
  rintro r w' ⟨F', n', e', s', G', rfl, hz, hs, hr⟩
  have hnot : ∀ k, k < w.heap.size → ¬ Fx k → ¬ F' k := fun k hk hn hf => by
    rcases hs.sub k hf with h | h
    · exact hn h
    · omega
  have key : (e' = 0 → n' = v jx ∧ G' 5 = some ⟨(cat v N).take K, (cat v (jx + 1)).length, 0⟩ ∧ (cat v (jx + 1)).length ≤ K) ∧ (e' ≠ 0 → e' = 3) := by
    by_cases h0 : ex = 0
    · subst h0
      obtain ⟨hg, hl⟩ := h12 rfl
      rcases out_short hv hj hK hl hr hg with ⟨q1, q2, q3, q4, _⟩ | ⟨_, q2⟩
      · exact ⟨fun _ => ⟨q2, q4, q1⟩, fun h => absurd q3 h⟩
      · exact ⟨fun h => by rw [q2] at h; exact absurd h (by decide), fun _ => q2⟩
    · have e1 := within_stays hr h0
      have e2 := h13 h0
      rw [e1]
      exact ⟨fun h => absurd h h0, fun _ => e2⟩
  refine ⟨n', e', rfl, fun h => (key.1 h).1, ⟨⟨Bx, By, F', Fy, s', sy, G', Gy, Nx + 1, Ny, hz, h2.keeps hs.keeps fun k hk hx => h3 k hx hk, fun k hx hy => ?_, ⟨hnot bd hd.lt h4, hnot bf hf.lt h5, h6, h7⟩, ⟨h8, h9⟩, ⟨by omega, h11⟩, fun h => (key.1 h).2, key.2, h14, h15⟩,
    hd.keeps hs.keeps h4, hf.keeps hs.keeps h5, hk.trans (hs.keeps.mono fun k _ hx => Nat.le_trans h8 (h1.lt k hx).1)⟩⟩
  exact hnot k (h2.lt k hy).2 (fun hx' => h3 k hx' hy) hx
set_option maxHeartbeats 4000000 in
theorem Two.y_d (h : Two w1 gx gy bd bf v zs N K jx jy jr ex ey w) (ht : Tab w1.heap.size w1) (hv : ∀ i, -2147483647 ≤ v i ∧ v i ≤ 2147483647) (hj : jy < N) (hjr : jr ≤ 100) (hN : N ≤ 100) :
    Calls Tryz.prog 28 #[.pointer (some ⟨gy, 0, none⟩), .agg #[.int .u8 1, .int .i64 5, .slice none 0 0, .int .i64 0, .int .i64 0]] w fun r w' => ∃ n e', r = .returned (.int .i64 n) ∧ Two w1 gx gy bd bf v zs N K jx (jy + 1) jr ex e' w' := by
  have htw := h.tab ht
  obtain ⟨⟨Bx, By, Fx, Fy, sx, sy, Gx, Gy, Nx, Ny, h1, h2, h3, ⟨h4, h5, h6, h7⟩, ⟨h8, h9⟩, ⟨h10, h11⟩, h12, h13, h14, h15⟩, hd, hf, hk⟩ := h
  refine (Le.int_ none 0 0 ⟨1, 5, [], 0, 0⟩ w (Tab_rise htw h9) h2 (by omega) ⟨.inl rfl, rfl, by omega⟩ (by simp) (fun h => by omega)).mono ?_
  rintro r w' ⟨F', n', e', s', G', rfl, hz, hs, hr⟩
  have hnot : ∀ k, k < w.heap.size → ¬ Fy k → ¬ F' k := fun k hk hn hf => by
    rcases hs.sub k hf with h | h
    · exact hn h
    · omega
  have key : (e' = 0 → G' 5 = some ⟨cat v N, (cat v (jy + 1)).length, 0⟩ ∧ s' = ⟨zs, 8 * jr, false⟩ ∧ jr ≤ zs.length) ∧ (e' ≠ 0 → e' = 3) := by
    by_cases h0 : ey = 0
    · subst h0
      obtain ⟨hg, hsy, hl⟩ := h14 rfl
      have hw : (cat v N).take (cat v N).length = cat v N := List.take_of_length_le (Nat.le_refl _)
      rcases out_short hv hj (Nat.le_refl _) (cat_mono v (Nat.le_of_lt hj)) hr (by rw [hw]; exact hg) with ⟨_, _, q3, q4, q5⟩ | ⟨q1, _⟩
      · rw [hw] at q4
        exact ⟨fun _ => ⟨q4, q5.trans hsy, hl⟩, fun h => absurd q3 h⟩
      · have := cat_mono v (show jy + 1 ≤ N by omega)
        omega
    · have e1 := within_stays hr h0
      have e2 := h15 h0
      rw [e1]
      exact ⟨fun h => absurd h h0, fun _ => e2⟩
  refine ⟨n', e', rfl, ⟨⟨Bx, By, Fx, F', sx, s', Gx, G', Nx, Ny + 1, h1.keeps hs.keeps fun k hx hy => h3 k hx hy, hz, fun k hx hy => ?_, ⟨h4, h5, hnot bd hd.lt h6, hnot bf hf.lt h7⟩, ⟨h8, h9⟩, ⟨h10, by omega⟩, h12, h13, key.1, key.2⟩,
    hd.keeps hs.keeps h6, hf.keeps hs.keeps h7, hk.trans (hs.keeps.mono fun k _ hx => Nat.le_trans h9 (h2.lt k hx).1)⟩⟩
  exact hnot k (h1.lt k hx).2 (h3 k hx) hy
set_option maxHeartbeats 4000000 in
theorem Two.y_f (h : Two w1 gx gy bd bf v zs N K jx jy jr ex ey w) (ht : Tab w1.heap.size w1) (hb : ∀ x ∈ zs, 0 ≤ x ∧ x < 256) (hjr : jr ≤ 100) (hjy : jy ≤ 100) :
    Calls Tryz.prog 28 #[.pointer (some ⟨gy, 0, none⟩), .agg #[.int .u8 6, .int .i64 0, .slice none 0 0, .int .i64 0, .int .i64 8]] w fun r w' => ∃ n e', r = .returned (.int .i64 n) ∧ (e' = 0 → n = zs.getD jr 0 ∧ jr < zs.length) ∧ Two w1 gx gy bd bf v zs N K jx jy (jr + 1) ex e' w' := by
  have htw := h.tab ht
  obtain ⟨⟨Bx, By, Fx, Fy, sx, sy, Gx, Gy, Nx, Ny, h1, h2, h3, ⟨h4, h5, h6, h7⟩, ⟨h8, h9⟩, ⟨h10, h11⟩, h12, h13, h14, h15⟩, hd, hf, hk⟩ := h
  refine (Le.int_ none 0 0 ⟨6, 0, [], 0, 8⟩ w (Tab_rise htw h9) h2 (by omega) ⟨.inl rfl, rfl, by omega⟩ (by simp) (fun h => by omega)).mono ?_
  rintro r w' ⟨F', n', e', s', G', rfl, hz, hs, hr⟩
  have hnot : ∀ k, k < w.heap.size → ¬ Fy k → ¬ F' k := fun k hk hn hf => by
    rcases hs.sub k hf with h | h
    · exact hn h
    · omega
  have key : (e' = 0 → (n' = zs.getD jr 0 ∧ jr < zs.length) ∧ G' 5 = some ⟨cat v N, (cat v jy).length, 0⟩ ∧ s' = ⟨zs, 8 * (jr + 1), false⟩ ∧ jr + 1 ≤ zs.length) ∧ (e' ≠ 0 → e' = 3) := by
    by_cases h0 : ey = 0
    · subst h0
      obtain ⟨hg, hsy, hl⟩ := h14 rfl
      rw [hsy] at hr
      rcases fix_short hb hl hr with ⟨q1, q2, q3, q4, q5⟩ | ⟨_, q2⟩
      · exact ⟨fun _ => ⟨⟨q2, q1⟩, by rw [q5]; exact hg, q4, q1⟩, fun h => absurd q3 h⟩
      · exact ⟨fun h => by rw [q2] at h; exact absurd h (by decide), fun _ => q2⟩
    · have e1 := within_stays hr h0
      have e2 := h15 h0
      rw [e1]
      exact ⟨fun h => absurd h h0, fun _ => e2⟩
  refine ⟨n', e', rfl, fun h => (key.1 h).1, ⟨⟨Bx, By, Fx, F', sx, s', Gx, G', Nx, Ny + 1, h1.keeps hs.keeps fun k hx hy => h3 k hx hy, hz, fun k hx hy => ?_, ⟨h4, h5, hnot bd hd.lt h6, hnot bf hf.lt h7⟩, ⟨h8, h9⟩, ⟨h10, by omega⟩, h12, h13, fun h => (key.1 h).2, key.2⟩,
    hd.keeps hs.keeps h6, hf.keeps hs.keeps h7, hk.trans (hs.keeps.mono fun k _ hx => Nat.le_trans h9 (h2.lt k hx).1)⟩⟩
  exact hnot k (h1.lt k hx).2 (h3 k hx) hy
end
end Go.Proofs.YtgaofnmgdefdcaaGreatDoor.Le

namespace Go.Proofs.YtgaofnmgdefdcaaGreatDoor.Ao

theorem countP_less {p q : Nat → Bool} : ∀ (l : List Nat) (i : Nat), (∀ j, q j = true → p j = true) → i ∈ l → p i = true → q i = false → l.countP q < l.countP p
  | [], i, _, hi, _, _ => by cases hi
  | x :: l, i, h, hi, hp, hq => by
    have hle : l.countP q ≤ l.countP p := List.countP_mono_left fun j _ => h j
    rw [List.countP_cons, List.countP_cons]
    rcases List.mem_cons.1 hi with rfl | hi
    · rw [hp, hq]
      simp
      omega
    · have := countP_less l i h hi hp hq
      cases hx : q x with
      | false => simp; split <;> omega
      | true => rw [h x hx]; simp; omega
/-- How many have not come up. -/
def left (n : Nat) (listed : Array Bool) : Nat := (List.range n).countP fun j => !listed.getD j true
theorem ready_mem {md : Region.Mode} {ops : Array Oper} {listed : Array Bool} {i : Nat} (h : i ∈ Region.ready md ops listed) :
    i < ops.size ∧ listed.getD i true = false ∧ ∀ o, ops[i]? = some o → (o.after.all fun e => !Region.binds md e || listed.getD e.on false) = true := by
  unfold Region.ready at h
  rw [List.mem_filter, List.mem_range] at h
  obtain ⟨h1, h2⟩ := h
  simp only [Bool.and_eq_true, Bool.not_eq_true'] at h2
  refine ⟨h1, h2.1, fun o ho => ?_⟩
  have h3 := h2.2
  rw [ho] at h3
  exact h3
theorem getD_set {listed : Array Bool} {i : Nat} (hi : i < listed.size) (j : Nat) (b : Bool) : (listed.setIfInBounds i true).getD j b = if i = j then true else listed.getD j b := by
  simp only [Array.getD_eq_getD_getElem?, Array.getElem?_setIfInBounds]
  by_cases h : i = j
  · subst h
    simp [hi]
  · simp [h]
theorem getD_lt {listed : Array Bool} {i : Nat} (h : listed.getD i true = false) : i < listed.size := by
  rcases Nat.lt_or_ge i listed.size with h1 | h1
  · exact h1
  · simp [Array.getD_eq_getD_getElem?, Array.getElem?_eq_none h1] at h
theorem wpAnyH_inv {P : Program} {md : Region.Mode} {ops : Array Oper} {Q : Exit → Act → World → Prop} (I : (Nat → Bool) → Act → World → Prop)
    (hs : ∀ (L : Nat → Bool) (a : Act) (w : World) (i : Nat) (o : Oper), I L a w → L i = false → ops[i]? = some o → (o.after.all fun e => !Region.binds md e || L e.on) = true →
      wpOp P ops Q i (I (fun j => if i = j then true else L j)) a w)
    (he : ∀ (L : Nat → Bool) (a : Act) (w : World), I L a w → (∀ i, i < ops.size → L i = false → ∃ o, ops[i]? = some o ∧ (o.after.all fun e => !Region.binds md e || L e.on) = false) → Q .normal a w) :
    ∀ (fuel : Nat) (listed : Array Bool) (a : Act) (w : World), listed.size = ops.size → left ops.size listed ≤ fuel → I (fun j => listed.getD j false) a w → wpAnyH P md ops Q (fun _ => True) fuel listed a w := by
  have hsame : ∀ (listed : Array Bool) (i : Nat), i < listed.size → listed.getD i false = listed.getD i true := by
    intro listed i hi
    simp [Array.getD_eq_getD_getElem?, hi]
  have hend : ∀ (listed : Array Bool) (a : Act) (w : World), listed.size = ops.size → I (fun j => listed.getD j false) a w → Region.ready md ops listed = [] → Q .normal a w := by
    intro listed a w hsz hI hr
    refine he _ a w hI fun i hi hL => ?_
    refine ⟨ops[i], Array.getElem?_eq_getElem hi, ?_⟩
    cases hb : (ops[i].after.all fun e => !Region.binds md e || listed.getD e.on false) with
    | false => rfl
    | true =>
      have : i ∈ Region.ready md ops listed := by
        unfold Region.ready
        rw [List.mem_filter, List.mem_range]
        refine ⟨hi, ?_⟩
        rw [Array.getElem?_eq_getElem hi]
        simp only [Option.map_some, Option.getD_some, hb, Bool.and_true, Bool.not_eq_true']
        rw [← hsame listed i (by omega)]
        exact hL
      rw [hr] at this
      cases this
  intro fuel
  induction fuel with
  | zero =>
    intro listed a w hsz hf hI
    have hr : Region.ready md ops listed = [] := by
      cases hq : Region.ready md ops listed with
      | nil => rfl
      | cons i rs =>
        obtain ⟨h1, h2, _⟩ := ready_mem (i := i) (md := md) (ops := ops) (listed := listed) (by rw [hq]; simp)
        have : 0 < left ops.size listed := List.countP_pos_iff.2 ⟨i, List.mem_range.2 h1, by simp [h2]⟩
        omega
    exact ⟨hr, hend listed a w hsz hI hr⟩
  | succ fuel ih =>
    intro listed a w hsz hf hI
    refine ⟨fun hr => hend listed a w hsz hI hr, fun i hi => ?_⟩
    obtain ⟨h1, h2, h3⟩ := ready_mem hi
    have hli := getD_lt h2
    have hs1 := hs _ a w i ops[i] hI (by rw [hsame listed i hli]; exact h2) (Array.getElem?_eq_getElem h1) (h3 _ (Array.getElem?_eq_getElem h1))
    have hk : ∀ a' w', I (fun j => if i = j then true else listed.getD j false) a' w' → True ∧ wpAnyH P md ops Q (fun _ => True) fuel (listed.setIfInBounds i true) a' w' := by
      intro a' w' hI'
      refine ⟨trivial, ih _ a' w' (by simpa using hsz) ?_ ?_⟩
      · have : left ops.size (listed.setIfInBounds i true) < left ops.size listed := by
          refine countP_less _ i (fun j hj => ?_) (List.mem_range.2 h1) (by simp [h2]) (by simp [getD_set hli])
          rw [getD_set hli] at hj
          by_cases e : i = j
          · simp [e] at hj
          · simpa [e] using hj
        omega
      · have : (fun j => (listed.setIfInBounds i true).getD j false) = fun j => if i = j then true else listed.getD j false := funext fun j => getD_set hli j false
        rw [this]
        exact hI'
    exact wpOp_mono hk hs1
end Go.Proofs.YtgaofnmgdefdcaaGreatDoor.Ao

namespace Go.Proofs.YtgaofnmgdefdcaaGreatDoor.Ao

theorem wpAnyH_invS {P : Program} {md : Region.Mode} {ops : Array Oper} {Q : Exit → Act → World → Prop} {S : World → Prop} (I : (Nat → Bool) → Act → World → Prop)
    (hS : ∀ (L : Nat → Bool) (a : Act) (w : World), I L a w → S w)
    (hs : ∀ (L : Nat → Bool) (a : Act) (w : World) (i : Nat) (o : Oper), I L a w → L i = false → ops[i]? = some o → (o.after.all fun e => !Region.binds md e || L e.on) = true →
      wpOp P ops Q i (I (fun j => if i = j then true else L j)) a w)
    (he : ∀ (L : Nat → Bool) (a : Act) (w : World), I L a w → (∀ i, i < ops.size → L i = false → ∃ o, ops[i]? = some o ∧ (o.after.all fun e => !Region.binds md e || L e.on) = false) → Q .normal a w) :
    ∀ (fuel : Nat) (listed : Array Bool) (a : Act) (w : World), listed.size = ops.size → left ops.size listed ≤ fuel → I (fun j => listed.getD j false) a w → wpAnyH P md ops Q S fuel listed a w := by
  have hsame : ∀ (listed : Array Bool) (i : Nat), i < listed.size → listed.getD i false = listed.getD i true := by
    intro listed i hi
    simp [Array.getD_eq_getD_getElem?, hi]
  have hend : ∀ (listed : Array Bool) (a : Act) (w : World), listed.size = ops.size → I (fun j => listed.getD j false) a w → Region.ready md ops listed = [] → Q .normal a w := by
    intro listed a w hsz hI hr
    refine he _ a w hI fun i hi hL => ?_
    refine ⟨ops[i], Array.getElem?_eq_getElem hi, ?_⟩
    cases hb : (ops[i].after.all fun e => !Region.binds md e || listed.getD e.on false) with
    | false => rfl
    | true =>
      have : i ∈ Region.ready md ops listed := by
        unfold Region.ready
        rw [List.mem_filter, List.mem_range]
        refine ⟨hi, ?_⟩
        rw [Array.getElem?_eq_getElem hi]
        simp only [Option.map_some, Option.getD_some, hb, Bool.and_true, Bool.not_eq_true']
        rw [← hsame listed i (by omega)]
        exact hL
      rw [hr] at this
      cases this
  intro fuel
  induction fuel with
  | zero =>
    intro listed a w hsz hf hI
    have hr : Region.ready md ops listed = [] := by
      cases hq : Region.ready md ops listed with
      | nil => rfl
      | cons i rs =>
        obtain ⟨h1, h2, _⟩ := ready_mem (i := i) (md := md) (ops := ops) (listed := listed) (by rw [hq]; simp)
        have : 0 < left ops.size listed := List.countP_pos_iff.2 ⟨i, List.mem_range.2 h1, by simp [h2]⟩
        omega
    exact ⟨hr, hend listed a w hsz hI hr⟩
  | succ fuel ih =>
    intro listed a w hsz hf hI
    refine ⟨fun hr => hend listed a w hsz hI hr, fun i hi => ?_⟩
    obtain ⟨h1, h2, h3⟩ := ready_mem hi
    have hli := getD_lt h2
    have hs1 := hs _ a w i ops[i] hI (by rw [hsame listed i hli]; exact h2) (Array.getElem?_eq_getElem h1) (h3 _ (Array.getElem?_eq_getElem h1))
    have hk : ∀ a' w', I (fun j => if i = j then true else listed.getD j false) a' w' → S w' ∧ wpAnyH P md ops Q S fuel (listed.setIfInBounds i true) a' w' := by
      intro a' w' hI'
      refine ⟨hS _ _ _ hI', ih _ a' w' (by simpa using hsz) ?_ ?_⟩
      · have : left ops.size (listed.setIfInBounds i true) < left ops.size listed := by
          refine countP_less _ i (fun j hj => ?_) (List.mem_range.2 h1) (by simp [h2]) (by simp [getD_set hli])
          rw [getD_set hli] at hj
          by_cases e : i = j
          · simp [e] at hj
          · simpa [e] using hj
        omega
      · have : (fun j => (listed.setIfInBounds i true).getD j false) = fun j => if i = j then true else listed.getD j false := funext fun j => getD_set hli j false
        rw [this]
        exact hI'
    exact wpOp_mono hk hs1
/-- What holds of every world from now on may be taken narrower. -/
theorem wpAnyH_as {P : Program} {md : Region.Mode} {ops : Array Oper} {Q : Exit → Act → World → Prop} {S S' : World → Prop} (h : ∀ w, S' w → S w) :
    ∀ (fuel : Nat) (listed : Array Bool) (a : Act) (w : World), wpAnyH P md ops Q S' fuel listed a w → wpAnyH P md ops Q S fuel listed a w
  | 0, _, _, _, hx => hx
  | fuel + 1, _, _, _, hx => ⟨hx.1, fun i hi => wpOp_mono (fun a' w' hh => ⟨h _ hh.1, wpAnyH_as h fuel _ a' w' hh.2⟩) (hx.2 i hi)⟩
/-- Values of chosen slots. -/
def puts (a : Act) : List Tmp → List Value → Act
  | d :: ds, v :: vs => puts (a.put (some d) v) ds vs
  | _, _ => a
theorem wpAnyH_vals {P : Program} {md : Region.Mode} {ops : Array Oper} {Q : Exit → Act → World → Prop} {S : World → Prop} {a : Act} {w : World} {fuel : Nat} {listed : Array Bool} (ds : List Tmp) (vs0 : List Value) (J : (Nat → Bool) → List Value → World → Prop)
    (ha : puts a ds vs0 = a)
    (hsz : listed.size = ops.size) (hf : left ops.size listed ≤ fuel)
    (hac : ((List.range ops.size).all fun i => ((ops[i]?).map fun o => o.after.all fun e => decide (e.on < i)).getD true) = true)
    (h0 : J (fun j => listed.getD j false) vs0 w)
    (hS : ∀ (L : Nat → Bool) (vs : List Value) (w : World), J L vs w → S w)
    (hs : ∀ (L : Nat → Bool) (vs : List Value) (w : World) (i : Nat) (o : Oper), J L vs w → L i = false → ops[i]? = some o → (o.after.all fun e => !Region.binds md e || L e.on) = true →
      wpOp P ops Q i (fun a' w' => ∃ vs', a' = puts a ds vs' ∧ J (fun j => if i = j then true else L j) vs' w') (puts a ds vs) w)
    (he : ∀ (L : Nat → Bool) (vs : List Value) (w : World), J L vs w → (∀ i, i < ops.size → L i = true) → Q .normal (puts a ds vs) w) :
    wpAnyH P md ops Q S fuel listed a w := by
  refine wpAnyH_invS (fun L a' w' => ∃ vs, a' = puts a ds vs ∧ J L vs w') (fun L a' w' ⟨vs, _, hJ⟩ => hS L vs w' hJ) ?_ ?_ fuel listed a w hsz hf ⟨vs0, ha.symm, h0⟩
  · rintro L a' w' i o ⟨vs, rfl, hJ⟩ hL ho hall
    exact hs L vs w' i o hJ hL ho hall
  · rintro L a' w' ⟨vs, rfl, hJ⟩ hn
    refine he L vs w' hJ ?_
    intro i
    induction i using Nat.strongRecOn with
    | _ i ih =>
      intro hi
      cases hL : L i with
      | true => rfl
      | false =>
        obtain ⟨o, ho, hfa⟩ := hn i hi hL
        have h1 := List.all_eq_true.1 hac i (List.mem_range.2 hi)
        rw [ho] at h1
        simp only [Option.map_some, Option.getD_some] at h1
        have : (o.after.all fun e => !Region.binds md e || L e.on) = true := by
          rw [Array.all_eq_true] at h1 ⊢
          intro k hk
          have h2 := of_decide_eq_true (h1 k hk)
          rw [ih _ h2 (by omega), Bool.or_true]
        rw [this] at hfa
        cases hfa
end Go.Proofs.YtgaofnmgdefdcaaGreatDoor.Ao

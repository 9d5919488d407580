/- The fixed fact of layer 11. The condition: strconv's table of tens reads as its text lays it. -/
/- A Quill between deeds, by the two ways of LensShort. The condition: strconv's table of tens reads as its text lays it. -/
import Derived.Test.YtgaofnmgdefdcaaGreatDoorJLnNewLnEnd
import Derived.Test.YtgaofnmgdefdcaaGreatDoorJLnShPQlGet

namespace Go.Proofs.YtgaofnmgdefdcaaGreatDoor.Le
open Go.RowKit Go.Proofs.YtgaofnmgdefdcaaGreatDoor.Gen Go.Proofs.YtgaofnmgdefdcaaGreatDoor.Mp Go.Proofs.YtgaofnmgdefdcaaGreatDoor.Cm Go.Proofs.YtgaofnmgdefdcaaGreatDoor.Hr Go.Proofs.YtgaofnmgdefdcaaGreatDoor.Hn Go.Proofs.YtgaofnmgdefdcaaGreatDoor.Hk Go.Proofs.YtgaofnmgdefdcaaGreatDoor.Ln Go.Proofs.YtgaofnmgdefdcaaGreatDoor.Ds Go.Proofs.YtgaofnmgdefdcaaGreatDoor.Ky Go.Proofs.YtgaofnmgdefdcaaGreatDoor.Wr Go.Proofs.YtgaofnmgdefdcaaGreatDoor.Ir Go.Proofs.YtgaofnmgdefdcaaGreatDoor.Br Go.Proofs.YtgaofnmgdefdcaaGreatDoor.Qh Go.Proofs.YtgaofnmgdefdcaaGreatDoor.Qs Go.Proofs.YtgaofnmgdefdcaaGreatDoor.Qf Go.Proofs.YtgaofnmgdefdcaaGreatDoor.Qc

theorem Tab_rise {B B' : Nat} {w : World} (h : Tab B w) (hB : B ≤ B') : Tab B' w := fun w' hb => h w' (hb.mono hB)
/-- A map of one row of bytes. -/
def oneV (k : Nat) (l : List Int) : Nat → Option (List Int) := fun i => if i = k then some l else none
def oneG (k : Nat) (r : RS) : Rs := fun i => if i = k then some r else none
theorem one_map {w : World} {b k n c : Nat} {A : Option Addr} {l : List Int} (hn : l.length = n) (h : IsF Tryz.prog 3 60001 ikl w b (putF (fun _ => none) k (.slice A n c))) :
    IsF Tryz.prog 3 60001 ikl w b (fun i => (oneV k l i).map fun l => .slice ((fun _ => A) i) l.length ((fun _ => c) i)) := by
  refine h.congr fun i _ => ?_
  unfold putF oneV
  by_cases hi : i = k
  · rw [if_pos hi, if_pos hi, ← hn]
    rfl
  · rw [if_neg hi, if_neg hi]
    rfl
theorem oneV_G (k : Nat) (l : List Int) : (fun i => (oneV k l i).map fun l => (⟨l, 0, 0⟩ : RS)) = oneG k ⟨l, 0, 0⟩ := by
  funext i
  unfold oneV oneG
  by_cases hi : i = k
  · rw [if_pos hi, if_pos hi]
    rfl
  · rw [if_neg hi, if_neg hi]
    rfl
theorem out300 {s s' : BS} {G G' : Rs} {n e : Int} (h : WithinR ⟨1, 3, [], 0, 0⟩ s G 0 (-2147483647) 2147483647 n e s' G') (hG : G 3 = some ⟨[129, 44], 0, 0⟩) : n = 300 ∧ e = 0 ∧ s' = s ∧ G' = ru G 3 ⟨[129, 44], 2, 0⟩ := by
  have e1 : RS.int ⟨[129, 44], 0, 0⟩ = (300, ⟨[129, 44], 2, 0⟩) := by rfl
  have hck : chkI ⟨1, 3, [], 0, 0⟩ = 0 := by decide
  rcases h with ⟨h0, _⟩ | ⟨_, s1, ⟨m, e1', hn, hc⟩, hs⟩
  · exact absurd rfl h0
  rcases hn with ⟨h0, _⟩ | ⟨_, _, h1, h2⟩ | ⟨_, h3, _⟩ | ⟨_, h3, _⟩
  · exact absurd hck h0
  · unfold OutR at h2
    rw [show (⟨1, 3, [], 0, 0⟩ : D).B.toNat = 3 from rfl, hG] at h2
    simp only at h2
    rw [e1] at h2
    obtain ⟨h2, h4, h5⟩ := h2
    have h6 : m = 300 := h2.trans (by decide)
    have h7 : e1' = 0 := h4
    subst h6 h7 h1
    rcases hc with ⟨h, _⟩ | ⟨_, h, _⟩ | ⟨_, _, _, h8, h9⟩
    · exact absurd rfl h
    · omega
    · subst h9
      exact ⟨h8, rfl, by rw [hs]; rfl, h5⟩
  · exact absurd h3 (by decide)
  · exact absurd h3 (by decide)
theorem fix5 {s' : BS} {G G' : Rs} {n e : Int} (h : WithinR ⟨6, 0, [], 0, 3⟩ ⟨[160], 0, false⟩ G 0 (-2147483647) 2147483647 n e s' G') : n = 5 ∧ e = 0 ∧ s' = ⟨[160], 3, false⟩ ∧ G' = G := by
  have e1 : BS.take ⟨[160], 0, false⟩ 3 = (5, ⟨[160], 3, false⟩) := by rfl
  have hck : chkI ⟨6, 0, [], 0, 3⟩ = 0 := by decide
  rcases h with ⟨h0, _⟩ | ⟨_, s1, ⟨m, e1', hn, hc⟩, hs⟩
  · exact absurd rfl h0
  rcases hn with ⟨h0, _⟩ | ⟨_, h3, _⟩ | ⟨_, h3, _⟩ | ⟨_, _, h1, h2, h4⟩
  · exact absurd hck h0
  · exact absurd h3 (by decide)
  · exact absurd h3 (by decide)
  · rw [show (⟨6, 0, [], 0, 3⟩ : D).bi.toNat = 3 from rfl, e1] at h2 h4
    simp only at h2 h4
    subst h2
    rcases h4 with ⟨h4, _⟩ | ⟨_, h5, h6⟩
    · cases h4
    · subst h5 h6
      rcases hc with ⟨h, _⟩ | ⟨_, h, _⟩ | ⟨_, _, _, h8, h9⟩
      · exact absurd rfl h
      · exfalso
        revert h
        decide
      · subst h9
        exact ⟨h8, rfl, by rw [hs]; rfl, h1⟩

theorem endOK {E : Int} (h : EndR ⟨[160], 3, false⟩ (ru (oneG 3 ⟨[129, 44], 0, 0⟩) 3 ⟨[129, 44], 2, 0⟩) 0 E) : E = 0 := by
  have hf : BS.fin ⟨[160], 3, false⟩ = 0 := by decide
  rcases h with ⟨h, _⟩ | ⟨_, h, _⟩ | ⟨_, _, ⟨h, _⟩ | ⟨i, r, h1, h2, _⟩⟩
  · exact absurd rfl h
  · exact absurd hf h
  · exact h
  · exfalso
    unfold ru oneG at h1
    split at h1
    · injection h1 with h1
      subst h1
      exact h2 (by decide)
    · cases h1
set_option maxHeartbeats 8000000 in
set_option maxRecDepth 100000 in
theorem awake (w : World) (ht : Tab w.heap.size w) : Calls Tryz.prog 21 #[] w fun r w' => r = .returned (.bool true) ∧ Keeps (fun _ => False) w w' := by
  have hmm := @run_makeMap Tryz.prog
  obtain ⟨q, hq⟩ : ∃ q, q = w.heap.size := ⟨_, rfl⟩
  obtain ⟨W0, hW0⟩ : ∃ W0, W0 = (((w.alloc (.cells #[.int .u8 160] 5)).alloc (.map #[] 0)).alloc (.cells #[.int .u8 129, .int .u8 44] 5)) := ⟨_, rfl⟩
  have hk0 : Keeps (fun _ => False) w W0 := by rw [hW0]; exact (((Keeps.refl _ _).alloc _).alloc _).alloc _
  have hs1 : (w.alloc (.cells #[.int .u8 160] 5)).heap.size = q + 1 := by rw [hq]; simp
  have hs2 : ((w.alloc (.cells #[.int .u8 160] 5)).alloc (.map #[] 0)).heap.size = q + 1 + 1 := by rw [hq]; simp
  have hb0 : Blk W0 q 5 #[.int .u8 160] := by
    rw [hW0, hq]
    exact ((Blk.new w 5 #[.int .u8 160]).alloc _).alloc _
  have hb2 : Blk W0 (q + 1 + 1) 5 #[.int .u8 129, .int .u8 44] := by
    have := Blk.new ((w.alloc (.cells #[.int .u8 160] 5)).alloc (.map #[] 0)) 5 #[.int .u8 129, .int .u8 44]
    rw [hs2] at this
    rw [hW0]
    exact this
  have hm0 : IsF Tryz.prog 3 60001 ikl W0 (q + 1) (fun _ => none) := by
    have h1 := (IsF.new Tryz.prog 3 60001 ikl (w.alloc (.cells #[.int .u8 160] 5))).keeps ((Keeps.refl (fun _ => False) _).alloc (.cells #[.int .u8 129, .int .u8 44] 5)) id
    rw [hs1] at h1
    rw [hW0]
    exact h1
  obtain ⟨W1, hrun, hu, hk1⟩ := Qi.IsF.update_run int_ks hm0 Tryz.underlying28 (by omega) (show 3 < 60001 by omega) (.slice (some ⟨q + 1 + 1, 0, none⟩) 2 2)
  have hkW : Keeps (fun _ => False) w W1 := keeps_low hk0 hk1 fun x hx => by omega
  have hb0' := hb0.keeps hk1 (by omega)
  have hb2' := hb2.keeps hk1 (by omega)
  have hl0 : Lies W1 (some ⟨q, 0, none⟩) [160] := .inr ⟨q, 0, rfl, hb0'.lt, fun i hi => by
    have hi0 : i = 0 := by simpa using hi
    subst hi0
    exact hb0'.cell 0⟩
  have hl2 : Lies W1 (some ⟨q + 1 + 1, 0, none⟩) [129, 44] := .inr ⟨q + 1 + 1, 0, rfl, hb2'.lt, fun i hi => by
    have hi0 : i = 0 ∨ i = 1 := by simp at hi; omega
    rcases hi0 with rfl | rfl
    · exact hb2'.cell 0
    · exact hb2'.cell 1⟩
  have HNW := Lib.hid (new_m (some ⟨q, 0, none⟩) 1 1 [160] (q + 1) (oneV 3 [129, 44]) (fun _ => some ⟨q + 1 + 1, 0, none⟩) (fun _ => 2) W1 rfl hl0 (by omega) (by simp) (one_map rfl hu) (fun i l h => by
    unfold oneV at h
    split at h
    · injection h with h
      subst h
      exact ⟨hl2, by simp, by simp⟩
    · cases h) (fun i hi => if_neg (by omega)))
  rw [oneV_G] at HNW
  have HT1 := Lib.hid (Tab_rise (ht.more (Nat.le_refl _) hkW) hkW.size)
  have HKW := Lib.hid hkW
  have hrun2 : (Instr.mapUpdate 28 (.map (some (q + 1))) (.int .i64 3) (.slice (some ⟨q + 1 + 1, 0, none⟩) 2 2)).run Tryz.prog W0 = .ok () W1 := hrun
  clear hrun
  clear ht hk0 hs1 hs2 hb0 hb2 hm0 hu hk1 hkW hb0' hb2' hl0 hl2
  subst hq
  subst hW0
  go_enter Tryz.func21, Tryz.ntmps21
  go_wp2_with (first
    | (have H := HNW; go_at_call 22; refine H.out.mono ?_; rintro r w2 ⟨g, F, rfl, hx, hk2⟩; have HI1 := Lib.hid (int_ none 0 0 ⟨1, 3, [], 0, 0⟩ w2 (HT1.out.more (Nat.le_refl _) hk2) hx (by omega) ⟨.inl rfl, rfl, by omega⟩ (by simp) (fun h => by omega)); unfold dv at HI1; have HK2 := Lib.hid (HKW.out.trans hk2); have HT2 := Lib.hid (HT1.out.more (Nat.le_refl _) hk2); have HL2 := Lib.hid hx.lt; have HW1 : Hid (w.heap.size ≤ W1.heap.size) := HKW.out.size; have HW2 : Hid (W1.heap.size ≤ w2.heap.size) := hk2.size; clear hx hk2 HNW)
    | (have H := HI1; go_at_call 28; refine H.out.mono ?_; rintro r w3 ⟨F3, n3, e3, s3, G3, rfl, h3, hs3, hr3⟩; obtain ⟨rfl, rfl, rfl, rfl⟩ := out300 hr3 (if_pos rfl); have HK3 : Hid (Keeps (fun _ => False) w w3) := keeps_low HK2.out hs3.keeps (fun x hx => Nat.le_trans HW1.out (HL2.out x hx).1); have HI2 := Lib.hid (int_ none 0 0 ⟨6, 0, [], 0, 3⟩ w3 (HT2.out.keeps HW2.out hs3.keeps fun x hx => (HL2.out x hx).1) h3 (by omega) ⟨.inl rfl, rfl, by omega⟩ (by simp) (fun h => by omega)); unfold dv at HI2; have HL3 := Lib.hid h3.lt; clear h3 hs3 hr3 HI1)
    | (have H := HI2; go_at_call 28; refine H.out.mono ?_; rintro r w4 ⟨F4, n4, e4, s4, G4, rfl, h4, hs4, hr4⟩; obtain ⟨rfl, rfl, rfl, rfl⟩ := fix5 hr4; have HK4 : Hid (Keeps (fun _ => False) w w4) := keeps_low HK3.out hs4.keeps (fun x hx => Nat.le_trans HW1.out (HL3.out x hx).1); have HEN := Lib.hid (end_z w4 h4); clear h4 hs4 hr4 HI2)
    | (have H := HEN; go_at_call 27; refine H.out.mono ?_; rintro r w5 ⟨E, rfl, hE, hk5⟩; obtain rfl : E = 0 := endOK hE; have HK5 := Lib.hid (HK4.out.trans hk5); clear hE hk5 HEN))
  go_ret
  exact ⟨rfl, HK5.out⟩
end Go.Proofs.YtgaofnmgdefdcaaGreatDoor.Le

namespace Go.Proofs.YtgaofnmgdefdcaaGreatDoor.Le
open Go.RowKit Go.Proofs.YtgaofnmgdefdcaaGreatDoor.Gen Go.Proofs.YtgaofnmgdefdcaaGreatDoor.Hu Go.Proofs.YtgaofnmgdefdcaaGreatDoor.Mp Go.Proofs.YtgaofnmgdefdcaaGreatDoor.Cm Go.Proofs.YtgaofnmgdefdcaaGreatDoor.Hr Go.Proofs.YtgaofnmgdefdcaaGreatDoor.Hn Go.Proofs.YtgaofnmgdefdcaaGreatDoor.Hk Go.Proofs.YtgaofnmgdefdcaaGreatDoor.Ln Go.Proofs.YtgaofnmgdefdcaaGreatDoor.Ds Go.Proofs.YtgaofnmgdefdcaaGreatDoor.Ky Go.Proofs.YtgaofnmgdefdcaaGreatDoor.Wr Go.Proofs.YtgaofnmgdefdcaaGreatDoor.Ir Go.Proofs.YtgaofnmgdefdcaaGreatDoor.Ib Go.Proofs.YtgaofnmgdefdcaaGreatDoor.Br Go.Proofs.YtgaofnmgdefdcaaGreatDoor.Bp Go.Proofs.YtgaofnmgdefdcaaGreatDoor.Qh Go.Proofs.YtgaofnmgdefdcaaGreatDoor.Qs Go.Proofs.YtgaofnmgdefdcaaGreatDoor.Qf Go.Proofs.YtgaofnmgdefdcaaGreatDoor.Qc Go.Proofs.YtgaofnmgdefdcaaGreatDoor.It Go.Proofs.YtgaofnmgdefdcaaGreatDoor.Qi Go.Proofs.YtgaofnmgdefdcaaGreatDoor.Qu

/-- The first numbers' bytes. -/
def us (u : Nat → Int) (j : Nat) : List Nat := (List.range j).map fun i => (u i).toNat
theorem us_snoc (u : Nat → Int) (j : Nat) : ofB (us u (j + 1)) = ofB (us u j) ++ tb (u j).toNat 8 := by
  unfold us
  rw [List.range_succ, List.map_append, ofB_app]
  simp [ofB]
theorem us_len (u : Nat → Int) (j : Nat) : (us u j).length = j := by simp [us]
/-- So many numbers were put into block 5, so many bytes into the row. -/
structure Sh (w0 : World) (q bd bf : Nat) (v u : Nat → Int) (a b : Nat) (w : World) : Prop where
  ex : ∃ F G N, Ql F w0.heap.size q (ofB (us u b)) G N w ∧ ¬ F bd ∧ ¬ F bf ∧ N ≤ a + b ∧ hadP (cont G) 5 = cat v a ∧ ∀ i, i ≠ 5 → cont G i = none
  d : Blk w bd 43 #[.int .u8 1, .int .i64 5, .slice none 0 0, .int .i64 0, .int .i64 0]
  f : Blk w bf 43 #[.int .u8 6, .int .i64 0, .slice none 0 0, .int .i64 0, .int .i64 8]
  keeps : Keeps (w0.heap.size ≤ ·) w0 w
section
variable {w0 w w1 : World} {q bd bf a b : Nat} {v u : Nat → Int}
theorem Sh.tab (h : Sh w0 q bd bf v u a b w) (ht : Tab w0.heap.size w0) : Tab w0.heap.size w := ht.keeps (Nat.le_refl _) h.keeps fun _ => id
theorem Sh.had_le {G : Gs} (h1 : hadP (cont G) 5 = cat v a) (h2 : ∀ i, i ≠ 5 → cont G i = none) (i : Nat) : (had G i).length ≤ 5 * a := by
  rw [had_cont]
  by_cases hi : i = 5
  · rw [hi, h1]
    exact (cat_len v a).2
  · unfold hadP
    rw [h2 i hi]
    simp
theorem i64_wf {x : Int} (h : -9223372036854775808 ≤ x ∧ x ≤ 9223372036854775807) : (Lit.int .i64 x).wf = true := by
  have hm : IntKind.i64.min = -9223372036854775808 ∧ IntKind.i64.max = 9223372036854775807 := by decide
  simp [Lit.wf, hm.1, hm.2]
  omega
theorem Sh.put_d (h : Sh w0 q bd bf v u a b w) (ht : Tab w0.heap.size w0) (ha : a ≤ 100) (hb : b ≤ 100) (hv : -2147483647 ≤ v a ∧ v a ≤ 2147483647) :
    Calls Tryz.prog 15 #[.pointer (some ⟨q, 0, none⟩), .agg #[.int .u8 1, .int .i64 5, .slice none 0 0, .int .i64 0, .int .i64 0], .int .i64 (v a)] w fun r w' => r = .returned (.int .i64 0) ∧ Sh w0 q bd bf v u (a + 1) b w' := by
  have htw := h.tab ht
  obtain ⟨⟨F, G, N, h1, h2, h3, h4, h5, h6⟩, hd, hf, hk⟩ := h
  have hlen : (ofB (us u b)).length = 8 * b := by rw [ofB_len, us_len]
  refine (Qu.int_ w0.heap.size q F _ G N none 0 0 ⟨1, 5, [], 0, 0⟩ (v a) w htw hk.size h1 (by omega) (by omega) (fun i => by have := Sh.had_le h5 h6 i; omega) ⟨.inl rfl, rfl, by omega⟩ (by simp) (fun h => by omega) (i64_wf (by omega))).mono ?_
  rintro r w' ⟨F', G', rfl, hq', hc', hs'⟩
  rw [Le.put_d hv] at hq' hc' ⊢
  simp only at hq' hc' ⊢
  refine ⟨trivial, ⟨F', G', N + 1, hq', fun e => ?_, fun e => ?_, by omega, ?_, fun i hi => ?_⟩, hd.keeps hs'.keeps h2, hf.keeps hs'.keeps h3, hk.trans (hs'.keeps.mono fun k _ hf => h1.low k hf)⟩
  · rcases hs'.sub bd e with h | h
    · exact h2 h
    · have := hd.lt
      omega
  · rcases hs'.sub bf e with h | h
    · exact h3 h
    · have := hf.lt
      omega
  · rw [hc', hadP_pc, if_pos rfl, h5]
    rfl
  · rw [hc']
    unfold pc
    rw [if_neg hi]
    exact h6 i hi
theorem Sh.put_f (h : Sh w0 q bd bf v u a b w) (ht : Tab w0.heap.size w0) (ha : a ≤ 100) (hb : b ≤ 100) (hu : 0 ≤ u b ∧ u b < 256) :
    Calls Tryz.prog 15 #[.pointer (some ⟨q, 0, none⟩), .agg #[.int .u8 6, .int .i64 0, .slice none 0 0, .int .i64 0, .int .i64 8], .int .i64 (u b)] w fun r w' => r = .returned (.int .i64 0) ∧ Sh w0 q bd bf v u a (b + 1) w' := by
  have htw := h.tab ht
  obtain ⟨⟨F, G, N, h1, h2, h3, h4, h5, h6⟩, hd, hf, hk⟩ := h
  have hlen : (ofB (us u b)).length = 8 * b := by rw [ofB_len, us_len]
  refine (Qu.int_ w0.heap.size q F _ G N none 0 0 ⟨6, 0, [], 0, 8⟩ (u b) w htw hk.size h1 (by omega) (by omega) (fun i => by have := Sh.had_le h5 h6 i; omega) ⟨.inl rfl, rfl, by omega⟩ (by simp) (fun h => by omega) (i64_wf (by omega))).mono ?_
  rintro r w' ⟨F', G', rfl, hq', hc', hs'⟩
  rw [Le.put_f hu] at hq' hc' ⊢
  simp only at hq' hc' ⊢
  refine ⟨trivial, ⟨F', G', N + 1, by rw [us_snoc]; exact hq', fun e => ?_, fun e => ?_, by omega, by rw [hc']; exact h5, fun i hi => by rw [hc']; exact h6 i hi⟩, hd.keeps hs'.keeps h2, hf.keeps hs'.keeps h3, hk.trans (hs'.keeps.mono fun k _ hf => h1.low k hf)⟩
  · rcases hs'.sub bd e with h | h
    · exact h2 h
    · have := hd.lt
      omega
  · rcases hs'.sub bf e with h | h
    · exact h3 h
    · have := hf.lt
      omega
end
end Go.Proofs.YtgaofnmgdefdcaaGreatDoor.Le

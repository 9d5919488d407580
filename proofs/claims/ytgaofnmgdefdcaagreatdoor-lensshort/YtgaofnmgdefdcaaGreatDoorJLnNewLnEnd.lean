/- lens: New: of a row of bits, and of blocks. -/
/- lens: End: what is left of the row, or in a block. -/
import Derived.Test.YtgaofnmgdefdcaaGreatDoorJLnActLnArr
import Derived.Test.YtgaofnmgdefdcaaGreatDoorJQlStpQlSrt

namespace Go.Proofs.YtgaofnmgdefdcaaGreatDoor.Le
open Go.RowKit Go.Proofs.YtgaofnmgdefdcaaGreatDoor.Gen Go.Proofs.YtgaofnmgdefdcaaGreatDoor.Mp Go.Proofs.YtgaofnmgdefdcaaGreatDoor.Cm Go.Proofs.YtgaofnmgdefdcaaGreatDoor.Hr Go.Proofs.YtgaofnmgdefdcaaGreatDoor.Hn Go.Proofs.YtgaofnmgdefdcaaGreatDoor.Hk Go.Proofs.YtgaofnmgdefdcaaGreatDoor.Ln Go.Proofs.YtgaofnmgdefdcaaGreatDoor.Ds Go.Proofs.YtgaofnmgdefdcaaGreatDoor.Ky Go.Proofs.YtgaofnmgdefdcaaGreatDoor.Wr Go.Proofs.YtgaofnmgdefdcaaGreatDoor.Ir Go.Proofs.YtgaofnmgdefdcaaGreatDoor.Br Go.Proofs.YtgaofnmgdefdcaaGreatDoor.Qh Go.Proofs.YtgaofnmgdefdcaaGreatDoor.Qs Go.Proofs.YtgaofnmgdefdcaaGreatDoor.Qf Go.Proofs.YtgaofnmgdefdcaaGreatDoor.Qc

/-- What only new blocks turn in. -/
theorem keeps_low {w wr w1 : World} {S : Nat → Prop} (h : Keeps (fun _ => False) w wr) (k : Keeps S wr w1) (hw : ∀ x, S x → w.heap.size ≤ x) : Keeps (fun _ => False) w w1 :=
  ⟨k.os.trans h.os, k.tape.trans h.tape, k.output.trans h.output, Nat.le_trans h.size k.size, fun x hx hn => (k.block x (Nat.lt_of_lt_of_le hx h.size) (fun hs => by have := hw x hs; omega)).trans (h.block x hx hn)⟩
/-- A block's Reader is added. -/
theorem Ln.add {o : Nat → Option Nat} {B g N br bb mb i base g' : Nat} {s : BS} {G : Rs} {e : Int} {mc : Value} {P : Nat → Nat × Nat} {w w1 w2 : World} {r : RS} (h : Ln o B g s G N e br bb mb mc P w) (hi : i < 60001) (hG : G i = none)
    (k1 : Keeps (fun _ => False) w w1) (hr : IsRd base g' r w1) (hb : w.heap.size ≤ base) (k2 : Keeps (· = mb) w1 w2) (hm : IsF Tryz.prog 3 60001 ikl w2 mb (putF (fun i => (G i).map fun _ => rd (P i).2) i (rd g'))) :
    Ln (fun k => if base ≤ k ∧ k ≤ g' then some (4 + i) else o k) B g s (ru G i r) N e br bb mb mc (fun j => if j = i then (base, g') else P j) w2 := by
  have h1 := h.keeps k1 fun _ _ => id
  have hold : ∀ x l, o x = some l → (if base ≤ x ∧ x ≤ g' then some (4 + i) else o x) = some l := fun x l hx => by
    have := (h.lt x l hx).2
    rw [if_neg (by omega)]
    exact hx
  have hne : ∀ x l, o x = some l → l ≠ 2 → x ≠ mb := fun x l hx hl e => by
    rw [e, h.omap] at hx
    injection hx with hx
    exact hl hx.symm
  have hBw := (h.lt g 0 h.og)
  have hgl := hr.lt
  refine ⟨fun x l hx => ?_, h1.blk.keeps k2 (hne g 0 h.og (by omega)), hold g 0 h.og, h1.row.low k2 fun b a1 a2 => hne b 1 (h.orow b a1 a2) (by omega), fun b a1 a2 => hold b 1 (h.orow b a1 a2), hm.congr fun j _ => ?_, hold mb 2 h.omap, fun j r2 h2 => ?_, Kept.mono (h1.kept.keeps k2 fun b hb => hne b 3 hb (by omega)) (fun x hx => hold x 3 hx) fun x hx => ?_⟩
  · split at hx
    · have := k2.size
      omega
    · have := h1.lt x l hx
      have := k2.size
      omega
  · unfold putF ru
    by_cases hj : j = i
    · subst hj
      simp
    · simp [hj]
  · unfold ru at h2
    by_cases hj : j = i
    · subst hj
      rw [if_pos rfl] at h2
      injection h2 with h2
      subst h2
      refine ⟨hi, ?_, fun k a1 a2 => ?_⟩
      · simp only [if_true]
        exact hr.low k2 fun b a1 a2 e => by
          have := (h.lt mb 2 h.omap).2
          omega
      · simp only [if_true] at a1 a2 ⊢
        rw [if_pos ⟨a1, a2⟩]
    · rw [if_neg hj] at h2
      obtain ⟨a1, a2, a3⟩ := h1.rds j r2 h2
      refine ⟨a1, ?_, fun k b1 b2 => ?_⟩
      · simp only [if_neg hj]
        exact a2.low k2 fun b h1 h2 => hne b (4 + j) (a3 b h1 h2) (by omega)
      · simp only [if_neg hj] at b1 b2
        exact hold k (4 + j) (a3 k b1 b2)
  · split at hx
    · have := k2.size
      omega
    · have := h1.lt x 3 hx
      have := k2.size
      omega
/-- A new one, without blocks. -/
theorem Ln.start {B bb br : Nat} {s : BS} {w1 : World} (P : Nat → Nat × Nat) (hr : IsBr bb br s w1) (hB : B ≤ bb) :
    Ln (fun k => if k = w1.heap.size + 1 then some 0 else if k = w1.heap.size then some 2 else if bb ≤ k ∧ k ≤ br then some 1 else none) B (w1.heap.size + 1) s (fun _ => none) 0 0 br bb w1.heap.size (.map none) P ((w1.alloc (.map #[] 0)).alloc (.cells #[.pointer (some ⟨br, 0, none⟩), .map (some w1.heap.size), .map none, .int .i64 0] 107)) := by
  have hbl := hr.lt
  have hb0 := br_le hr
  have hk1 : Keeps (fun _ => False) w1 ((w1.alloc (.map #[] 0)).alloc (.cells #[.pointer (some ⟨br, 0, none⟩), .map (some w1.heap.size), .map none, .int .i64 0] 107)) := ((Keeps.refl _ _).alloc _).alloc _
  have hk2 : Keeps (fun _ => False) (w1.alloc (.map #[] 0)) ((w1.alloc (.map #[] 0)).alloc (.cells #[.pointer (some ⟨br, 0, none⟩), .map (some w1.heap.size), .map none, .int .i64 0] 107)) := (Keeps.refl _ _).alloc _
  have hsz : ((w1.alloc (.map #[] 0)).alloc (.cells #[.pointer (some ⟨br, 0, none⟩), .map (some w1.heap.size), .map none, .int .i64 0] 107)).heap.size = w1.heap.size + 2 := by simp
  have hsz1 : (w1.alloc (.map #[] 0)).heap.size = w1.heap.size + 1 := by simp
  refine ⟨fun x l hx => ?_, ?_, if_pos rfl, hr.low hk1 fun _ _ _ => id, fun k h1 h2 => ?_, ?_, ?_, fun i r h => (by cases h), ⟨fun k hk => ?_, .inl ?_⟩⟩
  · rw [hsz]
    split at hx
    · omega
    · split at hx
      · omega
      · split at hx
        · omega
        · cases hx
  · have := Blk.new (w1.alloc (.map #[] 0)) 107 #[.pointer (some ⟨br, 0, none⟩), .map (some w1.heap.size), .map none, .int .i64 0]
    rw [hsz1] at this
    exact this
  · rw [if_neg (by omega), if_neg (by omega), if_pos ⟨h1, h2⟩]
  · have := (IsF.new Tryz.prog 3 60001 ikl w1).keeps hk2 id
    exact this
  · simp
  · simp only at hk
    split at hk
    · cases hk
    · split at hk
      · cases hk
      · split at hk
        · cases hk
        · cases hk
  · rfl
set_option maxHeartbeats 8000000 in
set_option maxRecDepth 100000 in
theorem new_m (A : Option Addr) (n c : Nat) (xs : List Int) (b : Nat) (V : Nat → Option (List Int)) (fa : Nat → Option Addr) (fc : Nat → Nat) (w : World) (hx : xs.length = n) (hl : Lies w A xs) (hn : n ≤ 1000000) (hb : ∀ x ∈ xs, 0 ≤ x ∧ x < 256)
    (hm : IsF Tryz.prog 3 60001 ikl w b (fun i => (V i).map fun l => .slice (fa i) l.length (fc i))) (hV : ∀ i l, V i = some l → Lies w (fa i) l ∧ l.length ≤ 1000000 ∧ ∀ x ∈ l, 0 ≤ x ∧ x < 256) (hV0 : ∀ i, 60001 ≤ i → V i = none) :
    Calls Tryz.prog 22 #[.slice A n c, .map (some b)] w fun r w' => ∃ g F, r = .returned (.pointer (some ⟨g, 0, none⟩)) ∧ Lz w.heap.size g F ⟨xs, 0, false⟩ (fun i => (V i).map fun l => ⟨l, 0, 0⟩) 0 0 w' ∧ Keeps (fun _ => False) w w' := by
  obtain ⟨vv, hvv⟩ : ∃ vv : Nat → Option Value, (fun i => (V i).map fun l => .slice (fa i) l.length (fc i)) = vv := ⟨_, rfl⟩
  rw [hvv] at hm
  have HVV := Lib.hid hvv
  have HM := Lib.hid hm
  have HV := Lib.hid hV
  have HV0 := Lib.hid hV0
  have HR := Lib.hid (fun W (k : Keeps (fun _ => False) w W) => Br.read_n A n c xs W hx (hl.keeps k fun _ _ _ => id) hn hb)
  clear hvv hm hV hx hl hb hV0
  go_enter Tryz.func22, Tryz.ntmps22
  go_wp2_with fail
  refine (HR.out w (Keeps.refl _ _)).mono ?_
  rintro r w1 ⟨br, rfl, hr1, hk1⟩
  have HR1 := Lib.hid hr1
  have HK1 := Lib.hid hk1
  have hmm := @run_makeMap Tryz.prog
  clear hr1 hk1 HR
  go_upto_region 2 with fail
  have HL0 := Lib.hid (Ln.start (B := w.heap.size) (fun _ => (0, 0)) HR1.out (Nat.le_refl _))
  have HW0 : Hid (Keeps (fun _ => False) w1 ((w1.alloc (.map #[] 0)).alloc (.cells #[.pointer (some ⟨br, 0, none⟩), .map (some w1.heap.size), .map none, .int .i64 0] 107))) := ((Keeps.refl _ _).alloc _).alloc _
  generalize (w1.alloc (.map #[] 0)).alloc (.cells #[.pointer (some ⟨br, 0, none⟩), .map (some w1.heap.size), .map none, .int .i64 0] 107) = W at HL0 HW0 ⊢
  obtain ⟨o0, ho0⟩ : ∃ o0, (fun k => if k = w1.heap.size + 1 then some 0 else if k = w1.heap.size then some 2 else if w.heap.size ≤ k ∧ k ≤ br then some 1 else none) = o0 := ⟨_, rfl⟩
  rw [ho0] at HL0
  obtain ⟨g, hg⟩ : ∃ g, w1.heap.size + 1 = g := ⟨_, rfl⟩
  obtain ⟨mb, hmb⟩ : ∃ mb, w1.heap.size = mb := ⟨_, rfl⟩
  rw [hg] at HL0
  rw [hmb] at HL0
  rw [hg, hmb]
  have HKW := Lib.hid (HK1.out.trans HW0.out)
  have HM0 := Lib.hid (HM.out.keeps HKW.out id)
  have HBW := Lib.hid HM.out.lt
  clear ho0 hg hmb hmm
  go_upto_region 3 with (
    at_range
    refine wpList_range_f _ int_ks rfl _ _ rfl 29 Tryz.underlying28 b vv rfl HM0.out ?_
    intro w2 cn hrg2 hk2
    have HRG := Lib.hid hrg2
    have HL2 := Lib.hid (HL0.out.keeps hk2 fun _ _ => id)
    have HK2 := Lib.hid (HKW.out.trans hk2)
    clear hrg2 hk2)
  obtain ⟨r1, hr1⟩ : ∃ r1, W.heap.size = r1 := ⟨_, rfl⟩
  have HOR : Hid (o0 r1 = none) := by
    show o0 r1 = none
    cases ho : o0 r1 with
    | none => rfl
    | some l =>
      have := (HL0.out.lt r1 l ho).2
      omega
  have HWR : Hid (w.heap.size ≤ r1) := by have := HKW.out.size; show _ ≤ r1; omega
  rw [hr1] at HRG ⊢
  clear hr1 HM0 HL0
  go_frame
  go_loopw [6, 7] (fun _ _ wr => ∃ (seen : List Nat) (cn : Nat) (o : Nat → Option Nat) (P : Nat → Nat × Nat), Hid (RgF Tryz.prog 3 60001 ikl wr b r1 vv seen cn ∧ Ln o w.heap.size g ⟨xs, 0, false⟩ (fun i => if i ∈ seen then (V i).map fun l => ⟨l, 0, 0⟩ else none) 0 0 br w.heap.size mb (.map none) P wr ∧ o r1 = none ∧ Keeps (fun _ => False) w wr)) (fun _ _ wr => wr.rangeLeft b r1)
  case atStart => exact ⟨[], cn, o0, _, HRG.out, by simpa using HL2.out, HOR.out, HK2.out⟩
  case round =>
    clear HRG HL2 HOR HK2
    obtain ⟨seen, cn1, o, P, HI⟩ := hrel
    have HR := Lib.hid HI.out.1
    have HL := Lib.hid HI.out.2.1
    have HO := Lib.hid HI.out.2.2.1
    have HK := Lib.hid HI.out.2.2.2
    clear HI
    go_wp2_with (
      at_next
      refine wpList_next_f _ int_ks rfl _ rfl b r1 _ seen cn1 rfl HR.out ?_ ?_)
    · intro hall
      have HG : Hid ((fun i => if i ∈ seen then (V i).map fun l => (⟨l, 0, 0⟩ : RS) else none) = fun i => (V i).map fun l => ⟨l, 0, 0⟩) := by
        show _ = _
        funext i
        by_cases hs : i ∈ seen
        · rw [if_pos hs]
        · rw [if_neg hs]
          rcases Nat.lt_or_ge i 60001 with hi | hi
          · have : vv i = none := Classical.byContradiction fun h => hs (hall i hi h)
            rw [← HVV.out] at this
            cases hv : V i with
            | none => rfl
            | some l =>
              simp [hv] at this
          · rw [HV0.out i hi]
            rfl
      clear hall
      go_wp2_with fail
      go_ret
      have hl := HL.out
      rw [HG.out] at hl
      exact ⟨g, Ft o, rfl, ⟨o, br, w.heap.size, mb, _, P, hl, fun _ => Iff.rfl⟩, HK.out⟩
    · intro i v w7 cn7 hi hv hns hrg7 hlt7 hk7 hen
      obtain ⟨l, hl, rfl⟩ : ∃ l, V i = some l ∧ .slice (fa i) l.length (fc i) = v := by
        rw [← HVV.out] at hv
        simpa using hv
      obtain ⟨hvl, hvn, hvb⟩ := HV.out i l hl
      obtain ⟨ln, hln⟩ : ∃ ln, l.length = ln := ⟨_, rfl⟩
      have HL7 := Lib.hid (HL.out.keeps hk7 (fun k hk e => by rw [e, Ft, HO.out] at hk; exact hk rfl))
      have HK7 : Hid (Keeps (fun _ => False) w w7) := Lib.hid (keeps_low HK.out hk7 (fun z hz => by subst hz; exact HWR.out))
      have HR7 := Lib.hid hrg7
      have HLT : Hid (cn7 < wr.rangeLeft b r1) := by show _ < _; rw [HR.out.left_eq]; exact hlt7
      have HIR := Lib.hid (fun W (k : Keeps (fun _ => False) w7 W) => Ir.iread (fa i) ln (fc i) l W hln (hvl.keeps (HK7.out.trans k) fun _ _ _ => id) (by omega) hvb)
      have HGM : Hid (¬ g = mb) := by
        show ¬ g = mb
        intro e
        have h1 := HL7.out.og
        rw [e, HL7.out.omap] at h1
        cases h1
      have hc1 : w7.cell? ⟨g, 1, none⟩ = some (.map (some mb)) := HL7.out.blk.cell 1
      have HI := Lib.hid hi
      have HLI := Lib.hid hl
      have HNS := Lib.hid hns
      rw [hln] at hen ⊢
      clear hv hvl hvn hvb hln hrg7 hlt7 hk7 HR HL HK hi hl hns
      unfold ikv at hen ⊢
      go_upto_region 5 with fail
      go_region_held3 (fun w' => w'.cell? ⟨g, 1, none⟩ = some (.map (some mb))) (go_keep)
        ((have H := HIR; go_at_call 48; refine (H.out _ ((Keeps.refl _ _).drewN 1)).mono ?_; rintro e w8 ⟨g8, rfl, hr8, hk8'⟩; have hk8 : Keeps (fun _ => False) w7 w8 := hk8'.of_drew; obtain ⟨W9, hrun, hu9, hk9⟩ := Qi.IsF.update_run int_ks (HL7.out.keeps hk8 fun _ _ => id).map Tryz.underlying105 (by omega) HI.out (rd g8); have hcell9 : W9.cell? ⟨g, 1, none⟩ = some (.map (some mb)) := (hk9.cell (p := ⟨g, 1, none⟩) (Nat.lt_of_lt_of_le HL7.out.blk.lt hk8.size) HGM.out).trans ((HL7.out.keeps hk8 fun _ _ => id).blk.cell 1); have hcell8 : w8.cell? ⟨g, 1, none⟩ = some (.map (some mb)) := (HL7.out.keeps hk8 fun _ _ => id).blk.cell 1; have HRD8 := Lib.hid hr8; have HK8 := Lib.hid hk8; have HU9 := Lib.hid hu9; have HK9 := Lib.hid hk9; unfold ikv at hrun; clear hr8 hk8 hk8' hu9 hk9 HIR))
      have hG : (fun i => if i ∈ seen then (V i).map fun l => (⟨l, 0, 0⟩ : RS) else none) i = none := if_neg HNS.out
      have hl9 := HL7.out.add HI.out hG HK8.out HRD8.out (Nat.le_refl _) HK9.out HU9.out
      have hru : ru (fun i => if i ∈ seen then (V i).map fun l => (⟨l, 0, 0⟩ : RS) else none) i ⟨l, 0, 0⟩ = fun j => if j ∈ seen ++ [i] then (V j).map fun l => ⟨l, 0, 0⟩ else none := by
        funext j
        unfold ru
        by_cases e : j = i
        · subst e
          rw [if_pos rfl, if_pos (by simp), HLI.out]
          rfl
        · rw [if_neg e]
          have : j ∈ seen ++ [i] ↔ j ∈ seen := by simp [e]
          simp only [this]
      rw [hru] at hl9
      have hmb := (HL7.out.lt mb 2 HL7.out.omap)
      have hr1m : r1 ≠ mb := fun e => by
        have h1 := HO.out
        rw [e, HL7.out.omap] at h1
        cases h1
      have HR9 := Lib.hid ((HR7.out.keeps HK8.out id id).keeps HK9.out (fun e => by have := HBW.out; omega) hr1m)
      have HL9 := Lib.hid hl9
      have HO9 : Hid ((fun k => if w7.drew.heap.size ≤ k ∧ k ≤ g8 then some (4 + i) else o k) r1 = none) := by
        show (if w7.drew.heap.size ≤ r1 ∧ r1 ≤ g8 then some (4 + i) else o r1) = none
        rw [if_neg (fun h => by have h1 := HR7.out.lt; have h2 : w7.drew.heap.size = w7.heap.size := rfl; omega)]
        exact HO.out
      have HK10 : Hid (Keeps (fun _ => False) w W9) := Lib.hid (keeps_low (HK7.out.trans HK8.out) HK9.out (fun z hz => by subst hz; exact hmb.1))
      clear hG hl9 hru hmb hr1m
      go_roundw
      case rel =>
        exact ⟨_, _, _, _, _, _, _, _, _, _, _, _, _, _, ⟨seen ++ [i], cn7, _, _, HR9.out, HL9.out, HO9.out, HK10.out⟩, rfl⟩
      case measure =>
        exact Nat.lt_of_le_of_lt (Nat.le_of_eq HR9.out.left_eq) HLT.out
set_option maxHeartbeats 8000000 in
set_option maxRecDepth 100000 in
theorem new_nil (A : Option Addr) (n c : Nat) (xs : List Int) (w : World) (hx : xs.length = n) (hl : Lies w A xs) (hn : n ≤ 1000000) (hb : ∀ x ∈ xs, 0 ≤ x ∧ x < 256) :
    Calls Tryz.prog 22 #[.slice A n c, .map none] w fun r w' => ∃ g F, r = .returned (.pointer (some ⟨g, 0, none⟩)) ∧ Lz w.heap.size g F ⟨xs, 0, false⟩ (fun _ => none) 0 0 w' ∧ Keeps (fun _ => False) w w' := by
  have HR := Lib.hid (fun W (k : Keeps (fun _ => False) w W) => Br.read_n A n c xs W hx (hl.keeps k fun _ _ _ => id) hn hb)
  clear hx hl hb
  go_enter Tryz.func22, Tryz.ntmps22
  go_wp2_with fail
  refine (HR.out w (Keeps.refl _ _)).mono ?_
  rintro r w1 ⟨br, rfl, hr1, hk1⟩
  have HR1 := Lib.hid hr1
  have HK1 := Lib.hid hk1
  have hmm := @run_makeMap Tryz.prog
  clear hr1 hk1 HR
  go_upto_region 2 with fail
  have HL0 := Lib.hid (Ln.start (B := w.heap.size) (fun _ => (0, 0)) HR1.out (Nat.le_refl _))
  have HW0 : Hid (Keeps (fun _ => False) w1 ((w1.alloc (.map #[] 0)).alloc (.cells #[.pointer (some ⟨br, 0, none⟩), .map (some w1.heap.size), .map none, .int .i64 0] 107))) := ((Keeps.refl _ _).alloc _).alloc _
  generalize (w1.alloc (.map #[] 0)).alloc (.cells #[.pointer (some ⟨br, 0, none⟩), .map (some w1.heap.size), .map none, .int .i64 0] 107) = W at HL0 HW0 ⊢
  obtain ⟨o0, ho0⟩ : ∃ o0, (fun k => if k = w1.heap.size + 1 then some 0 else if k = w1.heap.size then some 2 else if w.heap.size ≤ k ∧ k ≤ br then some 1 else none) = o0 := ⟨_, rfl⟩
  rw [ho0] at HL0
  obtain ⟨g, hg⟩ : ∃ g, w1.heap.size + 1 = g := ⟨_, rfl⟩
  obtain ⟨mb, hmb⟩ : ∃ mb, w1.heap.size = mb := ⟨_, rfl⟩
  rw [hg] at HL0
  rw [hmb] at HL0
  rw [hg, hmb]
  have HKW := Lib.hid (HK1.out.trans HW0.out)
  have hrn := run_range_nilMap (P := Tryz.prog) W 28 3 29 Tryz.underlying28
  have hnx := fun ty => run_next_nilMap (P := Tryz.prog) W ty 0 0 #[]
  have HKF : Hid (Keeps (fun _ => False) W (W.alloc (.mapIter none 0 #[] 0))) := (Keeps.refl _ _).alloc _
  clear ho0 hg hmb hmm
  go_wp2
  go_loopw [6] (fun _ wr => wr = W.alloc (.mapIter none 0 #[] 0)) (fun _ _ => 0)
  case atStart => rfl
  case round =>
    subst hrel
    go_wp2
    go_ret
    exact ⟨g, Ft o0, rfl, ⟨o0, br, w.heap.size, mb, _, _, HL0.out.keeps HKF.out fun _ _ => id, fun _ => Iff.rfl⟩, HKW.out.trans HKF.out⟩
end Go.Proofs.YtgaofnmgdefdcaaGreatDoor.Le

namespace Go.Proofs.YtgaofnmgdefdcaaGreatDoor.Le
open Go.RowKit Go.Proofs.YtgaofnmgdefdcaaGreatDoor.Gen Go.Proofs.YtgaofnmgdefdcaaGreatDoor.Mp Go.Proofs.YtgaofnmgdefdcaaGreatDoor.Cm Go.Proofs.YtgaofnmgdefdcaaGreatDoor.Hr Go.Proofs.YtgaofnmgdefdcaaGreatDoor.Hn Go.Proofs.YtgaofnmgdefdcaaGreatDoor.Hk Go.Proofs.YtgaofnmgdefdcaaGreatDoor.Ln Go.Proofs.YtgaofnmgdefdcaaGreatDoor.Ds Go.Proofs.YtgaofnmgdefdcaaGreatDoor.Ky Go.Proofs.YtgaofnmgdefdcaaGreatDoor.Wr Go.Proofs.YtgaofnmgdefdcaaGreatDoor.Ir Go.Proofs.YtgaofnmgdefdcaaGreatDoor.Br Go.Proofs.YtgaofnmgdefdcaaGreatDoor.Qh Go.Proofs.YtgaofnmgdefdcaaGreatDoor.Qs Go.Proofs.YtgaofnmgdefdcaaGreatDoor.Qf Go.Proofs.YtgaofnmgdefdcaaGreatDoor.Qc Go.Proofs.YtgaofnmgdefdcaaGreatDoor.Qk

theorem key_cell {w : World} {base n c j N : Nat} {A : Option Addr} {val : Nat → Option Value} (h : w.ownsRow base 3 1 (.slice A n c) n ((numZ val N).map encZ)) (hn : (nums val N).length = n) (hj : j < n) :
    ∃ g, A = some ⟨g, 0, none⟩ ∧ w.cell? ⟨g, j, none⟩ = some (.int .i64 (((nums val N).getD j 0 : Nat) : Int)) ∧ base ≤ g ∧ g < w.heap.size := by
  rcases h.2 with ⟨h1, hn1⟩ | ⟨g, cap, cur, hv, hb', hh, _⟩
  · omega
  · injection hv with hv _ _
    subst hv
    have hlt := (show Blk w g 3 cur from hh).lt
    have hat : ((numZ val N).map encZ)[j]? = some (.int .i64 (((nums val N).getD j 0 : Nat) : Int)) := by
      unfold numZ
      rw [List.map_map, List.getElem?_map, List.getD_eq_getElem?_getD, List.getElem?_eq_getElem (by omega)]
      rfl
    have hc := h.cells (g := g) rfl j _ hat
    rw [add_none, Nat.zero_add] at hc
    exact ⟨g, rfl, hc, hb', hlt⟩
theorem field_ir (g' : Nat) (w : World) : (Instr.field 110 (.agg #[.pointer (some ⟨g', 0, none⟩)]) 0).run Tryz.prog w = .ok (.pointer (some ⟨g', 0, none⟩)) w := by
  simp [go_sem, Instr.field, asAgg]
/-- What End answers. -/
def EndR (s : BS) (G : Rs) (e E : Int) : Prop :=
  (e ≠ 0 ∧ E = e) ∨ (e = 0 ∧ s.fin ≠ 0 ∧ E = s.fin) ∨ (e = 0 ∧ s.fin = 0 ∧ ((E = 0 ∧ ∀ i r, G i = some r → r.fin = 0) ∨ ∃ i r, G i = some r ∧ r.fin ≠ 0 ∧ E = r.fin))

set_option maxHeartbeats 8000000 in
set_option maxRecDepth 100000 in
theorem end_z {B g N : Nat} {F : Nat → Prop} {s : BS} {G : Rs} {er : Int} (w : World) (h : Lz B g F s G N er w) :
    Calls Tryz.prog 27 #[.pointer (some ⟨g, 0, none⟩)] w fun r w' => ∃ E, r = .returned (.int .i64 E) ∧ EndR s G er E ∧ Keeps (fun _ => False) w w' := by
  have HE := Lib.hid (err_ w h)
  by_cases h0 : er = 0
  · subst h0
    obtain ⟨o, br, bb, mb, mc, P, hln, hF⟩ := h
    have hc0 := hln.blk.cell 0
    have hc1 := hln.blk.cell 1
    simp only [List.getElem?_toArray, List.getElem?_cons_zero, List.getElem?_cons_succ] at hc0 hc1
    have HBE := Lib.hid (Br.end_ br s bb w hln.row)
    have HLN := Lib.hid hln
    have HR0 : Hid (∀ E, s.fin ≠ 0 → E = s.fin → EndR s G 0 E) := fun E h1 h2 => .inr (.inl ⟨rfl, h1, h2⟩)
    have HR1 : Hid (s.fin = 0 → (∀ i r, G i = some r → r.fin = 0) → EndR s G 0 0) := fun h1 h2 => .inr (.inr ⟨rfl, h1, .inl ⟨rfl, h2⟩⟩)
    have HR2 : Hid (∀ i r, s.fin = 0 → G i = some r → r.fin ≠ 0 → EndR s G 0 r.fin) := fun i r h1 h2 h3 => .inr (.inr ⟨rfl, h1, .inr ⟨i, r, h2, h3, rfl⟩⟩)
    generalize EndR s G 0 = R at HR0 HR1 HR2 ⊢
    obtain ⟨fi, hfi⟩ : ∃ fi, s.fin = fi := ⟨_, rfl⟩
    rw [hfi] at HBE HR0 HR1 HR2
    clear hln hF hfi
    go_enter Tryz.func27, Tryz.ntmps27
    go_wp2_with fail
    refine HE.out.mono ?_
    rintro r w1 ⟨rfl, hw1⟩
    rw [hw1]
    clear HE hw1
    go_wp2_with fail
    refine HBE.out.mono ?_
    rintro r w1 ⟨rfl, nd, rfl⟩
    clear HBE
    have HK1 : Hid (Keeps (fun _ => False) w (w.drewN nd)) := (Keeps.refl _ _).drewN nd
    by_cases hf : fi = 0
    · subst hf
      have HK := Lib.hid keysB
      have HLN1 := Lib.hid (HLN.out.keeps HK1.out fun _ _ => id)
      have hk2 := HK1.out.alloc (.cells #[.map (some mb)] 105)
      have HS := Lib.hid (sortedB int_ks (fun i _ => rfl) (by omega) (w.drewN nd).heap.size mb (fun i => (G i).map fun _ => rd (P i).2) ((w.drewN nd).alloc (.cells #[.map (some mb)] 105)) (by simp) ((Blk.new (w.drewN nd) 105 #[.map (some mb)]).cell 0) (HLN.out.map.keeps hk2 id))
      have HK2 := Lib.hid hk2
      obtain ⟨l, hl⟩ : ∃ l, nums (fun i => (G i).map fun _ => rd (P i).2) 60001 = l := ⟨_, rfl⟩
      obtain ⟨n, hn⟩ : ∃ n, l.length = n := ⟨_, rfl⟩
      have HL := Lib.hid hl
      have HN := Lib.hid hn
      rw [hl, hn] at HS
      clear hk2 hl hn
      go_wp2_with (first
        | (go_at_call 52; refine (HK.out (some mb) _).mono ?_; rintro r w1 ⟨rfl, rfl⟩)
        | (have H := HS; go_at_call 43; refine H.out.mono ?_; rintro r w2 ⟨v2, rfl, ho2, hk2⟩; obtain ⟨A2, c2, rfl, hle2⟩ := own_form ho2; have HK3 := Lib.hid (HK2.out.trans hk2); have HO := Lib.hid ho2; clear hk2 ho2 HS))
      have HN1 : Hid (n ≤ 60001) := by
        have h1 := HN.out
        rw [← HL.out] at h1
        have h2 : (nums (fun i => (G i).map fun _ => rd (P i).2) 60001).length ≤ 60001 := Nat.le_trans (List.length_filter_le _ _) (by simp)
        show n ≤ 60001
        omega
      clear hc0 HLN1
      go_loopw [28] (fun iv wr => ∃ j : Nat, iv = .int .i64 (j : Int) ∧ j ≤ n ∧ Hid (Keeps (fun _ => False) w2 wr ∧ ∀ k, k < j → ∀ r, G (l.getD k 0) = some r → r.fin = 0)) (fun iv _ => n - (intOf iv).toNat)
      case atStart => exact ⟨0, rfl, by omega, Keeps.refl _ _, fun k hk => by omega⟩
      case round =>
        obtain ⟨j, rfl, hj, HI⟩ := hrel
        by_cases hlt : j < n
        · obtain ⟨gk, rfl, hck, hbk, hlk⟩ := key_cell HO.out (by rw [HL.out]; exact HN.out) hlt
          rw [HL.out] at hck
          obtain ⟨i, hi⟩ : ∃ i, l.getD j 0 = i := ⟨_, rfl⟩
          rw [hi] at hck
          have hm : i ∈ l := by
            rw [← hi, List.getD_eq_getElem?_getD, List.getElem?_eq_getElem (by have := HN.out; omega)]
            exact List.getElem_mem _
          obtain ⟨hi1, hi2⟩ := nums_mem.1 (by rw [HL.out]; exact hm : i ∈ nums (fun i => (G i).map fun _ => rd (P i).2) 60001)
          obtain ⟨r, hr⟩ : ∃ r, G i = some r := by
            cases hG : G i with
            | none => exact absurd (by simp [hG]) hi2
            | some r => exact ⟨r, rfl⟩
          have hkW : Keeps (fun _ => False) w wr := HK3.out.trans HI.out.1
          have hlr := HLN.out.keeps hkW fun _ _ => id
          have hc1r : wr.cell? ⟨g, 1, none⟩ = some (.map (some mb)) := hlr.blk.cell 1
          have hckr : wr.cell? ⟨gk, j, none⟩ = some (.int .i64 (i : Int)) := (HI.out.1.cell (p := ⟨gk, j, none⟩) hlk id).trans hck
          have hlk2 := ((hlr.map.look int_ks Tryz.underlying105 (zero_ir wr) hi1).1 (rd (P i).2) (by rw [hr]; rfl)).1
          unfold ikv rd at hlk2
          obtain ⟨g', hg'⟩ : ∃ g', (P i).2 = g' := ⟨_, rfl⟩
          rw [hg'] at hlk2
          have HEN := Lib.hid (Wr.end_ (P i).2 r (P i).1 wr (hlr.rds i r hr).2.1)
          rw [hg'] at HEN
          have hfld := field_ir g'
          have hj0 : (0 : Int) ≤ (j : Int) := by omega
          have hj1 : (j : Int) < (n : Int) := by omega
          have hjw : IntKind.i64.wrap ((j : Int) + 1) = (j : Int) + 1 := IntWalk.i64_in _ (by have := HN1.out; omega)
          have HII := Lib.hid hi
          have HRI := Lib.hid hr
          clear hi hm hi1 hi2 hr hlr hg' hkW
          go_wp2_with fail
          refine HEN.out.mono ?_
          rintro r2 w5 ⟨rfl, nd2, rfl⟩
          clear HEN
          by_cases hf : r.fin = 0
          · rw [hf]
            go_wp2
            refine ⟨⟨j + 1, by go_num, by omega, HI.out.1.drewN nd2, fun k hk r3 h3 => ?_⟩, by simp [intOf]; omega⟩
            rcases Nat.lt_or_ge k j with hkj | hkj
            · exact HI.out.2 k hkj r3 h3
            · obtain rfl : k = j := by omega
              rw [HII.out, HRI.out] at h3
              injection h3 with h3
              rw [← h3]
              exact hf
          · have hne : (r.fin != 0) = true := by simpa using hf
            go_wp2
            go_ret
            exact ⟨r.fin, rfl, HR2.out i r trivial HRI.out hf, (HK3.out.trans HI.out.1).drewN nd2⟩
        · obtain rfl : j = n := by omega
          go_wp2
          go_ret
          refine ⟨0, rfl, HR1.out trivial fun i r hi => ?_, HK3.out.trans HI.out.1⟩
          have hm : i ∈ l := by
            rw [← HL.out, nums_mem]
            exact ⟨(HLN.out.rds i r hi).1, by rw [hi]; simp⟩
          obtain ⟨k, hk, hke⟩ := List.getElem_of_mem hm
          have h1 := HN.out
          refine HI.out.2 k (by omega) r ?_
          rw [List.getD_eq_getElem?_getD, List.getElem?_eq_getElem hk]
          rw [show (some l[k]).getD 0 = l[k] from rfl, hke]
          exact hi
    · have hne : (fi != 0) = true := by simpa using hf
      go_wp2
      go_ret
      exact ⟨fi, rfl, HR0.out fi hf rfl, HK1.out⟩
  · have hne : (er != 0) = true := by simpa using h0
    clear h
    go_enter Tryz.func27, Tryz.ntmps27
    go_wp2_with fail
    refine HE.out.mono ?_
    rintro r w1 ⟨rfl, rfl⟩
    go_wp2
    go_ret
    exact ⟨er, rfl, .inl ⟨h0, rfl⟩, Keeps.refl _ _⟩
end Go.Proofs.YtgaofnmgdefdcaaGreatDoor.Le

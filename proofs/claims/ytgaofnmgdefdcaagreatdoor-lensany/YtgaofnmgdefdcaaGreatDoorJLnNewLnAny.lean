/- lens: New: of a row of bits, and of blocks. -/
/- The fixed fact of layer 11. The condition: strconv's table of tens reads as its text lays it. -/
/- The walk of LensAny: any bits, any blocks, any ways. The condition: strconv's table of tens reads as its text lays it. -/
import Derived.Test.YtgaofnmgdefdcaaGreatDoorJLnActLnArr
import Derived.Test.YtgaofnmgdefdcaaGreatDoorJQlArrLnEnd
import Derived.Test.YtgaofnmgdefdcaaGreatDoorJLnAnPLnAnM

namespace Go.Proofs.YtgaofnmgdefdcaaGreatDoor.Le
open Go.RowKit Go.Proofs.YtgaofnmgdefdcaaGreatDoor.Gen Go.Proofs.YtgaofnmgdefdcaaGreatDoor.Mp Go.Proofs.YtgaofnmgdefdcaaGreatDoor.Cm Go.Proofs.YtgaofnmgdefdcaaGreatDoor.Hr Go.Proofs.YtgaofnmgdefdcaaGreatDoor.Hn Go.Proofs.YtgaofnmgdefdcaaGreatDoor.Hk Go.Proofs.YtgaofnmgdefdcaaGreatDoor.Ln Go.Proofs.YtgaofnmgdefdcaaGreatDoor.Ds Go.Proofs.YtgaofnmgdefdcaaGreatDoor.Ky Go.Proofs.YtgaofnmgdefdcaaGreatDoor.Wr Go.Proofs.YtgaofnmgdefdcaaGreatDoor.Ir Go.Proofs.YtgaofnmgdefdcaaGreatDoor.Br Go.Proofs.YtgaofnmgdefdcaaGreatDoor.Qh Go.Proofs.YtgaofnmgdefdcaaGreatDoor.Qs Go.Proofs.YtgaofnmgdefdcaaGreatDoor.Qf Go.Proofs.YtgaofnmgdefdcaaGreatDoor.Qc

/-- What only new blocks turn in. -/
theorem keeps_low {w wr w1 : World} {S : Nat → Prop} (h : Keeps (fun _ => False) w wr) (k : Keeps S wr w1) (hw : ∀ x, S x → w.heap.size ≤ x) : Keeps (fun _ => False) w w1 :=
  ⟨k.os.trans h.os, k.tape.trans h.tape, k.output.trans h.output, Nat.le_trans h.size k.size, fun x hx hn => (k.block x (Nat.lt_of_lt_of_le hx h.size) (fun hs => by have := hw x hs; omega)).trans (h.block x hx hn)⟩
/-- A block's Reader is added. -/
theorem Ln.add {o : Nat → Option Nat} {B g N br bb mb i base g' : Nat} {s : BS} {G : Rs} {e : Int} {mc : Value} {P : Nat → Nat × Nat} {w w1 w2 : World} {r : RS} (h : Ln o B g s G N e br bb mb mc P w) (hi : i < 60001) (hG : G i = none)
    (k1 : Keeps (fun _ => False) w w1) (hr : IsRd base g' r w1) (hb : w.heap.size ≤ base) (k2 : Keeps (· = mb) w1 w2) (hm : IsF Tryz.prog 3 60001 ikl w2 mb (putF (fun i => (G i).map fun _ => rd (P i).2) i (rd g'))) :
    Ln (fun k => if base ≤ k ∧ k ≤ g' then some (4 + i) else o k) B g s (ru G i r) N e br bb mb mc (fun j => if j = i then (base, g') else P j) w2 := by
  have h1 := h.keeps k1 fun _ _ => id
  have hold : ∀ x l, o x = some l → (if base ≤ x ∧ x ≤ g' then some (4 + i) else o x) = some l := fun x l hx => by
    have := (h.lt x l hx).2
    rw [if_neg (by omega)]
    exact hx
  have hne : ∀ x l, o x = some l → l ≠ 2 → x ≠ mb := fun x l hx hl e => by
    rw [e, h.omap] at hx
    injection hx with hx
    exact hl hx.symm
  have hBw := (h.lt g 0 h.og)
  have hgl := hr.lt
  refine ⟨fun x l hx => ?_, h1.blk.keeps k2 (hne g 0 h.og (by omega)), hold g 0 h.og, h1.row.low k2 fun b a1 a2 => hne b 1 (h.orow b a1 a2) (by omega), fun b a1 a2 => hold b 1 (h.orow b a1 a2), hm.congr fun j _ => ?_, hold mb 2 h.omap, fun j r2 h2 => ?_, Kept.mono (h1.kept.keeps k2 fun b hb => hne b 3 hb (by omega)) (fun x hx => hold x 3 hx) fun x hx => ?_⟩
  · split at hx
    · have := k2.size
      omega
    · have := h1.lt x l hx
      have := k2.size
      omega
  · unfold putF ru
    by_cases hj : j = i
    · subst hj
      simp
    · simp [hj]
  · unfold ru at h2
    by_cases hj : j = i
    · subst hj
      rw [if_pos rfl] at h2
      injection h2 with h2
      subst h2
      refine ⟨hi, ?_, fun k a1 a2 => ?_⟩
      · simp only [if_true]
        exact hr.low k2 fun b a1 a2 e => by
          have := (h.lt mb 2 h.omap).2
          omega
      · simp only [if_true] at a1 a2 ⊢
        rw [if_pos ⟨a1, a2⟩]
    · rw [if_neg hj] at h2
      obtain ⟨a1, a2, a3⟩ := h1.rds j r2 h2
      refine ⟨a1, ?_, fun k b1 b2 => ?_⟩
      · simp only [if_neg hj]
        exact a2.low k2 fun b h1 h2 => hne b (4 + j) (a3 b h1 h2) (by omega)
      · simp only [if_neg hj] at b1 b2
        exact hold k (4 + j) (a3 k b1 b2)
  · split at hx
    · have := k2.size
      omega
    · have := h1.lt x 3 hx
      have := k2.size
      omega
/-- A new one, without blocks. -/
theorem Ln.start {B bb br : Nat} {s : BS} {w1 : World} (P : Nat → Nat × Nat) (hr : IsBr bb br s w1) (hB : B ≤ bb) :
    Ln (fun k => if k = w1.heap.size + 1 then some 0 else if k = w1.heap.size then some 2 else if bb ≤ k ∧ k ≤ br then some 1 else none) B (w1.heap.size + 1) s (fun _ => none) 0 0 br bb w1.heap.size (.map none) P ((w1.alloc (.map #[] 0)).alloc (.cells #[.pointer (some ⟨br, 0, none⟩), .map (some w1.heap.size), .map none, .int .i64 0] 107)) := by
  have hbl := hr.lt
  have hb0 := br_le hr
  have hk1 : Keeps (fun _ => False) w1 ((w1.alloc (.map #[] 0)).alloc (.cells #[.pointer (some ⟨br, 0, none⟩), .map (some w1.heap.size), .map none, .int .i64 0] 107)) := ((Keeps.refl _ _).alloc _).alloc _
  have hk2 : Keeps (fun _ => False) (w1.alloc (.map #[] 0)) ((w1.alloc (.map #[] 0)).alloc (.cells #[.pointer (some ⟨br, 0, none⟩), .map (some w1.heap.size), .map none, .int .i64 0] 107)) := (Keeps.refl _ _).alloc _
  have hsz : ((w1.alloc (.map #[] 0)).alloc (.cells #[.pointer (some ⟨br, 0, none⟩), .map (some w1.heap.size), .map none, .int .i64 0] 107)).heap.size = w1.heap.size + 2 := by simp
  have hsz1 : (w1.alloc (.map #[] 0)).heap.size = w1.heap.size + 1 := by simp
  refine ⟨fun x l hx => ?_, ?_, if_pos rfl, hr.low hk1 fun _ _ _ => id, fun k h1 h2 => ?_, ?_, ?_, fun i r h => (by cases h), ⟨fun k hk => ?_, .inl ?_⟩⟩
  · rw [hsz]
    split at hx
    · omega
    · split at hx
      · omega
      · split at hx
        · omega
        · cases hx
  · have := Blk.new (w1.alloc (.map #[] 0)) 107 #[.pointer (some ⟨br, 0, none⟩), .map (some w1.heap.size), .map none, .int .i64 0]
    rw [hsz1] at this
    exact this
  · rw [if_neg (by omega), if_neg (by omega), if_pos ⟨h1, h2⟩]
  · have := (IsF.new Tryz.prog 3 60001 ikl w1).keeps hk2 id
    exact this
  · simp
  · simp only at hk
    split at hk
    · cases hk
    · split at hk
      · cases hk
      · split at hk
        · cases hk
        · cases hk
  · rfl
set_option maxHeartbeats 8000000 in
set_option maxRecDepth 100000 in
theorem new_m (A : Option Addr) (n c : Nat) (xs : List Int) (b : Nat) (V : Nat → Option (List Int)) (fa : Nat → Option Addr) (fc : Nat → Nat) (w : World) (hx : xs.length = n) (hl : Lies w A xs) (hn : n ≤ 1000000) (hb : ∀ x ∈ xs, 0 ≤ x ∧ x < 256)
    (hm : IsF Tryz.prog 3 60001 ikl w b (fun i => (V i).map fun l => .slice (fa i) l.length (fc i))) (hV : ∀ i l, V i = some l → Lies w (fa i) l ∧ l.length ≤ 1000000 ∧ ∀ x ∈ l, 0 ≤ x ∧ x < 256) (hV0 : ∀ i, 60001 ≤ i → V i = none) :
    Calls Tryz.prog 22 #[.slice A n c, .map (some b)] w fun r w' => ∃ g F, r = .returned (.pointer (some ⟨g, 0, none⟩)) ∧ Lz w.heap.size g F ⟨xs, 0, false⟩ (fun i => (V i).map fun l => ⟨l, 0, 0⟩) 0 0 w' ∧ Keeps (fun _ => False) w w' := by
  obtain ⟨vv, hvv⟩ : ∃ vv : Nat → Option Value, (fun i => (V i).map fun l => .slice (fa i) l.length (fc i)) = vv := ⟨_, rfl⟩
  rw [hvv] at hm
  have HVV := Lib.hid hvv
  have HM := Lib.hid hm
  have HV := Lib.hid hV
  have HV0 := Lib.hid hV0
  have HR := Lib.hid (fun W (k : Keeps (fun _ => False) w W) => Br.read_n A n c xs W hx (hl.keeps k fun _ _ _ => id) hn hb)
  clear hvv hm hV hx hl hb hV0
  go_enter Tryz.func22, Tryz.ntmps22
  go_wp2_with fail
  refine (HR.out w (Keeps.refl _ _)).mono ?_
  rintro r w1 ⟨br, rfl, hr1, hk1⟩
  have HR1 := Lib.hid hr1
  have HK1 := Lib.hid hk1
  have hmm := @run_makeMap Tryz.prog
  clear hr1 hk1 HR
  go_upto_region 2 with fail
  have HL0 := Lib.hid (Ln.start (B := w.heap.size) (fun _ => (0, 0)) HR1.out (Nat.le_refl _))
  have HW0 : Hid (Keeps (fun _ => False) w1 ((w1.alloc (.map #[] 0)).alloc (.cells #[.pointer (some ⟨br, 0, none⟩), .map (some w1.heap.size), .map none, .int .i64 0] 107))) := ((Keeps.refl _ _).alloc _).alloc _
  generalize (w1.alloc (.map #[] 0)).alloc (.cells #[.pointer (some ⟨br, 0, none⟩), .map (some w1.heap.size), .map none, .int .i64 0] 107) = W at HL0 HW0 ⊢
  obtain ⟨o0, ho0⟩ : ∃ o0, (fun k => if k = w1.heap.size + 1 then some 0 else if k = w1.heap.size then some 2 else if w.heap.size ≤ k ∧ k ≤ br then some 1 else none) = o0 := ⟨_, rfl⟩
  rw [ho0] at HL0
  obtain ⟨g, hg⟩ : ∃ g, w1.heap.size + 1 = g := ⟨_, rfl⟩
  obtain ⟨mb, hmb⟩ : ∃ mb, w1.heap.size = mb := ⟨_, rfl⟩
  rw [hg] at HL0
  rw [hmb] at HL0
  rw [hg, hmb]
  have HKW := Lib.hid (HK1.out.trans HW0.out)
  have HM0 := Lib.hid (HM.out.keeps HKW.out id)
  have HBW := Lib.hid HM.out.lt
  clear ho0 hg hmb hmm
  go_upto_region 3 with (
    at_range
    refine wpList_range_f _ int_ks rfl _ _ rfl 29 Tryz.underlying28 b vv rfl HM0.out ?_
    intro w2 cn hrg2 hk2
    have HRG := Lib.hid hrg2
    have HL2 := Lib.hid (HL0.out.keeps hk2 fun _ _ => id)
    have HK2 := Lib.hid (HKW.out.trans hk2)
    clear hrg2 hk2)
  obtain ⟨r1, hr1⟩ : ∃ r1, W.heap.size = r1 := ⟨_, rfl⟩
  have HOR : Hid (o0 r1 = none) := by
    show o0 r1 = none
    cases ho : o0 r1 with
    | none => rfl
    | some l =>
      have := (HL0.out.lt r1 l ho).2
      omega
  have HWR : Hid (w.heap.size ≤ r1) := by have := HKW.out.size; show _ ≤ r1; omega
  rw [hr1] at HRG ⊢
  clear hr1 HM0 HL0
  go_frame
  go_loopw [6, 7] (fun _ _ wr => ∃ (seen : List Nat) (cn : Nat) (o : Nat → Option Nat) (P : Nat → Nat × Nat), Hid (RgF Tryz.prog 3 60001 ikl wr b r1 vv seen cn ∧ Ln o w.heap.size g ⟨xs, 0, false⟩ (fun i => if i ∈ seen then (V i).map fun l => ⟨l, 0, 0⟩ else none) 0 0 br w.heap.size mb (.map none) P wr ∧ o r1 = none ∧ Keeps (fun _ => False) w wr)) (fun _ _ wr => wr.rangeLeft b r1)
  case atStart => exact ⟨[], cn, o0, _, HRG.out, by simpa using HL2.out, HOR.out, HK2.out⟩
  case round =>
    clear HRG HL2 HOR HK2
    obtain ⟨seen, cn1, o, P, HI⟩ := hrel
    have HR := Lib.hid HI.out.1
    have HL := Lib.hid HI.out.2.1
    have HO := Lib.hid HI.out.2.2.1
    have HK := Lib.hid HI.out.2.2.2
    clear HI
    go_wp2_with (
      at_next
      refine wpList_next_f _ int_ks rfl _ rfl b r1 _ seen cn1 rfl HR.out ?_ ?_)
    · intro hall
      have HG : Hid ((fun i => if i ∈ seen then (V i).map fun l => (⟨l, 0, 0⟩ : RS) else none) = fun i => (V i).map fun l => ⟨l, 0, 0⟩) := by
        show _ = _
        funext i
        by_cases hs : i ∈ seen
        · rw [if_pos hs]
        · rw [if_neg hs]
          rcases Nat.lt_or_ge i 60001 with hi | hi
          · have : vv i = none := Classical.byContradiction fun h => hs (hall i hi h)
            rw [← HVV.out] at this
            cases hv : V i with
            | none => rfl
            | some l =>
              simp [hv] at this
          · rw [HV0.out i hi]
            rfl
      clear hall
      go_wp2_with fail
      go_ret
      have hl := HL.out
      rw [HG.out] at hl
      exact ⟨g, Ft o, rfl, ⟨o, br, w.heap.size, mb, _, P, hl, fun _ => Iff.rfl⟩, HK.out⟩
    · intro i v w7 cn7 hi hv hns hrg7 hlt7 hk7 hen
      obtain ⟨l, hl, rfl⟩ : ∃ l, V i = some l ∧ .slice (fa i) l.length (fc i) = v := by
        rw [← HVV.out] at hv
        simpa using hv
      obtain ⟨hvl, hvn, hvb⟩ := HV.out i l hl
      obtain ⟨ln, hln⟩ : ∃ ln, l.length = ln := ⟨_, rfl⟩
      have HL7 := Lib.hid (HL.out.keeps hk7 (fun k hk e => by rw [e, Ft, HO.out] at hk; exact hk rfl))
      have HK7 : Hid (Keeps (fun _ => False) w w7) := Lib.hid (keeps_low HK.out hk7 (fun z hz => by subst hz; exact HWR.out))
      have HR7 := Lib.hid hrg7
      have HLT : Hid (cn7 < wr.rangeLeft b r1) := by show _ < _; rw [HR.out.left_eq]; exact hlt7
      have HIR := Lib.hid (fun W (k : Keeps (fun _ => False) w7 W) => Ir.iread (fa i) ln (fc i) l W hln (hvl.keeps (HK7.out.trans k) fun _ _ _ => id) (by omega) hvb)
      have HGM : Hid (¬ g = mb) := by
        show ¬ g = mb
        intro e
        have h1 := HL7.out.og
        rw [e, HL7.out.omap] at h1
        cases h1
      have hc1 : w7.cell? ⟨g, 1, none⟩ = some (.map (some mb)) := HL7.out.blk.cell 1
      have HI := Lib.hid hi
      have HLI := Lib.hid hl
      have HNS := Lib.hid hns
      rw [hln] at hen ⊢
      clear hv hvl hvn hvb hln hrg7 hlt7 hk7 HR HL HK hi hl hns
      unfold ikv at hen ⊢
      go_upto_region 5 with fail
      go_region_held3 (fun w' => w'.cell? ⟨g, 1, none⟩ = some (.map (some mb))) (go_keep)
        ((have H := HIR; go_at_call 48; refine (H.out _ ((Keeps.refl _ _).drewN 1)).mono ?_; rintro e w8 ⟨g8, rfl, hr8, hk8'⟩; have hk8 : Keeps (fun _ => False) w7 w8 := hk8'.of_drew; obtain ⟨W9, hrun, hu9, hk9⟩ := Qi.IsF.update_run int_ks (HL7.out.keeps hk8 fun _ _ => id).map Tryz.underlying105 (by omega) HI.out (rd g8); have hcell9 : W9.cell? ⟨g, 1, none⟩ = some (.map (some mb)) := (hk9.cell (p := ⟨g, 1, none⟩) (Nat.lt_of_lt_of_le HL7.out.blk.lt hk8.size) HGM.out).trans ((HL7.out.keeps hk8 fun _ _ => id).blk.cell 1); have hcell8 : w8.cell? ⟨g, 1, none⟩ = some (.map (some mb)) := (HL7.out.keeps hk8 fun _ _ => id).blk.cell 1; have HRD8 := Lib.hid hr8; have HK8 := Lib.hid hk8; have HU9 := Lib.hid hu9; have HK9 := Lib.hid hk9; unfold ikv at hrun; clear hr8 hk8 hk8' hu9 hk9 HIR))
      have hG : (fun i => if i ∈ seen then (V i).map fun l => (⟨l, 0, 0⟩ : RS) else none) i = none := if_neg HNS.out
      have hl9 := HL7.out.add HI.out hG HK8.out HRD8.out (Nat.le_refl _) HK9.out HU9.out
      have hru : ru (fun i => if i ∈ seen then (V i).map fun l => (⟨l, 0, 0⟩ : RS) else none) i ⟨l, 0, 0⟩ = fun j => if j ∈ seen ++ [i] then (V j).map fun l => ⟨l, 0, 0⟩ else none := by
        funext j
        unfold ru
        by_cases e : j = i
        · subst e
          rw [if_pos rfl, if_pos (by simp), HLI.out]
          rfl
        · rw [if_neg e]
          have : j ∈ seen ++ [i] ↔ j ∈ seen := by simp [e]
          simp only [this]
      rw [hru] at hl9
      have hmb := (HL7.out.lt mb 2 HL7.out.omap)
      have hr1m : r1 ≠ mb := fun e => by
        have h1 := HO.out
        rw [e, HL7.out.omap] at h1
        cases h1
      have HR9 := Lib.hid ((HR7.out.keeps HK8.out id id).keeps HK9.out (fun e => by have := HBW.out; omega) hr1m)
      have HL9 := Lib.hid hl9
      have HO9 : Hid ((fun k => if w7.drew.heap.size ≤ k ∧ k ≤ g8 then some (4 + i) else o k) r1 = none) := by
        show (if w7.drew.heap.size ≤ r1 ∧ r1 ≤ g8 then some (4 + i) else o r1) = none
        rw [if_neg (fun h => by have h1 := HR7.out.lt; have h2 : w7.drew.heap.size = w7.heap.size := rfl; omega)]
        exact HO.out
      have HK10 : Hid (Keeps (fun _ => False) w W9) := Lib.hid (keeps_low (HK7.out.trans HK8.out) HK9.out (fun z hz => by subst hz; exact hmb.1))
      clear hG hl9 hru hmb hr1m
      go_roundw
      case rel =>
        exact ⟨_, _, _, _, _, _, _, _, _, _, _, _, _, _, ⟨seen ++ [i], cn7, _, _, HR9.out, HL9.out, HO9.out, HK10.out⟩, rfl⟩
      case measure =>
        exact Nat.lt_of_le_of_lt (Nat.le_of_eq HR9.out.left_eq) HLT.out
set_option maxHeartbeats 8000000 in
set_option maxRecDepth 100000 in
theorem new_nil (A : Option Addr) (n c : Nat) (xs : List Int) (w : World) (hx : xs.length = n) (hl : Lies w A xs) (hn : n ≤ 1000000) (hb : ∀ x ∈ xs, 0 ≤ x ∧ x < 256) :
    Calls Tryz.prog 22 #[.slice A n c, .map none] w fun r w' => ∃ g F, r = .returned (.pointer (some ⟨g, 0, none⟩)) ∧ Lz w.heap.size g F ⟨xs, 0, false⟩ (fun _ => none) 0 0 w' ∧ Keeps (fun _ => False) w w' := by
  have HR := Lib.hid (fun W (k : Keeps (fun _ => False) w W) => Br.read_n A n c xs W hx (hl.keeps k fun _ _ _ => id) hn hb)
  clear hx hl hb
  go_enter Tryz.func22, Tryz.ntmps22
  go_wp2_with fail
  refine (HR.out w (Keeps.refl _ _)).mono ?_
  rintro r w1 ⟨br, rfl, hr1, hk1⟩
  have HR1 := Lib.hid hr1
  have HK1 := Lib.hid hk1
  have hmm := @run_makeMap Tryz.prog
  clear hr1 hk1 HR
  go_upto_region 2 with fail
  have HL0 := Lib.hid (Ln.start (B := w.heap.size) (fun _ => (0, 0)) HR1.out (Nat.le_refl _))
  have HW0 : Hid (Keeps (fun _ => False) w1 ((w1.alloc (.map #[] 0)).alloc (.cells #[.pointer (some ⟨br, 0, none⟩), .map (some w1.heap.size), .map none, .int .i64 0] 107))) := ((Keeps.refl _ _).alloc _).alloc _
  generalize (w1.alloc (.map #[] 0)).alloc (.cells #[.pointer (some ⟨br, 0, none⟩), .map (some w1.heap.size), .map none, .int .i64 0] 107) = W at HL0 HW0 ⊢
  obtain ⟨o0, ho0⟩ : ∃ o0, (fun k => if k = w1.heap.size + 1 then some 0 else if k = w1.heap.size then some 2 else if w.heap.size ≤ k ∧ k ≤ br then some 1 else none) = o0 := ⟨_, rfl⟩
  rw [ho0] at HL0
  obtain ⟨g, hg⟩ : ∃ g, w1.heap.size + 1 = g := ⟨_, rfl⟩
  obtain ⟨mb, hmb⟩ : ∃ mb, w1.heap.size = mb := ⟨_, rfl⟩
  rw [hg] at HL0
  rw [hmb] at HL0
  rw [hg, hmb]
  have HKW := Lib.hid (HK1.out.trans HW0.out)
  have hrn := run_range_nilMap (P := Tryz.prog) W 28 3 29 Tryz.underlying28
  have hnx := fun ty => run_next_nilMap (P := Tryz.prog) W ty 0 0 #[]
  have HKF : Hid (Keeps (fun _ => False) W (W.alloc (.mapIter none 0 #[] 0))) := (Keeps.refl _ _).alloc _
  clear ho0 hg hmb hmm
  go_wp2
  go_loopw [6] (fun _ wr => wr = W.alloc (.mapIter none 0 #[] 0)) (fun _ _ => 0)
  case atStart => rfl
  case round =>
    subst hrel
    go_wp2
    go_ret
    exact ⟨g, Ft o0, rfl, ⟨o0, br, w.heap.size, mb, _, _, HL0.out.keeps HKF.out fun _ _ => id, fun _ => Iff.rfl⟩, HKW.out.trans HKF.out⟩
end Go.Proofs.YtgaofnmgdefdcaaGreatDoor.Le

namespace Go.Proofs.YtgaofnmgdefdcaaGreatDoor.Le
open Go.RowKit Go.Proofs.YtgaofnmgdefdcaaGreatDoor.Gen Go.Proofs.YtgaofnmgdefdcaaGreatDoor.Mp Go.Proofs.YtgaofnmgdefdcaaGreatDoor.Cm Go.Proofs.YtgaofnmgdefdcaaGreatDoor.Hr Go.Proofs.YtgaofnmgdefdcaaGreatDoor.Hn Go.Proofs.YtgaofnmgdefdcaaGreatDoor.Hk Go.Proofs.YtgaofnmgdefdcaaGreatDoor.Ln Go.Proofs.YtgaofnmgdefdcaaGreatDoor.Ds Go.Proofs.YtgaofnmgdefdcaaGreatDoor.Ky Go.Proofs.YtgaofnmgdefdcaaGreatDoor.Wr Go.Proofs.YtgaofnmgdefdcaaGreatDoor.Ir Go.Proofs.YtgaofnmgdefdcaaGreatDoor.Br Go.Proofs.YtgaofnmgdefdcaaGreatDoor.Qh Go.Proofs.YtgaofnmgdefdcaaGreatDoor.Qs Go.Proofs.YtgaofnmgdefdcaaGreatDoor.Qf Go.Proofs.YtgaofnmgdefdcaaGreatDoor.Qc

theorem Tab_rise {B B' : Nat} {w : World} (h : Tab B w) (hB : B ≤ B') : Tab B' w := fun w' hb => h w' (hb.mono hB)
/-- A map of one row of bytes. -/
def oneV (k : Nat) (l : List Int) : Nat → Option (List Int) := fun i => if i = k then some l else none
def oneG (k : Nat) (r : RS) : Rs := fun i => if i = k then some r else none
theorem one_map {w : World} {b k n c : Nat} {A : Option Addr} {l : List Int} (hn : l.length = n) (h : IsF Tryz.prog 3 60001 ikl w b (putF (fun _ => none) k (.slice A n c))) :
    IsF Tryz.prog 3 60001 ikl w b (fun i => (oneV k l i).map fun l => .slice ((fun _ => A) i) l.length ((fun _ => c) i)) := by
  refine h.congr fun i _ => ?_
  unfold putF oneV
  by_cases hi : i = k
  · rw [if_pos hi, if_pos hi, ← hn]
    rfl
  · rw [if_neg hi, if_neg hi]
    rfl
theorem oneV_G (k : Nat) (l : List Int) : (fun i => (oneV k l i).map fun l => (⟨l, 0, 0⟩ : RS)) = oneG k ⟨l, 0, 0⟩ := by
  funext i
  unfold oneV oneG
  by_cases hi : i = k
  · rw [if_pos hi, if_pos hi]
    rfl
  · rw [if_neg hi, if_neg hi]
    rfl
theorem out300 {s s' : BS} {G G' : Rs} {n e : Int} (h : WithinR ⟨1, 3, [], 0, 0⟩ s G 0 (-2147483647) 2147483647 n e s' G') (hG : G 3 = some ⟨[129, 44], 0, 0⟩) : n = 300 ∧ e = 0 ∧ s' = s ∧ G' = ru G 3 ⟨[129, 44], 2, 0⟩ := by
  have e1 : RS.int ⟨[129, 44], 0, 0⟩ = (300, ⟨[129, 44], 2, 0⟩) := by rfl
  have hck : chkI ⟨1, 3, [], 0, 0⟩ = 0 := by decide
  rcases h with ⟨h0, _⟩ | ⟨_, s1, ⟨m, e1', hn, hc⟩, hs⟩
  · exact absurd rfl h0
  rcases hn with ⟨h0, _⟩ | ⟨_, _, h1, h2⟩ | ⟨_, h3, _⟩ | ⟨_, h3, _⟩
  · exact absurd hck h0
  · unfold OutR at h2
    rw [show (⟨1, 3, [], 0, 0⟩ : D).B.toNat = 3 from rfl, hG] at h2
    simp only at h2
    rw [e1] at h2
    obtain ⟨h2, h4, h5⟩ := h2
    have h6 : m = 300 := h2.trans (by decide)
    have h7 : e1' = 0 := h4
    subst h6 h7 h1
    rcases hc with ⟨h, _⟩ | ⟨_, h, _⟩ | ⟨_, _, _, h8, h9⟩
    · exact absurd rfl h
    · omega
    · subst h9
      exact ⟨h8, rfl, by rw [hs]; rfl, h5⟩
  · exact absurd h3 (by decide)
  · exact absurd h3 (by decide)
theorem fix5 {s' : BS} {G G' : Rs} {n e : Int} (h : WithinR ⟨6, 0, [], 0, 3⟩ ⟨[160], 0, false⟩ G 0 (-2147483647) 2147483647 n e s' G') : n = 5 ∧ e = 0 ∧ s' = ⟨[160], 3, false⟩ ∧ G' = G := by
  have e1 : BS.take ⟨[160], 0, false⟩ 3 = (5, ⟨[160], 3, false⟩) := by rfl
  have hck : chkI ⟨6, 0, [], 0, 3⟩ = 0 := by decide
  rcases h with ⟨h0, _⟩ | ⟨_, s1, ⟨m, e1', hn, hc⟩, hs⟩
  · exact absurd rfl h0
  rcases hn with ⟨h0, _⟩ | ⟨_, h3, _⟩ | ⟨_, h3, _⟩ | ⟨_, _, h1, h2, h4⟩
  · exact absurd hck h0
  · exact absurd h3 (by decide)
  · exact absurd h3 (by decide)
  · rw [show (⟨6, 0, [], 0, 3⟩ : D).bi.toNat = 3 from rfl, e1] at h2 h4
    simp only at h2 h4
    subst h2
    rcases h4 with ⟨h4, _⟩ | ⟨_, h5, h6⟩
    · cases h4
    · subst h5 h6
      rcases hc with ⟨h, _⟩ | ⟨_, h, _⟩ | ⟨_, _, _, h8, h9⟩
      · exact absurd rfl h
      · exfalso
        revert h
        decide
      · subst h9
        exact ⟨h8, rfl, by rw [hs]; rfl, h1⟩

theorem endOK {E : Int} (h : EndR ⟨[160], 3, false⟩ (ru (oneG 3 ⟨[129, 44], 0, 0⟩) 3 ⟨[129, 44], 2, 0⟩) 0 E) : E = 0 := by
  have hf : BS.fin ⟨[160], 3, false⟩ = 0 := by decide
  rcases h with ⟨h, _⟩ | ⟨_, h, _⟩ | ⟨_, _, ⟨h, _⟩ | ⟨i, r, h1, h2, _⟩⟩
  · exact absurd rfl h
  · exact absurd hf h
  · exact h
  · exfalso
    unfold ru oneG at h1
    split at h1
    · injection h1 with h1
      subst h1
      exact h2 (by decide)
    · cases h1
set_option maxHeartbeats 8000000 in
set_option maxRecDepth 100000 in
theorem awake (w : World) (ht : Tab w.heap.size w) : Calls Tryz.prog 21 #[] w fun r w' => r = .returned (.bool true) ∧ Keeps (fun _ => False) w w' := by
  have hmm := @run_makeMap Tryz.prog
  obtain ⟨q, hq⟩ : ∃ q, q = w.heap.size := ⟨_, rfl⟩
  obtain ⟨W0, hW0⟩ : ∃ W0, W0 = (((w.alloc (.cells #[.int .u8 160] 5)).alloc (.map #[] 0)).alloc (.cells #[.int .u8 129, .int .u8 44] 5)) := ⟨_, rfl⟩
  have hk0 : Keeps (fun _ => False) w W0 := by rw [hW0]; exact (((Keeps.refl _ _).alloc _).alloc _).alloc _
  have hs1 : (w.alloc (.cells #[.int .u8 160] 5)).heap.size = q + 1 := by rw [hq]; simp
  have hs2 : ((w.alloc (.cells #[.int .u8 160] 5)).alloc (.map #[] 0)).heap.size = q + 1 + 1 := by rw [hq]; simp
  have hb0 : Blk W0 q 5 #[.int .u8 160] := by
    rw [hW0, hq]
    exact ((Blk.new w 5 #[.int .u8 160]).alloc _).alloc _
  have hb2 : Blk W0 (q + 1 + 1) 5 #[.int .u8 129, .int .u8 44] := by
    have := Blk.new ((w.alloc (.cells #[.int .u8 160] 5)).alloc (.map #[] 0)) 5 #[.int .u8 129, .int .u8 44]
    rw [hs2] at this
    rw [hW0]
    exact this
  have hm0 : IsF Tryz.prog 3 60001 ikl W0 (q + 1) (fun _ => none) := by
    have h1 := (IsF.new Tryz.prog 3 60001 ikl (w.alloc (.cells #[.int .u8 160] 5))).keeps ((Keeps.refl (fun _ => False) _).alloc (.cells #[.int .u8 129, .int .u8 44] 5)) id
    rw [hs1] at h1
    rw [hW0]
    exact h1
  obtain ⟨W1, hrun, hu, hk1⟩ := Qi.IsF.update_run int_ks hm0 Tryz.underlying28 (by omega) (show 3 < 60001 by omega) (.slice (some ⟨q + 1 + 1, 0, none⟩) 2 2)
  have hkW : Keeps (fun _ => False) w W1 := keeps_low hk0 hk1 fun x hx => by omega
  have hb0' := hb0.keeps hk1 (by omega)
  have hb2' := hb2.keeps hk1 (by omega)
  have hl0 : Lies W1 (some ⟨q, 0, none⟩) [160] := .inr ⟨q, 0, rfl, hb0'.lt, fun i hi => by
    have hi0 : i = 0 := by simpa using hi
    subst hi0
    exact hb0'.cell 0⟩
  have hl2 : Lies W1 (some ⟨q + 1 + 1, 0, none⟩) [129, 44] := .inr ⟨q + 1 + 1, 0, rfl, hb2'.lt, fun i hi => by
    have hi0 : i = 0 ∨ i = 1 := by simp at hi; omega
    rcases hi0 with rfl | rfl
    · exact hb2'.cell 0
    · exact hb2'.cell 1⟩
  have HNW := Lib.hid (new_m (some ⟨q, 0, none⟩) 1 1 [160] (q + 1) (oneV 3 [129, 44]) (fun _ => some ⟨q + 1 + 1, 0, none⟩) (fun _ => 2) W1 rfl hl0 (by omega) (by simp) (one_map rfl hu) (fun i l h => by
    unfold oneV at h
    split at h
    · injection h with h
      subst h
      exact ⟨hl2, by simp, by simp⟩
    · cases h) (fun i hi => if_neg (by omega)))
  rw [oneV_G] at HNW
  have HT1 := Lib.hid (Tab_rise (ht.more (Nat.le_refl _) hkW) hkW.size)
  have HKW := Lib.hid hkW
  have hrun2 : (Instr.mapUpdate 28 (.map (some (q + 1))) (.int .i64 3) (.slice (some ⟨q + 1 + 1, 0, none⟩) 2 2)).run Tryz.prog W0 = .ok () W1 := hrun
  clear hrun
  clear ht hk0 hs1 hs2 hb0 hb2 hm0 hu hk1 hkW hb0' hb2' hl0 hl2
  subst hq
  subst hW0
  go_enter Tryz.func21, Tryz.ntmps21
  go_wp2_with (first
    | (have H := HNW; go_at_call 22; refine H.out.mono ?_; rintro r w2 ⟨g, F, rfl, hx, hk2⟩; have HI1 := Lib.hid (int_ none 0 0 ⟨1, 3, [], 0, 0⟩ w2 (HT1.out.more (Nat.le_refl _) hk2) hx (by omega) ⟨.inl rfl, rfl, by omega⟩ (by simp) (fun h => by omega)); unfold dv at HI1; have HK2 := Lib.hid (HKW.out.trans hk2); have HT2 := Lib.hid (HT1.out.more (Nat.le_refl _) hk2); have HL2 := Lib.hid hx.lt; have HW1 : Hid (w.heap.size ≤ W1.heap.size) := HKW.out.size; have HW2 : Hid (W1.heap.size ≤ w2.heap.size) := hk2.size; clear hx hk2 HNW)
    | (have H := HI1; go_at_call 28; refine H.out.mono ?_; rintro r w3 ⟨F3, n3, e3, s3, G3, rfl, h3, hs3, hr3⟩; obtain ⟨rfl, rfl, rfl, rfl⟩ := out300 hr3 (if_pos rfl); have HK3 : Hid (Keeps (fun _ => False) w w3) := keeps_low HK2.out hs3.keeps (fun x hx => Nat.le_trans HW1.out (HL2.out x hx).1); have HI2 := Lib.hid (int_ none 0 0 ⟨6, 0, [], 0, 3⟩ w3 (HT2.out.keeps HW2.out hs3.keeps fun x hx => (HL2.out x hx).1) h3 (by omega) ⟨.inl rfl, rfl, by omega⟩ (by simp) (fun h => by omega)); unfold dv at HI2; have HL3 := Lib.hid h3.lt; clear h3 hs3 hr3 HI1)
    | (have H := HI2; go_at_call 28; refine H.out.mono ?_; rintro r w4 ⟨F4, n4, e4, s4, G4, rfl, h4, hs4, hr4⟩; obtain ⟨rfl, rfl, rfl, rfl⟩ := fix5 hr4; have HK4 : Hid (Keeps (fun _ => False) w w4) := keeps_low HK3.out hs4.keeps (fun x hx => Nat.le_trans HW1.out (HL3.out x hx).1); have HEN := Lib.hid (end_z w4 h4); clear h4 hs4 hr4 HI2)
    | (have H := HEN; go_at_call 27; refine H.out.mono ?_; rintro r w5 ⟨E, rfl, hE, hk5⟩; obtain rfl : E = 0 := endOK hE; have HK5 := Lib.hid (HK4.out.trans hk5); clear hE hk5 HEN))
  go_ret
  exact ⟨rfl, HK5.out⟩
end Go.Proofs.YtgaofnmgdefdcaaGreatDoor.Le

namespace Go.Proofs.YtgaofnmgdefdcaaGreatDoor.Le
open Go.RowKit Go.Proofs.YtgaofnmgdefdcaaGreatDoor.Gen Go.Proofs.YtgaofnmgdefdcaaGreatDoor.Mp Go.Proofs.YtgaofnmgdefdcaaGreatDoor.Cm Go.Proofs.YtgaofnmgdefdcaaGreatDoor.Hr Go.Proofs.YtgaofnmgdefdcaaGreatDoor.Hn Go.Proofs.YtgaofnmgdefdcaaGreatDoor.Hk Go.Proofs.YtgaofnmgdefdcaaGreatDoor.Ln Go.Proofs.YtgaofnmgdefdcaaGreatDoor.Ds Go.Proofs.YtgaofnmgdefdcaaGreatDoor.Ky Go.Proofs.YtgaofnmgdefdcaaGreatDoor.Wr Go.Proofs.YtgaofnmgdefdcaaGreatDoor.Ir Go.Proofs.YtgaofnmgdefdcaaGreatDoor.Br Go.Proofs.YtgaofnmgdefdcaaGreatDoor.Qh Go.Proofs.YtgaofnmgdefdcaaGreatDoor.Qs Go.Proofs.YtgaofnmgdefdcaaGreatDoor.Qf Go.Proofs.YtgaofnmgdefdcaaGreatDoor.Qc Go.Proofs.YtgaofnmgdefdcaaGreatDoor.Qn

/-- Rows of bytes that came in. -/
structure Bys (w : World) (A : Option Addr) (n : Nat) (f : Nat → List Int) (fa : Nat → Option Addr) (fn fc : Nat → Nat) (b o : Nat) : Prop where
  ok : ∀ i, i < n → By w (fa i) (fn i) (fc i) (f i)
  at_ : 0 < n → A = some ⟨b, o, none⟩ ∧ b < w.heap.size
  cell : ∀ i, i < n → w.cell? ⟨b, o + i, none⟩ = some (.slice (fa i) (fn i) (fc i))
theorem By.cells {w : World} {A : Option Addr} {n c i : Nat} {l : List Int} (h : By w A n c l) (hi : i < n) : ∃ b o z, A = some ⟨b, o, none⟩ ∧ b < w.heap.size ∧ w.cell? ⟨b, o + i, none⟩ = some (.int .u8 z) ∧ 0 ≤ z ∧ z < 256 := by
  rcases h.lies with h1 | ⟨b, o, h1, hb, hc⟩
  · have := h.len
    rw [h1] at this
    simp at this
    omega
  · have hl : i < l.length := by rw [h.len]; exact hi
    refine ⟨b, o, l.getD i 0, h1, hb, hc i hl, ?_⟩
    rw [List.getD_eq_getElem?_getD, List.getElem?_eq_getElem hl]
    exact h.byte _ (List.getElem_mem _)
theorem eight_v (K bi B le : Int) (n : Nat) (S : Int) (st : Bool) : eight ⟨K, bi, B, le, n, S, st⟩ = ⟨K, bi, B % 8, le, n, S, st⟩ := rfl
theorem rem_at {z : Int} {n : Nat} (h : 0 ≤ z) (hn : 0 < n) : ∃ q : Nat, z.tmod (n : Int) = (q : Int) ∧ q < n := by
  have h1 := Int.emod_nonneg z (show (n : Int) ≠ 0 by omega)
  have h2 := Int.emod_lt_of_pos z (show (0 : Int) < n by omega)
  exact ⟨(z % (n : Int)).toNat, by rw [Int.tmod_eq_emod_of_nonneg h]; omega, by omega⟩

set_option maxHeartbeats 16000000 in
set_option maxRecDepth 100000 in
theorem any_ (A0 A1 A2 A3 A4 : Option Addr) (n0 n1 n2 n3 n4 c0 c1 c2 c3 c4 : Nat) (xs ids ord : List Int) (f : Nat → List Int) (fa : Nat → Option Addr) (fn fc : Nat → Nat) (b2 o2 : Nat) (fw : Nat → Sm) (fwa : Nat → Option Addr) (fwc : Nat → Nat) (b3 o3 : Nat) (fr up : Int) (w : World)
    (ht : Tab w.heap.size w) (h0 : By w A0 n0 c0 xs) (h1 : By w A1 n1 c1 ids) (h2 : Bys w A2 n2 f fa fn fc b2 o2) (h3 : Ways w A3 n3 fw fwa fwc b3 o3) (h4 : By w A4 n4 c4 ord) :
    Calls Tryz.prog 5 #[.slice A0 n0 c0, .slice A1 n1 c1, .slice A2 n2 c2, .slice A3 n3 c3, .slice A4 n4 c4, .int .i64 fr, .int .i64 up] w fun r w' => r = .returned (.bool true) ∧ Keeps (fun _ => False) w w' := by
  have hmm := @run_makeMap Tryz.prog
  have HT := Lib.hid ht
  have HAW := Lib.hid (awake w ht)
  have H0 := Lib.hid h0
  have H1 := Lib.hid h1
  have H2 := Lib.hid h2
  have H3 := Lib.hid h3
  have H4 := Lib.hid h4
  clear ht h0 h1 h2 h3 h4
  go_enter Tryz.func5, Tryz.ntmps5
  go_wp2_with fail
  refine HAW.out.mono ?_
  rintro r w1 ⟨rfl, hk1⟩
  have HK1 := Lib.hid hk1
  have HT1 := Lib.hid (Tab_rise (HT.out.more (Nat.le_refl _) hk1) hk1.size)
  have HS1 : Hid (w.heap.size ≤ w1.heap.size) := hk1.size
  clear hk1 HAW HT
  by_cases hn0 : (100 : Int) < (n0 : Int)
  · go_wp2
    go_ret
    exact ⟨rfl, HK1.out⟩
  by_cases hn1 : (8 : Int) < (n2 : Int)
  · go_wp2
    go_ret
    exact ⟨rfl, HK1.out⟩
  by_cases hn2 : (n3 : Int) < 1
  · go_wp2
    go_ret
    exact ⟨rfl, HK1.out⟩
  by_cases hn3 : (8 : Int) < (n3 : Int)
  · go_wp2
    go_ret
    exact ⟨rfl, HK1.out⟩
  by_cases hn4 : (60 : Int) < (n4 : Int)
  · go_wp2
    go_ret
    exact ⟨rfl, HK1.out⟩
  have HNN : Hid (n0 ≤ 100 ∧ n2 ≤ 8 ∧ 1 ≤ n3 ∧ n3 ≤ 8 ∧ n4 ≤ 60) := by show _ ∧ _; omega
  obtain ⟨mb, hmb⟩ : ∃ mb, mb = w1.heap.size := ⟨_, rfl⟩
  obtain ⟨W2, hW2⟩ : ∃ W2, W2 = w1.alloc (.map #[] 0) := ⟨_, rfl⟩
  have HMB : Hid (MapB W2 mb (fun _ => none)) := by show MapB _ _ _; rw [hW2, hmb]; exact MapB.new w1
  have HKM : Hid (Keeps (fun _ => False) w1 W2) := by show Keeps _ _ _; rw [hW2]; exact (Keeps.refl _ _).alloc _
  have HMS : Hid (w1.heap.size ≤ mb) := by show _ ≤ _; omega
  go_upto_region 6 with fail
  rw [← hmb, ← hW2]
  clear hmb hW2 hn0 hn1 hn2 hn3 hn4
  go_wp2
  go_loopw [54] (fun iv wr => ∃ j : Nat, iv = .int .i64 (j : Int) ∧ j ≤ n2 ∧ Hid (∃ V, MapB wr mb V) ∧ Hid (Keeps (fun _ => False) w1 wr)) (fun iv _ => n2 - (intOf iv).toNat)
  case atStart => exact ⟨0, rfl, by omega, ⟨_, HMB.out⟩, HKM⟩
  case round =>
    obtain ⟨j, rfl, hj, HV, HKR⟩ := hrel
    clear HMB HKM
    by_cases hlt : j < n2
    · obtain ⟨hA2, hb2⟩ := H2.out.at_ (by omega)
      subst hA2
      have hkw : Keeps (fun _ => False) w wr := HK1.out.trans HKR.out
      have hc2 := (hkw.cell (p := ⟨b2, o2 + j, none⟩) hb2 id).trans (H2.out.cell j hlt)
      have HB : Hid (By wr (fa j) (fn j) (fc j) (f j)) := Lib.hid ((H2.out.ok j hlt).more hkw)
      obtain ⟨Ab, hAb⟩ : ∃ Ab, fa j = Ab := ⟨_, rfl⟩
      obtain ⟨nb, hnb⟩ : ∃ nb, fn j = nb := ⟨_, rfl⟩
      obtain ⟨cb, hcb⟩ : ∃ cb, fc j = cb := ⟨_, rfl⟩
      rw [hAb, hnb, hcb] at hc2 HB
      have hj0 : (0 : Int) ≤ (j : Int) := by omega
      have hj1 : (j : Int) < (n2 : Int) := by omega
      have hjw : IntKind.i64.wrap ((j : Int) + 1) = (j : Int) + 1 := IntWalk.i64_in _ (by have := HNN.out; omega)
      clear hAb hnb hcb hb2
      by_cases hn : (100 : Int) < (nb : Int)
      · have HKW := Lib.hid hkw
        clear hkw
        go_wp2
        go_ret
        exact ⟨rfl, HKW.out⟩
      by_cases hji : (j : Int) < (n1 : Int)
      · obtain ⟨b1, o1, z, hA1, hb1, hcz, hz0, hz1⟩ := H1.out.cells (show j < n1 by omega)
        subst hA1
        have hcw := (hkw.cell (p := ⟨b1, o1 + j, none⟩) hb1 id).trans hcz
        obtain ⟨k, hk⟩ : ∃ k : Nat, 1 + z % 8 = (k : Int) := ⟨(1 + z % 8).toNat, by omega⟩
        obtain ⟨V, hV⟩ := HV.out
        obtain ⟨W', hrun, hV', hk'⟩ := hV.put HB.out (by omega) (show k < 60001 by omega)
        have HV' := Lib.hid hV'
        have HKN : Hid (Keeps (fun _ => False) w1 W') := keeps_low HKR.out hk' (fun x hx => by have := HMS.out; have hx : x = mb := hx; omega)
        have hzm : z.tmod 8 = z % 8 := Int.tmod_eq_emod_of_nonneg hz0
        have hzw : IntKind.u8.wrap (z % 8) = z % 8 := by rw [IntKind.wrap_u8]; omega
        have hzi : IntKind.i64.wrap (z % 8) = z % 8 := IntWalk.i64_in _ (by omega)
        have hzk : IntKind.i64.wrap (1 + z % 8) = (k : Int) := by rw [IntWalk.i64_in _ (by omega)]; exact hk
        clear hV hk' hV' hkw hcz hb1 hk
        go_wp2
        exact ⟨⟨j + 1, by go_num, by omega, HV', HKN⟩, by simp [intOf]; omega⟩
      · clear hkw
        go_wp2
        exact ⟨⟨j + 1, by go_num, by omega, HV, HKR⟩, by simp [intOf]; omega⟩
    · obtain rfl : j = n2 := by omega
      obtain ⟨V, fa', fc', hm, hVV, hV0⟩ := HV.out
      have hkw : Keeps (fun _ => False) w wr := HK1.out.trans HKR.out
      have HNW := Lib.hid (new_m A0 n0 c0 xs mb V fa' fc' wr H0.out.len (H0.out.more hkw).lies (by have := HNN.out; omega) H0.out.byte hm (fun i l h => by obtain ⟨q1, q2, q3⟩ := hVV i l h; exact ⟨q1, by omega, q3⟩) hV0)
      have HKW := Lib.hid hkw
      clear hm hVV hV0 hkw HV
      go_wp2_with fail
      refine HNW.out.mono ?_
      rintro r w3 ⟨g, F, rfl, hz, hk3⟩
      obtain ⟨B, hB⟩ : ∃ B, B = wr.heap.size := ⟨_, rfl⟩
      have HB : Hid (w.heap.size ≤ B ∧ B ≤ w3.heap.size) := ⟨by rw [hB]; exact HKW.out.size, by rw [hB]; exact hk3.size⟩
      have HT3 : Hid (Tab B w3) := by
        show Tab _ _
        rw [hB]
        exact Tab_rise (HT1.out.more (Nat.le_refl _) (HKR.out.trans hk3)) HKR.out.size
      have HK3 : Hid (Keeps (fun _ => False) w w3) := HKW.out.trans hk3
      have HM0 : Hid (Mil w3 B g 0 0 w3) := by
        rw [← hB] at hz
        exact ⟨⟨F, _, _, 0, hz, Nat.le_refl _⟩, Keeps.refl _ _⟩
      clear hz hk3 hB HNW HKW
      go_wp2
      go_loopw [81] (fun iv wx => ∃ j : Nat, iv = .int .i64 (j : Int) ∧ j ≤ n4 ∧ ∃ e, Hid (Mil w3 B g j e wx)) (fun iv _ => n4 - (intOf iv).toNat)
      case atStart => exact ⟨0, rfl, by omega, 0, HM0⟩
      case round =>
        obtain ⟨j, rfl, hj, e, HM⟩ := hrel
        clear HM0
        have hkx : Keeps (B ≤ ·) w wr := (HK3.out.mono fun _ _ hf => hf.elim).trans HM.out.keeps
        by_cases hlt : j < n4
        · obtain ⟨b4, o4, z, hA4, hb4, hcz, hz0, hz1⟩ := H4.out.cells hlt
          subst hA4
          have hcw := (hkx.cell (p := ⟨b4, o4 + j, none⟩) hb4 (by have := HB.out; show ¬ B ≤ b4; omega)).trans hcz
          have hj0 : (0 : Int) ≤ (j : Int) := by omega
          have hj1 : (j : Int) < (n4 : Int) := by omega
          have hjw : IntKind.i64.wrap ((j : Int) + 1) = (j : Int) + 1 := IntWalk.i64_in _ (by have := HNN.out; omega)
          obtain ⟨q, hrem, hq⟩ := rem_at (n := n3) hz0 (by have := HNN.out; omega)
          obtain ⟨hA3, hb3⟩ := H3.out.at_ (by omega)
          subst hA3
          have hsc := (H3.out.keeps (hkx.mono fun x _ hx => by have := HB.out; show w.heap.size ≤ x; omega)).cell q hq
          have hsok := H3.out.ok q hq
          obtain ⟨sm, hsm⟩ : ∃ sm, fw q = sm := ⟨_, rfl⟩
          obtain ⟨As, hAs⟩ : ∃ As, fwa q = As := ⟨_, rfl⟩
          obtain ⟨cs, hcs⟩ : ∃ cs, fwc q = cs := ⟨_, rfl⟩
          rw [hsm, hAs, hcs] at hsc
          rw [hsm] at hsok
          clear hsm hAs hcs hcz
          obtain ⟨sK, sbi, sB, sle, sn, sS, sst⟩ := sm
          have hsB := hsok.B
          simp only at hsB
          have hlo := eight_ok hsok
          rw [eight_v] at hlo
          have HLO := Lib.hid hlo
          have g0 := hsc 0 (by omega)
          have g1 := hsc 1 (by omega)
          have g2 := hsc 2 (by omega)
          have g3 := hsc 3 (by omega)
          have g4 := hsc 4 (by omega)
          have g5 := hsc 5 (by omega)
          have g6 := hsc 6 (by omega)
          unfold Sm.v at g0 g1 g2 g3 g4 g5 g6
          simp only [List.getElem?_toArray, List.getElem?_cons_zero, List.getElem?_cons_succ, Nat.add_zero] at g0 g1 g2 g3 g4 g5 g6
          have hww : IntKind.i64.wrap z = z := IntWalk.i64_in _ (by omega)
          have hn3e : ¬ ((n3 : Int) = 0) := by have := HNN.out; omega
          have hk0 : (0 : Int) ≤ (q : Int) := by omega
          have hk1 : (q : Int) < (n3 : Int) := by omega
          have hBm : sB.tmod 8 = sB % 8 := Int.tmod_eq_emod_of_nonneg hsB.1
          have hBw : IntKind.u16.wrap (sB % 8) = sB % 8 := by rw [IntKind.wrap_u16]; omega
          have hzq : z.tdiv 64 = z / 64 := Int.tdiv_eq_ediv_of_nonneg hz0
          have hzqw : IntKind.u8.wrap (z / 64) = z / 64 := by rw [IntKind.wrap_u8]; omega
          have HKX := Lib.hid hkx
          clear hsc hsok hb3 hb4 hkx hlo
          by_cases hsn : (100 : Int) < (sn : Int)
          · go_wp2
            go_ret
            exact ⟨rfl, (keeps_low (Keeps.refl _ w) HKX.out (fun x hx => by have := HB.out; have hx : B ≤ x := hx; omega)).alloc _⟩
          go_upto_region 22 with fail
          have HB1 : Hid (Blk (wr.alloc (.cells #[.int .u8 sK, .int .u8 sbi, .int .u16 (sB % 8), .int .i16 sle, .slice As sn cs, .int .u8 sS, .bool sst] 37)) wr.heap.size 37 #[.int .u8 sK, .int .u8 sbi, .int .u16 (sB % 8), .int .i16 sle, .slice As sn cs, .int .u8 sS, .bool sst]) := Lib.hid (Blk.new _ _ _)
          have HK8 : Hid (Keeps (fun _ => False) wr (wr.alloc (.cells #[.int .u8 sK, .int .u8 sbi, .int .u16 (sB % 8), .int .i16 sle, .slice As sn cs, .int .u8 sS, .bool sst] 37))) := Lib.hid ((Keeps.refl _ _).alloc _)
          generalize wr.alloc (.cells #[.int .u8 sK, .int .u8 sbi, .int .u16 (sB % 8), .int .i16 sle, .slice As sn cs, .int .u8 sS, .bool sst] 37) = W at HB1 HK8 ⊢
          obtain ⟨gs, hgs⟩ : ∃ g, wr.heap.size = g := ⟨_, rfl⟩
          rw [hgs] at HB1 ⊢
          have x0 := HB1.out.cell 0
          have x1 := HB1.out.cell 1
          have x2 := HB1.out.cell 2
          have x3 := HB1.out.cell 3
          have x4 := HB1.out.cell 4
          have x5 := HB1.out.cell 5
          have x6 := HB1.out.cell 6
          simp only [List.getElem?_toArray, List.getElem?_cons_zero, List.getElem?_cons_succ] at x0 x1 x2 x3 x4 x5 x6
          have HM4 := Lib.hid (HM.out.more HK8.out)
          have HE := Lib.hid HM4.out.err
          clear g0 g1 g2 g3 g4 g5 g6 hgs hcw hsn HB1
          go_wp2_with fail
          refine HE.out.mono ?_
          rintro r w5 ⟨rfl, hw5⟩
          subst hw5
          clear HE
          have hfi := fits_I HLO.out
          have hfa := fits_A HLO.out
          have has := A_S HLO.out
          have HCI := Lib.hid (fun W => ints_ ⟨sK, sbi, sB % 8, sle, sn, sS, sst⟩ As cs W HLO.out)
          have HCA := Lib.hid (fun W => arrays_ ⟨sK, sbi, sB % 8, sle, sn, sS, sst⟩ As cs W HLO.out)
          obtain ⟨dI, hdI⟩ : ∃ d, (⟨sK, sbi, sB % 8, sle, sn, sS, sst⟩ : Sm).I = d := ⟨_, rfl⟩
          obtain ⟨dA, hdA⟩ : ∃ d, (⟨sK, sbi, sB % 8, sle, sn, sS, sst⟩ : Sm).A = d := ⟨_, rfl⟩
          rw [hdI] at hfi HCI
          rw [hdA] at hfa has HCA
          have HLI := Lib.hid (fun (A : Option Addr) (n c : Nat) (W1 : World) (k : Keeps (fun _ => False) w5 W1) (hL : Ents W1 A n dI.L) (hE : ∀ b o, A = some ⟨b, o, none⟩ → w5.heap.size ≤ b) => HM4.out.int (c := c) k HT3.out HB.out.2 (by have := HNN.out; omega) hL hfi (fun _ => hE))
          have HLW := Lib.hid (fun (A : Option Addr) (n c : Nat) (W1 : World) (k : Keeps (fun _ => False) w5 W1) (hL : Ents W1 A n dI.L) (hE : ∀ b o, A = some ⟨b, o, none⟩ → w5.heap.size ≤ b) => HM4.out.within (c := c) k HT3.out HB.out.2 (by have := HNN.out; omega) hL hfi (fun _ => hE) fr up)
          have HLA := Lib.hid (fun (A : Option Addr) (n c : Nat) (W1 : World) (k : Keeps (fun _ => False) w5 W1) (hL : Ents W1 A n dA.d.L) (hE : ∀ b o, A = some ⟨b, o, none⟩ → w5.heap.size ≤ b) => HM4.out.arr (c := c) k HT3.out HB.out.2 (by have := HNN.out; omega) hL hfa (fun _ => hE) has)
          unfold Sm.v MadeI at HCI
          unfold Sm.v MadeA at HCA
          clear hfi hfa has hdI hdA HM HM4
          obtain ⟨t, ht⟩ : ∃ t, z / 64 = t := ⟨_, rfl⟩
          rw [ht] at hzq hzqw
          clear ht
          by_cases ht0 : t = 0
          · subst ht0
            go_wp2_with fail
            refine (HCA.out _).mono ?_
            rintro r w8 ⟨A8, n8, c8, rfl, hL8, hE8, hk8⟩
            have HK9 := Lib.hid hk8
            have HL8 := Lib.hid hL8
            have HE8 := Lib.hid hE8
            clear hk8 hL8 hE8 HCA
            go_wp2_with fail
            refine (HLA.out _ _ _ _ HK9.out HL8.out HE8.out).mono ?_
            rintro r w9 ⟨A9, n9, c9, e9, rfl, hf9, hm9, -⟩
            have HF9 := Lib.hid hf9
            have HM9 := Lib.hid hm9
            have HE9 := Lib.hid hm9.err
            clear hf9 hm9 HLA HLI HLW HCI x0 x1 x2 x3 x4 x5 x6
            by_cases h9 : e9 = 0
            · subst h9
              have he : e = 0 := Classical.byContradiction fun h => h (HF9.out.2 h).symm
              subst he
              go_wp2_with (have H := HE9; go_at_call 26; refine H.out.mono ?_; rintro r wq ⟨rfl, hwq⟩; subst hwq)
              exact ⟨⟨j + 1, by go_num, by omega, 0, HM9⟩, by simp [intOf]; omega⟩
            · have hne9 : (e9 != 0) = true := by simpa using h9
              have hne9' : (e9 == 0) = false := by simpa using h9
              obtain rfl := HF9.out.1 h9
              by_cases he : e = 0
              · subst he
                go_wp2_with (have H := HE9; go_at_call 26; refine H.out.mono ?_; rintro r wq ⟨rfl, hwq⟩; subst hwq)
                exact ⟨⟨j + 1, by go_num, by omega, e9, HM9⟩, by simp [intOf]; omega⟩
              · obtain rfl := HF9.out.2 he
                have hee : (e9 != e9) = false := by simp
                go_wp2_with (have H := HE9; go_at_call 26; refine H.out.mono ?_; rintro r wq ⟨rfl, hwq⟩; subst hwq)
                exact ⟨⟨j + 1, by go_num, by omega, e9, HM9⟩, by simp [intOf]; omega⟩
          have hnt0 : (t == 0) = false := by simpa using ht0
          by_cases ht1 : t = 1
          · subst ht1
            go_wp2_with fail
            refine (HCI.out _).mono ?_
            rintro r w8 ⟨A8, n8, c8, rfl, hL8, hE8, hk8⟩
            have HK9 := Lib.hid hk8
            have HL8 := Lib.hid hL8
            have HE8 := Lib.hid hE8
            clear hk8 hL8 hE8 HCI
            go_wp2_with fail
            refine (HLW.out _ _ _ _ HK9.out HL8.out HE8.out).mono ?_
            rintro r w9 ⟨n9, e9, rfl, hf9, hm9, -⟩
            have HF9 := Lib.hid hf9
            have HM9 := Lib.hid hm9
            have HE9 := Lib.hid hm9.err
            clear hf9 hm9 HLA HLI HLW HCA x0 x1 x2 x3 x4 x5 x6
            by_cases h9 : e9 = 0
            · subst h9
              have he : e = 0 := Classical.byContradiction fun h => h (HF9.out.2.2.1 h).symm
              subst he
              have hq1 := HF9.out.1
              have hq2 : ¬ n9 < -2147483647 := by omega
              have hq3 : ¬ 2147483647 < n9 := by omega
              have hq4 := HF9.out.2.2.2 rfl
              have hq5 : ¬ n9 < fr := by omega
              have hq6 : ¬ up < n9 := by omega
              clear hq1 hq4
              go_wp2_with (have H := HE9; go_at_call 26; refine H.out.mono ?_; rintro r wq ⟨rfl, hwq⟩; subst hwq)
              exact ⟨⟨j + 1, by go_num, by omega, 0, HM9⟩, by simp [intOf]; omega⟩
            · have hne9 : (e9 != 0) = true := by simpa using h9
              have hne9' : (e9 == 0) = false := by simpa using h9
              obtain rfl := HF9.out.2.1 h9
              by_cases he : e = 0
              · subst he
                go_wp2_with (have H := HE9; go_at_call 26; refine H.out.mono ?_; rintro r wq ⟨rfl, hwq⟩; subst hwq)
                exact ⟨⟨j + 1, by go_num, by omega, e9, HM9⟩, by simp [intOf]; omega⟩
              · obtain rfl := HF9.out.2.2.1 he
                have hee : (e9 != e9) = false := by simp
                go_wp2_with (have H := HE9; go_at_call 26; refine H.out.mono ?_; rintro r wq ⟨rfl, hwq⟩; subst hwq)
                exact ⟨⟨j + 1, by go_num, by omega, e9, HM9⟩, by simp [intOf]; omega⟩
          have hnt1 : (t == 1) = false := by simpa using ht1
          go_wp2_with fail
          refine (HCI.out _).mono ?_
          rintro r w8 ⟨A8, n8, c8, rfl, hL8, hE8, hk8⟩
          have HK9 := Lib.hid hk8
          have HL8 := Lib.hid hL8
          have HE8 := Lib.hid hE8
          clear hk8 hL8 hE8 HCI
          go_wp2_with fail
          refine (HLI.out _ _ _ _ HK9.out HL8.out HE8.out).mono ?_
          rintro r w9 ⟨n9, e9, rfl, hf9, hm9, -⟩
          have HF9 := Lib.hid hf9
          have HM9 := Lib.hid hm9
          have HE9 := Lib.hid hm9.err
          clear hf9 hm9 HLA HLI HLW HCA x0 x1 x2 x3 x4 x5 x6
          by_cases h9 : e9 = 0
          · subst h9
            have he : e = 0 := Classical.byContradiction fun h => h (HF9.out.2.2 h).symm
            subst he
            have hq1 := HF9.out.1
            have hq2 : ¬ n9 < -2147483647 := by omega
            have hq3 : ¬ 2147483647 < n9 := by omega
            clear hq1
            go_wp2_with (have H := HE9; go_at_call 26; refine H.out.mono ?_; rintro r wq ⟨rfl, hwq⟩; subst hwq)
            exact ⟨⟨j + 1, by go_num, by omega, 0, HM9⟩, by simp [intOf]; omega⟩
          · have hne9 : (e9 != 0) = true := by simpa using h9
            have hne9' : (e9 == 0) = false := by simpa using h9
            obtain rfl := HF9.out.2.1 h9
            by_cases he : e = 0
            · subst he
              go_wp2_with (have H := HE9; go_at_call 26; refine H.out.mono ?_; rintro r wq ⟨rfl, hwq⟩; subst hwq)
              exact ⟨⟨j + 1, by go_num, by omega, e9, HM9⟩, by simp [intOf]; omega⟩
            · obtain rfl := HF9.out.2.2 he
              have hee : (e9 != e9) = false := by simp
              go_wp2_with (have H := HE9; go_at_call 26; refine H.out.mono ?_; rintro r wq ⟨rfl, hwq⟩; subst hwq)
              exact ⟨⟨j + 1, by go_num, by omega, e9, HM9⟩, by simp [intOf]; omega⟩
        · obtain rfl : j = n4 := by omega
          have HKF : Hid (Keeps (fun _ => False) w wr) := keeps_low (Keeps.refl _ w) hkx (fun x hx => by have := HB.out; have hx : B ≤ x := hx; omega)
          have HTX := Lib.hid (HM.out.tab HT3.out HB.out.2)
          have HE := Lib.hid HM.out.err
          obtain ⟨⟨F5, s5, G5, N5, h5, hN5⟩, hk5⟩ := HM.out
          have HBX : Hid (B ≤ wr.heap.size) := Nat.le_trans HB.out.2 hk5.size
          have HN5 : Hid (N5 ≤ 60) := by have := HNN.out; show N5 ≤ 60; omega
          have H5 := Lib.hid h5
          clear h5 hN5 hk5 hkx HM
          go_wp2_with fail
          refine HE.out.mono ?_
          rintro r w5 ⟨rfl, hw5⟩
          subst hw5
          clear HE
          by_cases he : e = 0
          · subst he
            have HW1 := Lib.hid (wrong_ 19 _ H5.out)
            go_wp2_with fail
            refine HW1.out.mono ?_
            rintro r w6 ⟨rfl, h6, hs6⟩
            rw [show wrE 0 19 = 19 by decide] at h6
            have HT6 := Lib.hid (HTX.out.keeps HBX.out hs6.keeps fun x hx => (H5.out.lt x hx).1)
            have HB6 : Hid (B ≤ w6.heap.size) := Nat.le_trans HBX.out hs6.keeps.size
            have HK6 : Hid (Keeps (fun _ => False) w w6) := keeps_low HKF.out hs6.keeps (fun x hx => by have := (H5.out.lt x hx).1; have := HB.out; omega)
            have H6 := Lib.hid h6
            have HW2 := Lib.hid (wrong_ 17 _ h6)
            clear h6 hs6 HW1
            go_wp2_with fail
            refine HW2.out.mono ?_
            rintro r w7 ⟨rfl, h7, hs7⟩
            rw [show wrE 19 17 = 19 by decide] at h7
            have HT7 := Lib.hid (HT6.out.keeps HB6.out hs7.keeps fun x hx => (H6.out.lt x hx).1)
            have HB7 : Hid (B ≤ w7.heap.size) := Nat.le_trans HB6.out hs7.keeps.size
            have HK7 : Hid (Keeps (fun _ => False) w w7) := keeps_low HK6.out hs7.keeps (fun x hx => by have := (H6.out.lt x hx).1; have := HB.out; omega)
            have HEE := Lib.hid (err_ w7 h7)
            have HEN := Lib.hid (end_z w7 h7)
            have HLT := Lib.hid h7.lt
            have HIN := Lib.hid (fun W (k : Keeps (fun _ => False) w7 W) => int_ none 0 0 ⟨6, 0, [], 3, 0⟩ W (HT7.out.more HB7.out k) (h7.more k) (by have := HN5.out; omega) ⟨.inl rfl, rfl, by omega⟩ (by simp) (fun h => by omega))
            unfold dv at HIN
            clear h7 hs7 HW2
            go_wp2_with (first
              | (have H := HEE; go_at_call 26; refine H.out.mono ?_; rintro r w8 ⟨rfl, hw8⟩; subst hw8; clear HEE)
              | (have H := HEN; go_at_call 27; refine H.out.mono ?_; rintro r w9 ⟨E9, rfl, hE9, hk9⟩; obtain rfl := end_err hE9 (by decide); have HK9 := Lib.hid hk9; clear hE9 hk9 HEN)
              | (have H := HIN; go_at_call 28; refine (H.out _ HK9.out).mono ?_; rintro r w10 ⟨F10, n10, e10, s10, G10, rfl, h10, hs10, hr10⟩; obtain rfl : n10 = 0 := (within_any hr10).2.1 (by rw [(within_any hr10).2.2.1 (by decide)]; decide); have HK10 := Lib.hid (keeps_low (HK7.out.trans HK9.out) hs10.keeps (fun x hx => by have := (HLT.out x hx).1; have := HB.out; omega)); clear h10 hs10 hr10 HIN))
            go_ret
            exact ⟨rfl, HK10.out⟩
          · have hne : (e != 0) = true := by simpa using he
            have HEN := Lib.hid (end_z _ H5.out)
            go_wp2_with fail
            refine HEN.out.mono ?_
            rintro r w6 ⟨E6, rfl, hE6, hk6⟩
            obtain rfl := end_err hE6 he
            have HK6 := Lib.hid (HKF.out.trans hk6)
            clear hE6 hk6
            go_wp2
            go_ret
            exact ⟨by simp, HK6.out⟩
end Go.Proofs.YtgaofnmgdefdcaaGreatDoor.Le

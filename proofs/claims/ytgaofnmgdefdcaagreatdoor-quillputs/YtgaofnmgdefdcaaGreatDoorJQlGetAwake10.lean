/- quill.New, Row, Blocks, Block; a nil Quill. No conditions. -/
/- Awake, the fixed fact of layer 10's statements, answers true; nothing that was there turns. The condition: strconv's table of tens reads as its text lays it. -/
import Derived.Test.YtgaofnmgdefdcaaGreatDoorJQlFindQlInto
import Derived.Test.YtgaofnmgdefdcaaGreatDoorJQlIntQlArr
import Derived.Test.YtgaofnmgdefdcaaGreatDoorJQlStpQlSrt

namespace Go.Proofs.YtgaofnmgdefdcaaGreatDoor.Qu
open Go.RowKit Go.Proofs.YtgaofnmgdefdcaaGreatDoor.Ww Go.Proofs.YtgaofnmgdefdcaaGreatDoor.Gen Go.Proofs.YtgaofnmgdefdcaaGreatDoor.Mp Go.Proofs.YtgaofnmgdefdcaaGreatDoor.Cm Go.Proofs.YtgaofnmgdefdcaaGreatDoor.Wr Go.Proofs.YtgaofnmgdefdcaaGreatDoor.Bp Go.Proofs.YtgaofnmgdefdcaaGreatDoor.Qh Go.Proofs.YtgaofnmgdefdcaaGreatDoor.Qs Go.Proofs.YtgaofnmgdefdcaaGreatDoor.Qf Go.Proofs.YtgaofnmgdefdcaaGreatDoor.Qi Go.Proofs.YtgaofnmgdefdcaaGreatDoor.Qk

theorem Ql_base {F : Nat → Prop} {B B' g N : Nat} {l : List Nat} {G : Gs} {w : World} (h : Ql F B g l G N w) (hB : B' ≤ B) : Ql F B' g l G N w := by
  obtain ⟨Fb, Fc, v, mb, mc, h⟩ := h
  exact ⟨Fb, Fc, v, mb, mc, h.row, h.wms, h.kept, h.ab, h.bc, h.all, fun k hk => Nat.le_trans hB (h.low k hk)⟩
/-- A new Quill. -/
theorem new_q (B : Nat) (w : World) (hB : B ≤ w.heap.size) : Calls Tryz.prog 9 #[] w fun r w' => r = .returned (.pointer (some ⟨w.heap.size, 0, none⟩)) ∧ Ql (· = w.heap.size) B w.heap.size [] (fun _ => none) 0 w' ∧ Step (fun _ => False) (· = w.heap.size) w w' := by
  have HQ := Lib.hid (Ql_base (Ql.start w) hB)
  have HS : Hid (Step (fun _ => False) (· = w.heap.size) w (w.alloc (.cells #[.slice none 0 0, .int .u64 0, .int .i64 0, .map none, .map none] 77))) := ⟨(Keeps.refl _ _).alloc _, fun k hk => .inr (by omega)⟩
  go_enter Tryz.func9, Tryz.ntmps9
  go_wp2
  go_ret
  exact ⟨rfl, HQ.out, HS.out⟩
theorem int_nil (d : Array Value) (x : Int) (w : World) : Calls Tryz.prog 15 #[.pointer none, .agg d, .int .i64 x] w fun r w' => r = .returned (.int .i64 1) ∧ Keeps (fun _ => False) w w' := by
  go_enter Tryz.func15, Tryz.ntmps15
  go_wp2
  go_ret
  exact ⟨rfl, (Keeps.refl _ _).alloc _⟩
theorem array_nil (d : Array Value) (A : Option Addr) (n c : Nat) (w : World) : Calls Tryz.prog 10 #[.pointer none, .agg d, .slice A n c] w fun r w' => r = .returned (.int .i64 1) ∧ Keeps (fun _ => False) w w' := by
  go_enter Tryz.func10, Tryz.ntmps10
  go_wp2
  go_ret
  exact ⟨rfl, (Keeps.refl _ _).alloc _⟩
theorem row_nil (w : World) : Calls Tryz.prog 18 #[.pointer none] w fun r w' => r = .returned (.slice none 0 0) ∧ w' = w := by
  go_enter Tryz.func18, Tryz.ntmps18
  go_wp2
  go_ret
  exact ⟨rfl, rfl⟩
theorem blocks_nil (w : World) : Calls Tryz.prog 17 #[.pointer none] w fun r w' => r = .returned (.slice none 0 0) ∧ w' = w := by
  go_enter Tryz.func17, Tryz.ntmps17
  go_wp2
  go_ret
  exact ⟨rfl, rfl⟩
theorem block_nil (x : Int) (w : World) : Calls Tryz.prog 20 #[.pointer none, .int .i64 x] w fun r w' => r = .returned (.slice none 0 0) ∧ w' = w := by
  go_enter Tryz.func20, Tryz.ntmps20
  go_wp2
  go_ret
  exact ⟨rfl, rfl⟩
/-- Row: the row's bits as bytes, noughts behind. -/
theorem row_ (B g : Nat) (F : Nat → Prop) (l : List Nat) (G : Gs) (N : Nat) (w : World) (hq : Ql F B g l G N w) (hl : l.length ≤ 7999000) :
    Calls Tryz.prog 18 #[.pointer (some ⟨g, 0, none⟩)] w (Bw.Packed w.heap.size l w) := by
  obtain ⟨Fb, Fc, v, mb, mc, h⟩ := hq
  have HB := Lib.hid (Bq.bytes g 0 v l w h.row hl)
  clear h
  go_enter Tryz.func18, Tryz.ntmps18
  go_wp2_with fail
  refine HB.out.mono ?_
  rintro r w1 ⟨A, c, ys, n, hn, rfl, hp, hy, ho, hk⟩
  have H1 := Lib.hid hn
  have H2 := Lib.hid hp
  have H3 := Lib.hid hy
  have H4 := Lib.hid ho
  have H5 := Lib.hid hk
  clear hn hp hy ho hk HB
  go_wp2
  go_ret
  exact ⟨A, c, ys, n, H1.out, rfl, H2.out, H3.out, H4.out, H5.out⟩
/-- The numbers of blocks that there are, rising. -/
def bnums (G : Gs) : List Nat := (List.range 60001).filter fun i => (G i).isSome
theorem bnums_nums (G : Gs) : nums (fun i => (G i).map wptr) 60001 = bnums G := by
  unfold nums bnums
  refine List.filter_congr fun i _ => ?_
  show (Option.map wptr (G i)).isSome = (G i).isSome
  simp
theorem blocks_ (B g : Nat) (F : Nat → Prop) (l : List Nat) (G : Gs) (N : Nat) (w : World) (hq : Ql F B g l G N w) :
    Calls Tryz.prog 17 #[.pointer (some ⟨g, 0, none⟩)] w fun r w' => ∃ A c n, r = .returned (.slice A n c) ∧ (bnums G).length = n ∧ w'.ownsRow w.heap.size 3 1 (.slice A n c) n ((bnums G).map fun i : Nat => Value.int .i64 i) ∧ Keeps (fun _ => False) w w' := by
  obtain ⟨Fb, Fc, v, mb, mc, h⟩ := hq
  obtain ⟨last, o, hb, hr⟩ := row_cells h.row
  have hc3 : w.cell? ⟨g, 3, none⟩ = some mb := hb.cell 3
  have hw := h.wms.2
  clear h hr hb
  have HK := Lib.hid keysA
  rcases hw with ⟨rfl, hn⟩ | ⟨b, rfl, hm⟩
  · have hk1 := (Keeps.refl (fun _ => False) w).alloc (.cells #[.map none] 72)
    have HS := Lib.hid (sortedA_nil w.heap.size (w.alloc (.cells #[.map none] 72)) (by simp) ((Blk.new w 72 #[.map none]).cell 0))
    have HK1 := Lib.hid hk1
    have HE : Hid (bnums G = []) := by
      show bnums G = []
      unfold bnums
      rw [List.filter_eq_nil_iff]
      intro i _
      simp [hn i]
    clear hn hk1
    go_enter Tryz.func17, Tryz.ntmps17
    go_wp2_with (first
      | (go_at_call 44; refine (HK.out none _).mono ?_; rintro r w1 ⟨rfl, rfl⟩)
      | (have H := HS; go_at_call 43; refine H.out.mono ?_; rintro r w2 ⟨rfl, hk2⟩; have HK2 := Lib.hid (HK1.out.trans hk2); clear hk2 HS))
    go_ret
    exact ⟨none, 0, 0, rfl, by rw [HE.out]; rfl, by rw [HE.out]; exact World.ownsRow_nil _ _ _ _, HK2.out⟩
  · have hk1 := (Keeps.refl (fun _ => False) w).alloc (.cells #[.map (some b)] 72)
    have HS := Lib.hid (sortedA int_ks (fun i _ => rfl) (by omega) w.heap.size b (fun i => (G i).map wptr) (w.alloc (.cells #[.map (some b)] 72)) (by simp) ((Blk.new w 72 #[.map (some b)]).cell 0) (hm.map.keeps hk1 id))
    have HK1 := Lib.hid hk1
    clear hm hk1
    go_enter Tryz.func17, Tryz.ntmps17
    go_wp2_with (first
      | (go_at_call 44; refine (HK.out (some b) _).mono ?_; rintro r w1 ⟨rfl, rfl⟩)
      | (have H := HS; go_at_call 43; refine H.out.mono ?_; rintro r w2 ⟨v2, rfl, ho2, hk2⟩; have HK2 := Lib.hid (HK1.out.trans hk2); have HO := Lib.hid ho2; clear hk2 ho2 HS))
    go_ret
    have ho := HO.out
    rw [bnums_nums] at ho
    obtain ⟨A, c, rfl, _⟩ := own_form ho
    refine ⟨A, c, _, rfl, rfl, ?_, HK2.out⟩
    have e : (numZ (fun i => (G i).map wptr) 60001).map encZ = (bnums G).map fun i : Nat => Value.int .i64 i := by
      rw [numZ, bnums_nums, List.map_map]
      rfl
    rw [e] at ho
    exact own_base ho (by simp)
/-- A block's bytes. -/
def hadI (G : Gs) (x : Int) : List Int := if 0 ≤ x ∧ x ≤ 60000 then had G x.toNat else []
theorem look_out {w : World} {b : Nat} {val : Nat → Option Value} (h : IsF Tryz.prog 3 60001 ikl w b val) {x : Int} (hx : (Lit.int .i64 x).wf = true) (hn : ¬ (0 ≤ x ∧ x ≤ 60000)) :
    (Instr.lookup 72 (.map (some b)) (.int .i64 x) true).run Tryz.prog w = .ok (.tuple #[.pointer none, .bool false]) w := by
  obtain ⟨m, h1, h2⟩ := h
  refine ((h1.look w int_ks.keyed Tryz.underlying72 (zero_pit w) (Go.Maps.keyOf_int_mk Tryz.underlying3 hx)).2 fun hm => ?_).2
  obtain ⟨p, hp, e⟩ := List.mem_map.1 hm
  obtain ⟨i, hi, e1, _⟩ := h2.sub p hp
  rw [e1] at e
  unfold ikl at e
  injection e with _ e
  omega
theorem look_nilb (x : Int) (w : World) : (Instr.lookup 72 (.map none) (.int .i64 x) true).run Tryz.prog w = .ok (.tuple #[.pointer none, .bool false]) w :=
  look_none Tryz.underlying72 Tryz.underlying3 _ w (by unfold Instr.checkKey; simp [Tryz.underlying3, go_sem]) (zero_pit w)
theorem block_ (B g : Nat) (F : Nat → Prop) (l : List Nat) (G : Gs) (N : Nat) (x : Int) (m : Nat) (w : World) (hq : Ql F B g l G N w) (hx : (Lit.int .i64 x).wf = true) (hm : (hadI G x).length = m) :
    Calls Tryz.prog 20 #[.pointer (some ⟨g, 0, none⟩), .int .i64 x] w (Own w.heap.size m (hadI G x) w) := by
  obtain ⟨Fb, Fc, v, mb, mc, h⟩ := hq
  obtain ⟨last, o, hb, hr⟩ := row_cells h.row
  have hc3 : w.cell? ⟨g, 3, none⟩ = some mb := hb.cell 3
  have hw := h.wms.2
  have HM := Lib.hid hm
  clear h hr hb hm
  have hnone : hadI G x = [] → m = 0 := fun e => by rw [← HM.out, e]; rfl
  have HN := Lib.hid hnone
  clear hnone
  rcases hw with ⟨rfl, hn⟩ | ⟨b, rfl, hmm⟩
  · have hl := look_nilb x w
    have HE : Hid (hadI G x = []) := by
      show hadI G x = []
      unfold hadI had
      split
      · rw [hn]; rfl
      · rfl
    clear hn
    go_enter Tryz.func20, Tryz.ntmps20
    go_wp2
    go_ret
    obtain rfl := HN.out HE.out
    rw [HE.out]
    exact ⟨none, 0, rfl, World.ownsRow_nil _ _ _ _, Keeps.refl _ _⟩
  · by_cases hin : 0 ≤ x ∧ x ≤ 60000
    · obtain ⟨i, rfl⟩ := Int.eq_ofNat_of_zero_le hin.1
      have he : hadI G (i : Int) = had G i := by unfold hadI; rw [if_pos hin]; rfl
      have HE := Lib.hid he
      have HLK := Lib.hid (hmm.map.look int_ks Tryz.underlying72 (zero_pit w) (show i < 60001 by omega))
      cases hG : G i with
      | none =>
        have hlk := (HLK.out.2 (by rw [hG]; rfl)).2
        unfold ikv at hlk
        have HE0 : Hid (hadI G (i : Int) = []) := by show _ = _; rw [he]; simp [had, hG]
        clear HLK hmm hG he
        go_enter Tryz.func20, Tryz.ntmps20
        go_wp2
        go_ret
        obtain rfl := HN.out HE0.out
        rw [HE0.out]
        exact ⟨none, 0, rfl, World.ownsRow_nil _ _ _ _, Keeps.refl _ _⟩
      | some e =>
        obtain ⟨gi, vi, ys⟩ := e
        have hlk := (HLK.out.1 (.pointer (some ⟨gi, 0, none⟩)) (by rw [hG]; rfl)).2
        unfold ikv at hlk
        have he2 : had G i = ys := by simp [had, hG]
        have HYS : Hid (hadI G (i : Int) = ys) := by show _ = _; rw [he, he2]
        have HBY := Lib.hid (Ww.bytes_n gi 0 vi ys m w (by rw [← HM.out, he, he2]) (hmm.wr i _ hG).2.1)
        clear HLK hmm hG he he2
        go_enter Tryz.func20, Tryz.ntmps20
        go_wp2_with fail
        refine HBY.out.mono ?_
        rintro r w1 ⟨A, c, rfl, ho, hk⟩
        have HO := Lib.hid ho
        have HK := Lib.hid hk
        clear ho hk HBY
        go_wp2
        go_ret
        rw [HYS.out]
        exact ⟨A, c, rfl, HO.out, HK.out⟩
    · have hlk := look_out hmm.map hx hin
      have HE0 : Hid (hadI G x = []) := by show _ = _; unfold hadI; rw [if_neg hin]
      clear hmm
      go_enter Tryz.func20, Tryz.ntmps20
      go_wp2
      go_ret
      obtain rfl := HN.out HE0.out
      rw [HE0.out]
      exact ⟨none, 0, rfl, World.ownsRow_nil _ _ _ _, Keeps.refl _ _⟩
end Go.Proofs.YtgaofnmgdefdcaaGreatDoor.Qu

namespace Go.Proofs.YtgaofnmgdefdcaaGreatDoor.Qu
open Go.RowKit Go.Proofs.YtgaofnmgdefdcaaGreatDoor.Ww Go.Proofs.YtgaofnmgdefdcaaGreatDoor.Gen Go.Proofs.YtgaofnmgdefdcaaGreatDoor.Mp Go.Proofs.YtgaofnmgdefdcaaGreatDoor.Cm Go.Proofs.YtgaofnmgdefdcaaGreatDoor.Wr Go.Proofs.YtgaofnmgdefdcaaGreatDoor.Bp Go.Proofs.YtgaofnmgdefdcaaGreatDoor.Ds Go.Proofs.YtgaofnmgdefdcaaGreatDoor.Qh Go.Proofs.YtgaofnmgdefdcaaGreatDoor.Qs Go.Proofs.YtgaofnmgdefdcaaGreatDoor.Qf Go.Proofs.YtgaofnmgdefdcaaGreatDoor.Qc Go.Proofs.YtgaofnmgdefdcaaGreatDoor.Qi Go.Proofs.YtgaofnmgdefdcaaGreatDoor.Qk

theorem range_one {n k : Nat} (h : k < n) : ((List.range n).filter fun i => decide (i = k)) = [k] := by
  have h1 : ((List.range n).filter fun i => decide (i = k)).Perm [k] := by
    refine nodup_all (List.Pairwise.filter _ List.nodup_range) (by simp) (fun x hx => ?_) (fun x hx => ?_)
    · have := (List.mem_filter.1 hx).2
      simpa using this
    · rw [List.mem_singleton.1 hx]
      exact List.mem_filter.2 ⟨List.mem_range.2 h, by simp⟩
  exact List.perm_singleton.1 h1
theorem cont_some (G : Gs) (i : Nat) : (cont G i).isSome = (G i).isSome := by simp [cont]
theorem bnums_one {G : Gs} {k : Nat} {ys : List Int} (h : cont G = pc (fun _ => none) k ys) (hk : k < 60001) : bnums G = [k] := by
  rw [← range_one hk, bnums]
  refine List.filter_congr fun i _ => ?_
  rw [← cont_some, h]
  unfold pc
  by_cases hi : i = k
  · simp [hi]
  · simp [hi]
theorem put300 : pInt ⟨1, 3, [], 0, 0⟩ 300 ([], fun _ => none) = (0, ([], pc (fun _ => none) 3 [129, 44])) := by
  have h : chkI ⟨1, 3, [], 0, 0⟩ = 0 := by decide
  have e : hadP (fun _ => none) (3 : Int).toNat ++ It.encInt (sg 300) = [129, 44] := by decide
  simp only [pInt, h, if_true, putN]
  rw [if_neg (by omega), e]
  rfl
theorem put5 (f : Nat → Option (List Int)) : pInt ⟨6, 0, [], 0, 3⟩ 5 ([], f) = (0, ([1, 0, 1], f)) := by
  have h : chkI ⟨6, 0, [], 0, 3⟩ = 0 := by decide
  have e : ([] : List Nat) ++ tb ((5 : Int) - 0).toNat (3 : Int).toNat = [1, 0, 1] := by decide
  simp only [pInt, h, if_true, putN]
  rw [if_neg (by omega), if_neg (by decide), if_neg (by decide), putF, if_neg (by decide), e]

set_option maxHeartbeats 8000000 in
set_option maxRecDepth 100000 in
theorem awake (w : World) (ht : Tab w.heap.size w) : Calls Tryz.prog 8 #[] w fun r w' => r = .returned (.bool true) ∧ Keeps (fun _ => False) w w' := by
  have HT := Lib.hid ht
  have hwf : ∀ x : Int, -9223372036854775808 ≤ x → x ≤ 9223372036854775807 → (Lit.int .i64 x).wf = true := by
    intro x h0 h1
    have hm : IntKind.i64.min = -9223372036854775808 ∧ IntKind.i64.max = 9223372036854775807 := by decide
    simp [Lit.wf, hm.1, hm.2]
    omega
  have HW := Lib.hid hwf
  obtain ⟨B, hB⟩ : ∃ B, B = w.heap.size := ⟨_, rfl⟩
  rw [← hB] at HT
  have HB : Hid (B = w.heap.size) := hB
  clear ht hwf hB
  go_enter Tryz.func8, Tryz.ntmps8
  go_wp2_with fail
  refine (new_q B w (by have := HB.out; omega)).mono ?_
  rintro r w1 ⟨rfl, hq1, hs1⟩
  obtain ⟨g, hg⟩ : ∃ g, g = w.heap.size := ⟨_, rfl⟩
  rw [← hg] at hq1 hs1 ⊢
  have hk1 : Keeps (fun _ => False) w w1 := hs1.keeps
  have hB1 : B ≤ w1.heap.size := by have := HB.out; have := hk1.size; omega
  have HI1 := Lib.hid (int_ B g (· = g) [] (fun _ => none) 0 none 0 0 ⟨1, 3, [], 0, 0⟩ 300 w1 (HT.out.more (by have := HB.out; omega) hk1) hB1 hq1 (by omega) (by simp) (by intro i; simp [had]) ⟨.inl rfl, rfl, by omega⟩ (by simp) (by simp) (HW.out 300 (by omega) (by omega)))
  unfold dv at HI1
  have ec : cont (fun _ => none) = fun _ => none := rfl
  rw [ec, put300] at HI1
  simp only at HI1
  have HS1 := Lib.hid hs1
  have HB1 := Lib.hid hB1
  clear hq1 hs1 hk1 hB1 hg
  go_wp2_with fail
  refine HI1.out.mono ?_
  rintro r w2 ⟨F2, G2, rfl, hq2, hc2, hs2⟩
  have HS2 := Lib.hid (HS1.out.trans hs2)
  have hB2 : B ≤ w2.heap.size := Nat.le_trans HB1.out hs2.keeps.size
  have hh : ∀ i, (had G2 i).length ≤ 2 := by
    intro i
    rw [had_cont, hc2]
    show (hadP (pc (fun _ => none) 3 [129, 44]) i).length ≤ 2
    simp only [hadP, pc]
    split <;> simp
  have HI2 := Lib.hid (int_ B g F2 [] G2 (0 + 1) none 0 0 ⟨6, 0, [], 0, 3⟩ 5 w2 (HT.out.keeps (by have := HB.out; omega) HS2.out.keeps (fun _ h => h.elim)) hB2 hq2 (by omega) (by simp) (fun i => by have := hh i; omega) ⟨.inl rfl, rfl, by omega⟩ (by simp) (by simp) (HW.out 5 (by omega) (by omega)))
  unfold dv at HI2
  rw [put5] at HI2
  simp only at HI2
  have HC2 := Lib.hid hc2
  clear hq2 hc2 hs2 hB2 HI1 hh
  go_wp2_with fail
  refine HI2.out.mono ?_
  rintro r w3 ⟨F3, G3, rfl, hq3, hc3, hs3⟩
  have HS3 := Lib.hid (HS2.out.trans hs3)
  have HQ3 := Lib.hid (show Ql F3 B g [1, 0, 1] G3 _ w3 from hq3)
  have HC3 : Hid (cont G3 = pc (fun _ => none) 3 [129, 44]) := by show cont G3 = _; rw [hc3, HC2.out]
  have HBN : Hid ((bnums G3).length = 1) := by show (bnums G3).length = 1; rw [bnums_one HC3.out (by omega)]; rfl
  have HHI : Hid (hadI G3 3 = [129, 44]) := by
    show hadI G3 3 = _
    unfold hadI
    rw [if_pos (by omega), had_cont, HC3.out]
    rfl
  have HBL := Lib.hid (blocks_ B g F3 [1, 0, 1] G3 _ w3 hq3)
  clear hq3 hc3 hs3 HI2 HC2
  go_wp2_with (first
    | (have H := HBL; go_at_call 17; refine H.out.mono ?_; rintro r w4 ⟨A4, c4, n4, rfl, hn4, ho4, hk4⟩; obtain rfl : n4 = 1 := (hn4.symm.trans HBN.out); have HK4 := Lib.hid hk4; have HBK := Lib.hid (block_ B g F3 [1, 0, 1] G3 _ 3 2 w4 (HQ3.out.more hk4) (HW.out 3 (by omega) (by omega)) (by rw [HHI.out]; rfl)); clear hn4 ho4 hk4 HBL)
    | (have H := HBK; go_at_call 20; refine H.out.mono ?_; rintro r w5 ⟨A5, c5, rfl, ho5, hk5⟩; rw [HHI.out] at ho5; have hcv := (Lies.of_own ho5).str_n (P := Tryz.prog) 2 rfl 29 9 5 c5 Tryz.underlying29 Tryz.underlying5 Tryz.underlying9; rw [show strOfNums [129, 44] = ⟨#[129, 44]⟩ from rfl] at hcv; have HK5 := Lib.hid (HK4.out.trans hk5); have HRW := Lib.hid (row_ B g F3 [1, 0, 1] G3 _ w5 (HQ3.out.more HK5.out) (by simp)); clear ho5 hk5 HBK)
    | (have H := HRW; go_at_call 18; refine H.out.mono ?_; rintro r w6 ⟨A6, c6, ys, n6, hn6, rfl, hpk, hby, hv6, hk6⟩; obtain rfl : ys = [160] := Bw.packed_one hpk ⟨by decide, by decide⟩ hby (by decide); subst hn6; have hcw := (Lies.of_own hv6).str_n (P := Tryz.prog) 1 rfl 29 9 5 c6 Tryz.underlying29 Tryz.underlying5 Tryz.underlying9; rw [show strOfNums [160] = ⟨#[160]⟩ from rfl] at hcw; have HK6 := Lib.hid (HK5.out.trans hk6); clear hpk hby hv6 hk6 HRW))
  go_ret
  exact ⟨rfl, HS3.out.keeps.trans HK6.out⟩
end Go.Proofs.YtgaofnmgdefdcaaGreatDoor.Qu

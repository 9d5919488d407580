/- Entries and kinds taken from a Reader (desc's takeEntries, takeKind): any bytes. -/
import Derived.Test.YtankkadfaokaoaaJAwake9DsTkP
namespace Go.Proofs.Ytankkadfaokaoaa.Ds
open Go.RowKit Go.Proofs.Ytankkadfaokaoaa.Gen Go.Proofs.Ytankkadfaokaoaa.Wr Go.Proofs.Ytankkadfaokaoaa.It Go.Proofs.Ytankkadfaokaoaa.Ir Go.Proofs.Ytankkadfaokaoaa.Ib Go.Proofs.Ytankkadfaokaoaa.Tw Go.Proofs.Ytankkadfaokaoaa.Hr Go.Proofs.Ytankkadfaokaoaa.Hz Go.Proofs.Ytankkadfaokaoaa.Hn Go.Proofs.Ytankkadfaokaoaa.Hk Go.Proofs.Ytankkadfaokaoaa.Ln

def gc (L : List G) : Array Value := (gvs L).toArray
theorem gvs_set0 : ∀ (L : List G) (j : Nat) (x : Int), j < L.length → (gvs L).set (j * 2) (.int .i64 x) = gvs (L.set j (x, (L.getD j (0, 0)).2))
  | [], j, x, h => by simp at h
  | a :: l, 0, x, _ => by simp [gvs]
  | a :: l, j + 1, x, h => by
    have := gvs_set0 l j x (by simpa using h)
    simp only [gvs, List.flatMap_cons, List.set_cons_succ] at this ⊢
    rw [show (j + 1) * 2 = j * 2 + 1 + 1 by omega]
    simp [this]
theorem gvs_set1 : ∀ (L : List G) (j : Nat) (x : Int), j < L.length → (gvs L).set (j * 2 + 1) (.int .i64 x) = gvs (L.set j ((L.getD j (0, 0)).1, x))
  | [], j, x, h => by simp at h
  | a :: l, 0, x, _ => by simp [gvs]
  | a :: l, j + 1, x, h => by
    have := gvs_set1 l j x (by simpa using h)
    simp only [gvs, List.flatMap_cons, List.set_cons_succ] at this ⊢
    rw [show (j + 1) * 2 + 1 = j * 2 + 1 + 1 + 1 by omega]
    simp [this]
theorem gc_set0 {L : List G} {j : Nat} {x : Int} (h : j < L.length) : (gc L).setIfInBounds (j * 2) (.int .i64 x) = gc (L.set j (x, (L.getD j (0, 0)).2)) := by
  unfold gc
  rw [← gvs_set0 L j x h]
  simp
theorem gc_set1 {L : List G} {j : Nat} {x : Int} (h : j < L.length) : (gc L).setIfInBounds (j * 2 + 1) (.int .i64 x) = gc (L.set j ((L.getD j (0, 0)).1, x)) := by
  unfold gc
  rw [← gvs_set1 L j x h]
  simp
theorem ents_of {w : World} {g n : Nat} {L : List G} (h : Blk w g 66 (gc L)) (hn : L.length = n) (hl : n ≤ 1000) : Ents w (some ⟨g, 0, none⟩) n L :=
  ⟨.inr ⟨g, 0, rfl, h.lt, fun i _ => by rw [Nat.zero_add, h.cell, gc, List.getElem?_toArray]⟩, hn, hl⟩
theorem make_ents (t : Nat) (ht : t ≤ 1000000) (w : World) : (Instr.makeSlice 29 (.int .i64 (t : Int)) (.int .i64 (t : Int))).run Try.prog w = .ok (.slice (some ⟨w.heap.size, 0, none⟩) t t) (w.alloc (.cells (gc (List.replicate t (0, 0))) 66)) := by
  obtain ⟨i0, hi0, hz0, hz1, hz2⟩ := info_parts ent_info
  have h := run_make (P := Try.prog) w 29 66 i0 _ Try.underlying29 hi0 hz0 .i64 .i64 (t : Int) (t : Int) (by omega) (by omega) (by rw [hz2]; omega) (by omega)
  rw [hz1, Int.toNat_natCast] at h
  have e : madeCells (Value.agg #[.int .i64 0, .int .i64 0]).cells (t * 2) = gc (List.replicate t (0, 0)) := by
    apply Array.toList_inj.1
    rw [made_ents, gc]
    have := gvs_ints (List.replicate t ((0 : Int), (0 : Nat)))
    simp only [ints, List.map_replicate] at this
    simpa using this.symm
  rw [e] at h
  exact h
theorem set_at {l : List Int} {n j : Nat} {x : Int} (hl : l.length = j) (hj : j < n) : (l ++ List.replicate (n - j) 0).set j x = (l ++ [x]) ++ List.replicate (n - (j + 1)) 0 := by
  rw [List.set_append_right _ _ (by omega), hl, Nat.sub_self, show n - j = (n - (j + 1)) + 1 by omega, List.replicate_succ, List.set_cons_zero]
  simp
theorem set_fst {M : List G} {j : Nat} {x : Int} : (M.set j (x, (M.getD j (0, 0)).2)).map (·.1) = (M.map (·.1)).set j x ∧ (M.set j (x, (M.getD j (0, 0)).2)).map (·.2) = M.map (·.2) := by
  constructor
  · rw [List.map_set]
  · rw [List.map_set]
    apply List.ext_getElem?
    intro i
    rw [List.getElem?_set]
    split
    · rename_i h
      subst h
      split
      · rename_i h
        rw [List.length_map] at h
        simp [List.getD_eq_getElem?_getD, List.getElem?_eq_getElem h]
      · rename_i h
        rw [List.getElem?_eq_none (by omega)]
    · rfl
theorem set_snd {M : List G} {j : Nat} {x : Int} : (M.set j ((M.getD j (0, 0)).1, x)).map (·.2) = (M.map (·.2)).set j x ∧ (M.set j ((M.getD j (0, 0)).1, x)).map (·.1) = M.map (·.1) := by
  constructor
  · rw [List.map_set]
  · rw [List.map_set]
    apply List.ext_getElem?
    intro i
    rw [List.getElem?_set]
    split
    · rename_i h
      subst h
      split
      · rename_i h
        rw [List.length_map] at h
        simp [List.getD_eq_getElem?_getD, List.getElem?_eq_getElem h]
      · rename_i h
        rw [List.getElem?_eq_none (by omega)]
    · rfl

theorem kind_ (g : Nat) (s : RS) (base : Nat) (w : World) (h : IsRd base g s w) : Calls Try.prog 49 #[rd g] w (Turns base g (.int .u8 (RS.count s 255).1) (RS.count s 255).2 w) := by
  have H := Lib.hid h
  obtain ⟨hv0, hv1⟩ := count_in h.2.1 (m := 255) (by omega)
  clear h
  have HI := Lib.hid (fun W hr => count g s base 255 W hr)
  have hw : IntKind.u8.wrap (RS.count s 255).1 = (RS.count s 255).1 := IntWalk.u8_in _ (by omega)
  generalize RS.count s 255 = p at *
  obtain ⟨n, s1⟩ := p
  simp only at hv0 hv1 hw
  unfold rd at HI ⊢
  go_enter Try.func49, Try.ntmps49
  go_wp2_with fail
  generalize hW : w.alloc (.cells #[.pointer (some ⟨g, 0, none⟩)] 46) = W
  have HX : Hid (Box w g W) := by subst hW; exact Box.new w g H.out.lt
  have HR := Lib.hid (HX.out.rd H.out hW.symm)
  clear hW H
  refine (HI.out W HR.out).mono ?_
  rintro e w1 ⟨rfl, hr1, hkk1⟩
  have HX1 := Lib.hid (HX.out.next hkk1)
  have HR1 := Lib.hid hr1
  clear hr1 hkk1 HI HX HR
  go_wp2
  go_ret
  exact ⟨rfl, HR1.out, HX1.out.2.1⟩

/-- The blocks of a taking of entries: the Reader's variable, the row. -/
structure Tks (base g B : Nat) (M : List G) (s : RS) (w wr : World) : Prop where
  box : Box w g wr
  row : Blk wr B 66 (gc M)
  rd : IsRd base g s wr
theorem Tks.next {base g B : Nat} {M : List G} {s s1 : RS} {w wr w1 : World} (h : Tks base g B M s w wr) (hB : w.heap.size < B) (hr : IsRd base g s1 w1) (k : Keeps (· = g) wr w1) : Tks base g B M s1 w w1 :=
  ⟨h.box.next k, h.row.keeps k (fun e => by have := h.box.2.2; omega), hr⟩
theorem Tks.set {base g B i : Nat} {M M' : List G} {s : RS} {w wr : World} {u : Value} (h : Tks base g B M s w wr) (hB : w.heap.size < B) (he : (gc M).setIfInBounds i u = gc M') : Tks base g B M' s w (wr.setCell ⟨B, i, none⟩ u) := by
  have k : Keeps (· = B) wr (wr.setCell ⟨B, i, none⟩ u) := (Keeps.refl _ _).setOwn i _
  refine ⟨⟨h.box.1.keeps k (by omega), h.box.2.1.setCell (p := ⟨B, i, none⟩) (.inr (by show w.heap.size ≤ B; omega)) _, h.box.2.2⟩, ?_, h.rd.low k (fun b _ hb e => by have := h.box.2.2; omega)⟩
  rw [← he]
  exact h.row.setCell i u

set_option maxHeartbeats 8000000 in
set_option maxRecDepth 100000 in
theorem take_ents (g : Nat) (s : RS) (base : Nat) (w : World) (h : IsRd base g s w) :
    Calls Try.prog 51 #[rd g] w fun r w' => ∃ B n, r = .returned (.slice (some ⟨B, 0, none⟩) n n) ∧ w.heap.size ≤ B ∧ Ents w' (some ⟨B, 0, none⟩) n (tkE s).1 ∧ n ≤ 256 ∧ IsRd base g (tkE s).2 w' ∧ Keeps (· = g) w w' := by
  have H := Lib.hid h
  obtain ⟨hv0, hv1⟩ := count_in h.2.1 (m := 256) (by omega)
  have HI := Lib.hid (fun W hr => count g s base 256 W hr)
  have HTE : Hid (tkE s = tkL (RS.count s 256).2 (RS.count s 256).1.toNat) := rfl
  generalize RS.count s 256 = p at *
  obtain ⟨n0, s1⟩ := p
  obtain ⟨n, rfl⟩ := Int.eq_ofNat_of_zero_le hv0
  simp only [Int.toNat_natCast] at hv1 HTE
  obtain ⟨T, hT⟩ : ∃ T, T = tkE s := ⟨_, rfl⟩
  rw [← hT] at HTE ⊢
  clear h hv0 hT
  have hn : n ≤ 256 := by omega
  have hn2 : n ≤ 1000000 := by omega
  have HN := Lib.hid hn
  have hmk := fun w => make_ents n hn2 w
  clear hv1 hn hn2
  unfold rd at HI ⊢
  go_enter Try.func51, Try.ntmps51
  go_upto_region 1 with fail
  generalize hW : w.alloc (.cells #[.pointer (some ⟨g, 0, none⟩)] 46) = W
  have HX : Hid (Box w g W) := by subst hW; exact Box.new w g H.out.lt
  have HR := Lib.hid (HX.out.rd H.out hW.symm)
  have hx := HX.out.cell
  clear hW H
  go_upto_region 2 with (
    go_at_call 50
    refine (HI.out W HR.out).mono ?_
    rintro e w1 ⟨rfl, hr1, hkk1⟩
    have HX1 := Lib.hid (HX.out.next hkk1)
    have HR1 : Hid (IsRd base g s1 w1) := hr1
    clear hr1 hkk1 HI HX HR hx)
  obtain ⟨B, hB⟩ : ∃ B, w1.heap.size = B := ⟨_, rfl⟩
  have HT0 : Hid (Tks base g B (List.replicate n (0, 0)) s1 w (w1.alloc (.cells (gc (List.replicate n (0, 0))) 66))) := by
    have k : Keeps (fun _ => False) w1 (w1.alloc (.cells (gc (List.replicate n (0, 0))) 66)) := (Keeps.refl _ _).alloc _
    refine Lib.hid ⟨HX1.out.next k.none_, ?_, HR1.out.keeps k (fun _ _ => id)⟩
    rw [← hB]
    exact Blk.new _ _ _
  have HBL : Hid (w.heap.size < B) := by have := HX1.out.1.lt; show _ < _; omega
  have hbl := HBL.out
  generalize w1.alloc (.cells (gc (List.replicate n (0, 0))) 66) = W2 at HT0 ⊢
  rw [hB]
  clear hB HX1 HR1 hmk
  go_wp2_with fail
  go_loopw [4, 11] (fun _ i wr => ∃ (j : Nat) (M : List G), i = .int .i64 (j : Int) ∧ j ≤ n ∧ Hid (Tks base g B M (tkS s1 j).2 w wr ∧ M.map (·.1) = (tkS s1 j).1 ++ List.replicate (n - j) 0 ∧ M.map (·.2) = List.replicate n 0)) (fun _ i _ => n - (intOf i).toNat)
  case atStart => exact ⟨0, _, rfl, by omega, Lib.hid ⟨HT0.out, by simp [tkS], by simp⟩⟩
  case round =>
    clear HT0
    obtain ⟨j, M, rfl, hj, HH⟩ := hrel
    have HML : Hid (M.length = n) := by
      show M.length = n
      have := congrArg List.length HH.out.2.2
      simpa using this
    by_cases hlt : j < n
    · have HS := Lib.hid (fun W (hr : IsRd base g (tkS s1 j).2 W) => signed g (tkS s1 j).2 base W hr)
      have HS1 : Hid (tkS s1 (j + 1) = ((tkS s1 j).1 ++ [sign32 (RS.int (tkS s1 j).2).1], (RS.int (tkS s1 j).2).2)) := rfl
      obtain ⟨x, hx⟩ : ∃ x, sign32 (RS.int (tkS s1 j).2).1 = x := ⟨_, rfl⟩
      rw [hx] at HS HS1
      unfold rd at HS
      have hbx := HH.out.1.box.cell
      have HLT := Lib.hid hlt
      have hj0 : (j : Int) < (n : Int) := by omega
      have hj1 : (0 : Int) ≤ (j : Int) := by omega
      have hjw : IntKind.i64.wrap ((j : Int) + 1) = (j : Int) + 1 := IntWalk.i64_in _ (by have := HN.out; omega)
      clear hx hlt hj
      go_wp2_with (
        go_at_call 52
        refine (HS.out _ HH.out.1.rd).mono ?_
        rintro e w3 ⟨rfl, hr3, hk3⟩
        have HT3 := Lib.hid (HH.out.1.next HBL.out hr3 hk3)
        have hc3 : w3.cell? ⟨B, j * 2, none⟩ = some (.int .i64 (M.getD j (0, 0)).1) := by
          rw [HT3.out.row.cell, gc, List.getElem?_toArray]
          exact gvs_get0 M j (by rw [HML.out]; exact HLT.out)
        have hz3 := HT3.out.row.frozen (j * 2)
        clear hr3 hk3 hbx)
      have hjn := HLT.out
      refine ⟨⟨j + 1, M.set j (x, (M.getD j (0, 0)).2), by go_num, by omega, ?_⟩, by simp [intOf]; omega⟩
      refine Lib.hid ⟨?_, ?_, ?_⟩
      · rw [HS1.out]
        exact HT3.out.set HBL.out (gc_set0 (by rw [HML.out]; exact HLT.out))
      · rw [set_fst.1, HH.out.2.1, set_at (tkS_len s1 j) HLT.out, HS1.out]
      · rw [set_fst.2, HH.out.2.2]
    · obtain rfl : j = n := by omega
      obtain ⟨s2, hs2⟩ : ∃ s2, (tkS s1 j).2 = s2 := ⟨_, rfl⟩
      have HS2 := Lib.hid hs2
      rw [hs2] at HH
      clear hs2 hlt
      go_wp2_with fail
      go_loopw [5, 23] (fun _ i wr => ∃ (k : Nat) (M : List G), i = .int .i64 (k : Int) ∧ k ≤ j ∧ Hid (Tks base g B M (tkZ s2 k).2 w wr ∧ M.map (·.2) = (tkZ s2 k).1 ++ List.replicate (j - k) 0 ∧ M.map (·.1) = (tkS s1 j).1)) (fun _ i _ => j - (intOf i).toNat)
      case atStart =>
        refine ⟨0, M, rfl, by omega, Lib.hid ⟨HH.out.1, ?_, ?_⟩⟩
        · have := HH.out.2.2; simpa [tkZ] using this
        · have := HH.out.2.1; simpa using this
      case round =>
        clear HH HML
        obtain ⟨k, M, rfl, hk, HH⟩ := hrel
        have HML : Hid (M.length = j) := by
          show M.length = j
          have := congrArg List.length HH.out.2.2
          simpa [tkS_len] using this
        by_cases hlt : k < j
        · have HS := Lib.hid (fun W (hr : IsRd base g (tkZ s2 k).2 W) => count g (tkZ s2 k).2 base 20 W hr)
          have HS1 : Hid (tkZ s2 (k + 1) = ((tkZ s2 k).1 ++ [(RS.count (tkZ s2 k).2 20).1], (RS.count (tkZ s2 k).2 20).2)) := rfl
          obtain ⟨x, hx⟩ : ∃ x, (RS.count (tkZ s2 k).2 20).1 = x := ⟨_, rfl⟩
          rw [hx] at HS HS1
          unfold rd at HS
          have hbx := HH.out.1.box.cell
          have HLT := Lib.hid hlt
          have hj0 : (k : Int) < (j : Int) := by omega
          have hj1 : (0 : Int) ≤ (k : Int) := by omega
          have hjw : IntKind.i64.wrap ((k : Int) + 1) = (k : Int) + 1 := IntWalk.i64_in _ (by have := HN.out; omega)
          clear hx hlt hk hj
          go_wp2_with (
            go_at_call 50
            refine (HS.out _ HH.out.1.rd).mono ?_
            rintro e w3 ⟨rfl, hr3, hk3⟩
            have HT3 := Lib.hid (HH.out.1.next HBL.out hr3 hk3)
            have hc3 : w3.cell? ⟨B, k * 2 + 1, none⟩ = some (.int .i64 (M.getD k (0, 0)).2) := by
              rw [HT3.out.row.cell, gc, List.getElem?_toArray]
              exact gvs_get1 M k (by rw [HML.out]; exact HLT.out)
            have hz3 := HT3.out.row.frozen (k * 2 + 1)
            clear hr3 hk3 hbx)
          have hjn := HLT.out
          refine ⟨⟨k + 1, M.set k ((M.getD k (0, 0)).1, x), by go_num, by omega, ?_⟩, by simp [intOf]; omega⟩
          refine Lib.hid ⟨?_, ?_, ?_⟩
          · rw [HS1.out]
            exact HT3.out.set HBL.out (gc_set1 (by rw [HML.out]; exact HLT.out))
          · rw [set_snd.1, HH.out.2.1, set_at (tkZ_len s2 k) HLT.out, HS1.out]
          · rw [set_snd.2, HH.out.2.2]
        · obtain rfl : k = j := by omega
          have HM : Hid (M = (tkL s1 k).1) := by
            show M = _
            have h1 := HH.out.2.1
            have h2 := HH.out.2.2
            rw [Nat.sub_self, List.replicate_zero, List.append_nil] at h1
            rw [tkL, HS2.out, ← h1, ← h2]
            exact List.zip_of_prod rfl rfl
          go_wp2
          go_ret
          rw [HTE.out]
          refine ⟨B, k, rfl, by omega, ?_, HN.out, ?_, HH.out.1.box.2.1⟩
          · rw [← HM.out]
            exact ents_of HH.out.1.row HML.out (by have := HN.out; omega)
          · have := HH.out.1.rd
            rw [← HS2.out] at this
            exact this
end Go.Proofs.Ytankkadfaokaoaa.Ds

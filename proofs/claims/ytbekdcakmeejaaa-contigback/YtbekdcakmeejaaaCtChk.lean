/- What is wrong with contigs (Check), which are the same (Same): any contigs. -/
import Derived.Test.YtbekdcakmeejaaaCtRef
namespace Go.Proofs.Ytbekdcakmeejaaa.Ct
open Go.RowKit Go.Proofs.Ytbekdcakmeejaaa.Gen

theorem chkL_next {seen : List Pr} {t : Nat} {p : Pr} {ps : List Pr} (h : err1 seen t p = 0) : chkL seen t (p :: ps) = chkL (seen ++ [p]) (t + p.2.length) ps := by rw [chkL, if_pos h]
theorem chkL_stop {seen : List Pr} {t : Nat} {p : Pr} {ps : List Pr} {x : Int} (h : err1 seen t p = x) (hx : x ≠ 0) : chkL seen t (p :: ps) = x := by rw [chkL, if_neg (by rw [h]; exact hx), h]
/-- Up to place j all is right, with so many letters. -/
def Upto (ps : List Pr) (j t : Nat) : Prop := chkL [] 0 ps = chkL (ps.take j) t (ps.drop j)
theorem Upto.stop {ps : List Pr} {j t : Nat} {p : Pr} {x : Int} (h : Upto ps j t) (hp : ps[j]? = some p) (he : err1 (ps.take j) t p = x) (hx : x ≠ 0) : chkL [] 0 ps = x := by
  obtain ⟨hj, rfl⟩ := List.getElem?_eq_some_iff.1 hp
  rw [h, List.drop_eq_getElem_cons hj, chkL_stop he hx]
theorem Upto.next {ps : List Pr} {j t : Nat} {p : Pr} (h : Upto ps j t) (hp : ps[j]? = some p) (he : err1 (ps.take j) t p = 0) : Upto ps (j + 1) (t + p.2.length) := by
  obtain ⟨hj, rfl⟩ := List.getElem?_eq_some_iff.1 hp
  rw [Upto, h, List.drop_eq_getElem_cons hj, chkL_next he, List.take_succ_eq_append_getElem hj]
theorem Upto.done {ps : List Pr} {j t : Nat} (h : Upto ps j t) (hj : j = ps.length) : chkL [] 0 ps = 0 := by
  rw [h, hj, List.drop_length]
  rfl
theorem fnd_self {ps : List Pr} {j : Nat} {p : Pr} (hp : ps[j]? = some p) : (fnd p.1 ps = j) ↔ p.1 ∉ (ps.take j).map Prod.fst := by
  obtain ⟨hj, rfl⟩ := List.getElem?_eq_some_iff.1 hp
  have h := find_self (ps.take j) ps[j] (ps.drop (j + 1))
  rw [← List.drop_eq_getElem_cons hj, List.take_append_drop, List.length_take, Nat.min_eq_left (by omega)] at h
  have hlt : find ps[j].1 ps < ps.length := (find_lt _ _).2 (List.mem_map.2 ⟨ps[j], List.getElem_mem hj, rfl⟩)
  rw [fnd, if_pos hlt]
  exact h
def ChkR (ps : List Pr) (w : World) (r : Ending) (w' : World) : Prop := r = .returned (.int .i64 (chk ps)) ∧ Keeps (fun _ => False) w w'

set_option maxHeartbeats 16000000 in
set_option maxRecDepth 100000 in
theorem check_ (A : Option Addr) (n c : Nat) (es : List Ct) (w : World) (h : IsRef w A n es) :
    Calls Try.prog 12 #[.agg #[.slice A n c]] w (ChkR (pairs es) w) := by
  have HR := Lib.hid h
  have hn : n ≤ 3000000 := h.2.1
  have HP := Lib.hid ((pairs_len es).trans h.1)
  clear h
  have hk0 := (Keeps.refl (fun _ => False) w).alloc (.cells #[.slice A n c] 29)
  have HK0 := Lib.hid hk0
  clear hk0
  by_cases h1 : 100 < n
  · have d1 : decide ((100 : Int) < (n : Int)) = true := by simp; omega
    have HC : Hid (chk (pairs es) = 7) := by show _ = _; rw [chk, if_pos (by rw [HP.out]; exact h1)]
    go_enter Try.func12, Try.ntmps12
    go_wp2
    go_ret
    exact ⟨by rw [HC.out]; rfl, HK0.out⟩
  · have d1 : decide ((100 : Int) < (n : Int)) = false := by simp; omega
    have HC : Hid (chk (pairs es) = chkL [] 0 (pairs es)) := by show _ = _; rw [chk, if_neg (by rw [HP.out]; exact h1)]
    go_enter Try.func12, Try.ntmps12
    go_wp2
    go_loopw [3, 4, 5, 6, 7, 15] (fun tv _ _ _ _ iv wr => ∃ j t : Nat, tv = .int .i64 (t : Int) ∧ iv = .int .i64 (j : Int) ∧ j ≤ n ∧ t ≤ j * 3000000 ∧ Hid (Keeps (fun _ => False) w wr ∧ wr.cell? ⟨w.heap.size, 0, none⟩ = some (.slice A n c) ∧ w.heap.size < wr.heap.size ∧ Upto (pairs es) j t)) (fun _ _ _ _ _ iv _ => n - (intOf iv).toNat)
    case atStart => exact ⟨0, 0, rfl, rfl, by omega, by omega, Lib.hid ⟨HK0.out, (Blk.new w 29 #[.slice A n c]).cell 0, by simp, rfl⟩⟩
    case round =>
      obtain ⟨j, t, rfl, rfl, hj, ht, HI⟩ := hrel
      by_cases hlt : j < n
      · obtain ⟨b, o, e, rfl, hb, he, hg, h0, h1'⟩ := (HR.out.more HI.out.1).item hlt
        have HG := Lib.hid hg
        have HPE := Lib.hid (pairs_get he)
        have hj0 : (j : Int) < (n : Int) := by omega
        have hjw : IntKind.i64.wrap ((j : Int) + 1) = (j : Int) + 1 := IntWalk.i64_in _ (by omega)
        obtain ⟨m, hm⟩ : ∃ m, e.sq.length = m := ⟨_, rfl⟩
        have hml : m ≤ 3000000 := by rw [← hm]; exact hg.ls
        rw [hm] at h1'
        have HM := Lib.hid hm
        have hjn : j * 3000000 ≤ 300000000 := by omega
        have htw : IntKind.i64.wrap ((t : Int) + (m : Int)) = (t : Int) + (m : Int) := IntWalk.i64_in _ (by omega)
        obtain ⟨S, hS⟩ : ∃ S, strOfNums e.nm = S := ⟨_, rfl⟩
        rw [hS] at h0
        obtain ⟨N1, hN1⟩ : ∃ N1, named e.nm = N1 := ⟨_, rfl⟩
        obtain ⟨N2, hN2⟩ : ∃ N2, e.sq.all ltr = N2 := ⟨_, rfl⟩
        obtain ⟨fk, hfk⟩ : ∃ fk, fnd e.nm (pairs es) = fk := ⟨_, rfl⟩
        obtain ⟨fb, hfb⟩ : ∃ fb, fnb e.nm (pairs es) = fb := ⟨_, rfl⟩
        have HN : Hid (∀ w1, Calls Try.prog 17 #[.string S] w1 fun r w' => r = .returned (.bool N1) ∧ Keeps (fun _ => False) w1 w') := Lib.hid (fun w1 => by rw [← hS, ← hN1]; exact named_n e.nm w1 hg.bn)
        have HF : Hid (∀ w1, Keeps (fun _ => False) w w1 → Calls Try.prog 14 #[.agg #[.slice (some ⟨b, o, none⟩) n c], .string S] w1 fun r w' => r = .returned (.tuple #[.int .i64 (fk : Int), .bool fb]) ∧ Keeps (fun _ => False) w1 w') := Lib.hid (fun w1 hk => by rw [← hS, ← hfk, ← hfb]; exact find_ _ n c es e.nm w1 (HR.out.more hk) hg.bn)
        have HL : Hid (∀ w1, Keeps (fun _ => False) wr w1 → Calls Try.prog 20 #[.slice e.A m e.c] w1 fun r w' => r = .returned (.bool N2) ∧ w1 = w') := Lib.hid (fun w1 hk => by rw [← hN2]; exact lettered_ e.A m e.c e.sq w1 (hg.lies.keeps hk (fun _ _ _ => id)) hm (by omega))
        have HFK : Hid (fk = j ↔ e.nm ∉ ((pairs es).take j).map Prod.fst) := Lib.hid (by have := fnd_self (pairs_get he); rw [← hfk]; exact this)
        have HE1 : Hid (err1 ((pairs es).take j) t e.p = if N1 = false then 14 else if ¬ fk = j then 12 else if e.sq = [] ∨ 1048576 < t + m then 6 else if N2 = false then 16 else 0) := by
          show _ = _
          have hfk' := HFK.out
          simp only [err1, Ct.p, hN1, hN2, hm]
          by_cases hq : e.nm ∈ ((pairs es).take j).map Prod.fst
          · have : ¬ fk = j := fun h => hfk'.1 h hq
            simp only [hq, this, if_true, not_false_eq_true]
          · have : fk = j := hfk'.2 hq
            simp only [hq, this, if_false, not_true_eq_false]
        obtain ⟨eA, hea⟩ : ∃ eA, e.A = eA := ⟨_, rfl⟩
        obtain ⟨ec, hec⟩ : ∃ ec, e.c = ec := ⟨_, rfl⟩
        rw [hea, hec] at h1' HL
        have HBX := Lib.hid HI.out.2.1
        have HSQ : Hid (e.sq = [] ↔ m = 0) := Lib.hid (by rw [← hm]; exact List.length_eq_zero_iff.symm)
        clear hg he hm hS hN1 hN2 hfk hfb hea hec
        have hbx := HI.out.2.1
        have hsz := HI.out.2.2.1
        have hk1 := (Keeps.refl (fun _ => False) wr).alloc (.cells #[.string S, .slice eA m ec] 33)
        have hbx1 := (hk1.cell (p := ⟨w.heap.size, 0, none⟩) hsz id).trans hbx
        have HK1 := Lib.hid hk1
        have HBX1 := Lib.hid hbx1
        have HNB := Lib.hid (Blk.new wr 33 #[.string S, .slice eA m ec])
        clear hk1 hbx1 hbx
        cases N1 with
        | false =>
          go_wp2_with (refine (HN.out _).mono ?_; rintro e1 w1 ⟨rfl, hk2⟩; have HK2 := Lib.hid (HI.out.1.trans (HK1.out.trans hk2)); clear hk2)
          go_ret
          refine ⟨?_, HK2.out⟩
          rw [HC.out, HI.out.2.2.2.stop HPE.out (x := 14) (by rw [HE1.out]; simp) (by omega)]
          rfl
        | true =>
          go_wp2_with fail
          refine (HN.out _).mono ?_
          rintro e1 w1 ⟨rfl, hk2⟩
          have hb1 : w1.cell? ⟨wr.heap.size, 0, none⟩ = some (.string S) := (hk2.cell (p := ⟨wr.heap.size, 0, none⟩) (by simp) id).trans (HNB.out.cell 0)
          have hb2 : w1.cell? ⟨wr.heap.size, 1, none⟩ = some (.slice eA m ec) := (hk2.cell (p := ⟨wr.heap.size, 1, none⟩) (by simp) id).trans (HNB.out.cell 1)
          have hb3 : w1.cell? ⟨w.heap.size, 0, none⟩ = some (.slice (some ⟨b, o, none⟩) n c) := (hk2.cell (p := ⟨w.heap.size, 0, none⟩) (by simp; omega) id).trans HBX1.out
          have HK2 := Lib.hid (HK1.out.trans hk2)
          have hz2 : wr.heap.size < w1.heap.size := by have := hk2.size; simp at this; omega
          clear hk2
          by_cases hf : fk = j
          · subst hf
            have dn : ((fk : Int) != (fk : Int)) = false := by simp
            by_cases hs : m = 0
            · subst hs
              go_wp2_with (refine (HF.out _ (by exact HI.out.1.trans HK2.out)).mono ?_; rintro e2 w2 ⟨rfl, hk3⟩; have hc2 := (hk3.cell (p := ⟨wr.heap.size, 1, none⟩) hz2 id).trans hb2; have HK3 := Lib.hid (HI.out.1.trans (HK2.out.trans hk3)); clear hk3)
              go_ret
              refine ⟨?_, HK3.out⟩
              rw [HC.out, HI.out.2.2.2.stop HPE.out (x := 6) (by rw [HE1.out]; simp [HSQ.out]) (by omega)]
              rfl
            · have dm : ((m : Int) == 0) = false := by simp; omega
              by_cases hbig : 1048576 < t + m
              · have db : decide ((1048576 : Int) < (t : Int) + (m : Int)) = true := by simp; omega
                go_wp2_with (refine (HF.out _ (by exact HI.out.1.trans HK2.out)).mono ?_; rintro e2 w2 ⟨rfl, hk3⟩; have hc2 := (hk3.cell (p := ⟨wr.heap.size, 1, none⟩) hz2 id).trans hb2; have HK3 := Lib.hid (HI.out.1.trans (HK2.out.trans hk3)); clear hk3)
                go_ret
                refine ⟨?_, HK3.out⟩
                rw [HC.out, HI.out.2.2.2.stop HPE.out (x := 6) (by rw [HE1.out]; simp [hbig]) (by omega)]
                rfl
              · have db : decide ((1048576 : Int) < (t : Int) + (m : Int)) = false := by simp; omega
                have HE2 : Hid (err1 ((pairs es).take fk) t e.p = if N2 = false then 16 else 0) := by
                  show _ = _
                  rw [HE1.out]
                  simp [HSQ.out, hs, hbig]
                cases N2 with
                | false =>
                  go_wp2_with (first
                    | (go_at_call 14; refine (HF.out _ (by exact HI.out.1.trans HK2.out)).mono ?_; rintro e2 w2 ⟨rfl, hk3⟩; have hc2 := (hk3.cell (p := ⟨wr.heap.size, 1, none⟩) hz2 id).trans hb2; have HKW := Lib.hid (HK2.out.trans hk3); have HK3 := Lib.hid (HI.out.1.trans (HK2.out.trans hk3)); clear hk3)
                    | (go_at_call 20; refine (HL.out _ (by exact HKW.out)).mono ?_; rintro e2 w3 ⟨rfl, rfl⟩))
                  go_ret
                  refine ⟨?_, HK3.out⟩
                  rw [HC.out, HI.out.2.2.2.stop HPE.out (x := 16) (by rw [HE2.out]; simp) (by omega)]
                  rfl
                | true =>
                  go_wp2_with (first
                    | (go_at_call 14; refine (HF.out _ (by exact HI.out.1.trans HK2.out)).mono ?_; rintro e2 w2 ⟨rfl, hk3⟩; have hc2 := (hk3.cell (p := ⟨wr.heap.size, 1, none⟩) hz2 id).trans hb2; have HKW := Lib.hid (HK2.out.trans hk3); have HK3 := Lib.hid (HI.out.1.trans (HK2.out.trans hk3)); clear hk3)
                    | (go_at_call 20; refine (HL.out _ (by exact HKW.out)).mono ?_; rintro e2 w3 ⟨rfl, rfl⟩))
                  go_roundw
                  case rel =>
                    refine ⟨fk + 1, t + m, by go_num, by go_num, by omega, by omega, Lib.hid ⟨HK3.out, ?_, ?_, ?_⟩⟩
                    · exact (HKW.out.cell (p := ⟨w.heap.size, 0, none⟩) (by omega) id).trans HBX.out
                    · have := HKW.out.size; omega
                    · have := HI.out.2.2.2.next HPE.out (by rw [HE2.out]; simp)
                      simp only [Ct.p] at this
                      rw [HM.out] at this
                      exact this
                  case measure => simp [intOf]; omega
          · have dn : ((fk : Int) != (j : Int)) = true := by simp; omega
            go_wp2_with (refine (HF.out _ (by exact HI.out.1.trans HK2.out)).mono ?_; rintro e2 w2 ⟨rfl, hk3⟩; have HK3 := Lib.hid (HI.out.1.trans (HK2.out.trans hk3)); clear hk3)
            go_ret
            refine ⟨?_, HK3.out⟩
            rw [HC.out, HI.out.2.2.2.stop HPE.out (x := 12) (by rw [HE1.out]; simp [hf]) (by omega)]
            rfl
      · have HEE : Hid (j = n) := by show _ = _; omega
        go_wp2
        go_ret
        refine ⟨?_, HI.out.1⟩
        rw [HC.out, HI.out.2.2.2.done (by rw [HP.out]; exact HEE.out)]
        rfl

/-- Are two the same in all? -/
def sameP (ps qs : List Pr) : Bool := decide (ps = qs)
set_option maxHeartbeats 16000000 in
set_option maxRecDepth 100000 in
theorem same_ (A B : Option Addr) (n m c d : Nat) (es fs : List Ct) (w : World) (h : IsRef w A n es) (k : IsRef w B m fs) :
    Calls Try.prog 13 #[.agg #[.slice A n c], .agg #[.slice B m d]] w fun r w' => r = .returned (.bool (decide (pairs es = pairs fs))) ∧ Keeps (fun _ => False) w w' := by
  have HR := Lib.hid h
  have HS := Lib.hid k
  have hn : n ≤ 3000000 := h.2.1
  have HP := Lib.hid ((pairs_len es).trans h.1)
  have HQ := Lib.hid ((pairs_len fs).trans k.1)
  have hk0 := ((Keeps.refl (fun _ => False) w).alloc (.cells #[.slice A n c] 29)).alloc (.cells #[.slice B m d] 29)
  have HK0 := Lib.hid hk0
  clear hk0 h k
  by_cases hnm : n = m
  · subst hnm
    have dn : ((n : Int) != (n : Int)) = false := by simp
    have HBX := Lib.hid ((Blk.new (w.alloc (.cells #[.slice A n c] 29)) 29 #[.slice B n d]).cell 0)
    go_enter Try.func13, Try.ntmps13
    go_wp2
    go_loopw [5, 6, 7, 18] (fun _ _ _ iv wr => ∃ j : Nat, iv = .int .i64 (j : Int) ∧ j ≤ n ∧ Hid (Keeps (fun _ => False) w wr ∧ wr.cell? ⟨w.heap.size + 1, 0, none⟩ = some (.slice B n d) ∧ w.heap.size + 1 < wr.heap.size ∧ ∀ k, k < j → (pairs es)[k]? = (pairs fs)[k]?)) (fun _ _ _ iv _ => n - (intOf iv).toNat)
    case atStart => exact ⟨0, rfl, by omega, Lib.hid ⟨HK0.out, by simp, by simp, fun k hk => by omega⟩⟩
    case round =>
      obtain ⟨j, rfl, hj, HI⟩ := hrel
      by_cases hlt : j < n
      · obtain ⟨b, o, e, rfl, hb, he, hg, h0, h1⟩ := (HR.out.more HI.out.1).item hlt
        obtain ⟨b', o', f, rfl, hb', hf, hgf, h0', h1'⟩ := (HS.out.more HI.out.1).item hlt
        have hj0 : (j : Int) < (n : Int) := by omega
        have hjw : IntKind.i64.wrap ((j : Int) + 1) = (j : Int) + 1 := IntWalk.i64_in _ (by omega)
        have hbx := HI.out.2.1
        have hsz := HI.out.2.2.1
        obtain ⟨S, hS⟩ : ∃ S, strOfNums e.nm = S := ⟨_, rfl⟩
        obtain ⟨T, hT⟩ : ∃ T, strOfNums f.nm = T := ⟨_, rfl⟩
        have HST : Hid ((S.toList == T.toList) = decide (e.nm = f.nm)) := by
          show _ = _
          rw [← hS, ← hT]
          exact str_eq hg.bn hgf.bn
        rw [hS] at h0
        rw [hT] at h0'
        obtain ⟨l1, hl1⟩ : ∃ l1, e.sq.length = l1 := ⟨_, rfl⟩
        obtain ⟨l2, hl2⟩ : ∃ l2, f.sq.length = l2 := ⟨_, rfl⟩
        rw [hl1] at h1
        rw [hl2] at h1'
        obtain ⟨R, hR⟩ : ∃ R, decide (e.sq = f.sq) = R := ⟨_, rfl⟩
        have HEQ : Hid (∀ w1, Keeps (fun _ => False) wr w1 → Calls Try.prog 21 #[.slice e.A l1 e.c, .slice f.A l2 f.c] w1 fun r w' => r = .returned (.bool R) ∧ w1 = w') := Lib.hid (fun w1 hk => by
          rw [← hR]
          exact equal_ e.A f.A l1 l2 e.c f.c e.sq f.sq w1 (hg.lies.keeps hk (fun _ _ _ => id)) (hgf.lies.keeps hk (fun _ _ _ => id)) hl1 hl2 hg.bs hgf.bs)
        obtain ⟨eA, hea⟩ : ∃ eA, e.A = eA := ⟨_, rfl⟩
        obtain ⟨ec, hec⟩ : ∃ ec, e.c = ec := ⟨_, rfl⟩
        obtain ⟨fA, hfa⟩ : ∃ fA, f.A = fA := ⟨_, rfl⟩
        obtain ⟨fc, hfc⟩ : ∃ fc, f.c = fc := ⟨_, rfl⟩
        rw [hea, hec] at h1 HEQ
        rw [hfa, hfc] at h1' HEQ
        have HPE := Lib.hid (pairs_get he)
        have HPF := Lib.hid (pairs_get hf)
        have HRR := Lib.hid hR
        have hk1 := (Keeps.refl (fun _ => False) wr).alloc (.cells #[.string S, .slice eA l1 ec] 33)
        have hbx1 := (hk1.cell (p := ⟨w.heap.size + 1, 0, none⟩) hsz id).trans hbx
        have hq0 := (hk1.cell (p := ⟨b', o' + j * 2, none⟩) hb' id).trans h0'
        have hq1 := (hk1.cell (p := ⟨b', o' + j * 2 + 1, none⟩) hb' id).trans h1'
        have hk2 := hk1.alloc (.cells #[.string T, .slice fA l2 fc] 33)
        have HK2 := Lib.hid hk2
        have HBX : Hid (wr.cell? ⟨w.heap.size + 1, 0, none⟩ = some (.slice (some ⟨b', o', none⟩) n d)) := Lib.hid hbx
        clear hk1 hk2 hg hgf he hf hS hT hl1 hl2 hR hea hec hfa hfc hlt
        by_cases hq : e.nm = f.nm
        · have d1 : (S.toList == T.toList) = true := by rw [HST.out]; simpa using hq
          have HQE := Lib.hid hq
          clear hq
          cases R with
          | true =>
            go_wp2_with (go_at_call 21; refine (HEQ.out _ (by exact HK2.out)).mono ?_; rintro e2 w3 ⟨rfl, rfl⟩)
            go_roundw
            case rel =>
              refine ⟨j + 1, by go_num, by omega, Lib.hid ⟨HI.out.1.trans HK2.out, ?_, ?_, ?_⟩⟩
              · exact (HK2.out.cell (p := ⟨w.heap.size + 1, 0, none⟩) hsz id).trans HBX.out
              · have := HK2.out.size; omega
              · intro k hk
                by_cases e0 : k = j
                · subst e0
                  rw [HPE.out, HPF.out]
                  have h2 : e.sq = f.sq := by simpa using HRR.out
                  simp [Ct.p, HQE.out, h2]
                · exact HI.out.2.2.2 k (by omega)
            case measure => simp [intOf]; omega
          | false =>
            go_wp2_with (go_at_call 21; refine (HEQ.out _ (by exact HK2.out)).mono ?_; rintro e2 w3 ⟨rfl, rfl⟩)
            go_ret
            refine ⟨?_, HI.out.1.trans HK2.out⟩
            have : pairs es ≠ pairs fs := fun hh => by
              have h2 : e.sq ≠ f.sq := by simpa using HRR.out
              have h3 := HPE.out
              rw [hh, HPF.out] at h3
              simp [Ct.p] at h3
              exact h2 h3.2.symm
            rw [decide_eq_false this]
            rfl
        · have d1 : (S.toList == T.toList) = false := by rw [HST.out]; simpa using hq
          have HQE := Lib.hid hq
          clear hq
          go_wp2
          go_ret
          refine ⟨?_, HI.out.1.trans HK2.out⟩
          have : pairs es ≠ pairs fs := fun hh => by
            have h3 := HPE.out
            rw [hh, HPF.out] at h3
            simp [Ct.p] at h3
            exact HQE.out h3.1.symm
          rw [decide_eq_false this]
          rfl
      · have HEE : Hid (j = n) := by show _ = _; omega
        go_wp2
        go_ret
        refine ⟨?_, HI.out.1⟩
        have : pairs es = pairs fs := by
          apply List.ext_getElem?
          intro i
          by_cases hi : i < n
          · exact HI.out.2.2.2 i (by rw [HEE.out]; exact hi)
          · rw [List.getElem?_eq_none (by rw [HP.out]; omega), List.getElem?_eq_none (by rw [HQ.out]; omega)]
        rw [decide_eq_true this]
        rfl
  · have dn : ((n : Int) != (m : Int)) = true := by simp; omega
    go_enter Try.func13, Try.ntmps13
    go_wp2
    go_ret
    refine ⟨?_, HK0.out⟩
    have : pairs es ≠ pairs fs := fun hh => hnm (by rw [← HP.out, ← HQ.out, hh])
    rw [decide_eq_false this]
    rfl
end Go.Proofs.Ytbekdcakmeejaaa.Ct

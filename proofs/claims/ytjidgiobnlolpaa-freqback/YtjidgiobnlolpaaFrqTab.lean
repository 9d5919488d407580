/- The answers' own bytes of a table. -/
import Derived.Test.YtjidgiobnlolpaaFrqTb
import Derived.Test.YtjidgiobnlolpaaItfRef
import Derived.Test.YtjidgiobnlolpaaItfTwo
import Derived.Deep.AppendLies
import Derived.Deep.RegionLaw
namespace Go.Proofs.Ytjidgiobnlolpaa.Fb
open Go.RowKit Go.Proofs.Ytjidgiobnlolpaa.Gen Go.Proofs.Ytjidgiobnlolpaa.Wr Go.Proofs.Ytjidgiobnlolpaa.It Go.Proofs.Ytjidgiobnlolpaa.Fq Go.Proofs.Ytjidgiobnlolpaa.Tw

/-- The table's own variable, the row that has been made. -/
structure Tb (w wr : World) (B : Nat) (v : Array Value) (out : Value) (n : Nat) (xs : List Int) : Prop where
  box : Blk wr B 24 v
  own : wr.ownsRow w.heap.size 5 1 out n (bv xs)
  keeps : Keeps (fun _ => False) w wr
theorem Tb.more {w wr w1 : World} {B : Nat} {v : Array Value} {out : Value} {n : Nat} {xs : List Int} (h : Tb w wr B v out n xs) (k : Keeps (fun _ => False) wr w1) : Tb w w1 B v out n xs :=
  ⟨h.box.keeps k id, own_keeps h.own k (fun _ _ => id), h.keeps.trans k⟩
theorem Tb.app {w wr w1 : World} {B : Nat} {v : Array Value} {out out1 : Value} {n n1 : Nat} {xs xs1 : List Int} (h : Tb w wr B v out n xs) (hg : wr.grownBy w1 out.ownBlock) (ho : w1.ownsRow w.heap.size 5 1 out1 n1 (bv xs1)) : Tb w w1 B v out1 n1 xs1 :=
  ⟨h.box.grown hg (fun e => own_ne h.own h.box (by decide) e), ho, h.keeps.grown hg (fun k hk => .inr (h.own.lt k hk).1)⟩
theorem mny_pos {l : List Int} (h : 0 < l.sum) (hl : l.length = 256) : 0 < mny l 256 := by
  have key : ∀ d, d ≤ 256 → mny l d = 0 → (l.take d).sum ≤ 0 := by
    intro d
    induction d with
    | zero => intro _ _; simp
    | succ d ih =>
      intro hd hm
      rw [mny] at hm
      split at hm
      · omega
      · next hp =>
        have := ih (by omega) hm
        rw [sum_next (by omega)]
        omega
  rcases Nat.eq_zero_or_pos (mny l 256) with h0 | h0
  · have := key 256 (Nat.le_refl _) h0
    rw [List.take_of_length_le (by omega)] at this
    omega
  · exact h0

theorem bod_pos (l : List Int) : ∀ d, 0 < mny l d → 1 ≤ (bod l d).length
  | 0, h => by simp [mny] at h
  | d + 1, h => by
    by_cases hp : 0 < l.getD d 0
    · have hb : bod l (d + 1) = bod l d ++ (encInt (((d - nxt l d : Nat) : Int)) ++ encInt (l.getD d 0)) := by rw [bod, if_pos hp]
      have := (Ib.encInt_len (l.getD d 0)).1
      rw [hb]
      simp only [List.length_append]
      omega
    · have hb : bod l (d + 1) = bod l d := by rw [bod, if_neg hp]
      have hm : mny l (d + 1) = mny l d := by rw [mny, if_neg hp]
      rw [hb]
      exact bod_pos l d (by omega)
set_option maxRecDepth 20000 in
set_option maxHeartbeats 4000000 in
theorem table (l : List Int) (v : Array Value) (N : Nat) (w : World) (hl : l.length = 256) (hv : vs l = v) (hf : Fine l) (hs : 0 < l.sum) (hN : (tabB l).length = N) : Calls Try.prog 18 #[.agg v] w (Own w.heap.size N (tabB l) w) := by
  have HL := Lib.hid hl
  have HG : Hid (∀ j, j < 256 → v[j]? = some (.int .i64 (l.getD j 0))) := fun j hj => by rw [← hv]; exact vs_get (by omega)
  have HF := Lib.hid hf
  have HP := Lib.hid (mny_pos hs hl)
  have HNE := Lib.hid hN
  obtain ⟨i0, hi0, hz0, hz1, hz2⟩ := info_parts u8_info
  clear hl hv hf hs hN
  go_enter Try.func18, Try.ntmps18
  go_upto_region 1 with fail
  obtain ⟨B, hB⟩ : ∃ B, w.heap.size = B := ⟨_, rfl⟩
  generalize hW : w.alloc (.cells v 24) = W
  have HT0 : Hid (Tb w W B v (.slice none 0 0) 0 (bod l 0)) := by
    refine Lib.hid ⟨?_, World.ownsRow_nil _ _ _ _, ?_⟩
    · rw [← hW, ← hB]; exact Blk.new _ _ _
    · rw [← hW]; exact (Keeps.refl _ _).alloc _
  rw [hB]
  clear hB hW
  go_wp2_with fail
  go_loopw [3, 4, 5, 6] (fun mv la ov i wr => ∃ (d n c : Nat) (A : Option Addr), d ≤ 256 ∧ mv = .int .i64 (mny l d : Nat) ∧ la = .int .i64 ((nxt l d : Nat) - 1 : Int) ∧ ov = .slice A n c ∧ i = .int .i64 (d : Int) ∧ n = (bod l d).length ∧ Hid (Tb w wr B v (.slice A n c) n (bod l d))) (fun _ _ _ i _ => 256 - (intOf i).toNat)
  case atStart => exact ⟨0, 0, 0, none, by omega, rfl, rfl, rfl, rfl, rfl, HT0⟩
  case round =>
    clear HT0
    obtain ⟨d, n, c, A, hd, rfl, rfl, rfl, rfl, hn, HT⟩ := hrel
    have hnl := nxt_le l d
    have hml := mny_le l d
    have hbl := bod_len l d
    rw [← hn] at hbl
    obtain ⟨nx, hnx⟩ : ∃ nx, nxt l d = nx := ⟨_, rfl⟩
    obtain ⟨k, hk⟩ : ∃ k, mny l d = k := ⟨_, rfl⟩
    rw [hnx] at hnl
    rw [hk] at hml
    rw [hnx, hk]
    have HNn := Lib.hid hn
    by_cases hlt : d < 256
    · obtain ⟨x, hx⟩ : ∃ x, l.getD d 0 = x := ⟨_, rfl⟩
      have hxb : 0 ≤ x ∧ x ≤ 4096 := by rw [← hx]; exact HF.out _ (getD_mem (by rw [HL.out]; exact hlt))
      have hcB : wr.cell? ⟨B, d, none⟩ = some (.int .i64 x) := by rw [HT.out.box.cell, HG.out d hlt, hx]
      have HC0 : Hid (v[d]? = some (.int .i64 x)) := by show _ = _; rw [HG.out d hlt, hx]
      have hd0 : (0 : Int) ≤ (d : Int) := by omega
      have hd1 : (d : Int) < 256 := by omega
      by_cases hp : 0 < x
      · have HM : Hid (mny l (d + 1) = k + 1) := by show _ = _; rw [mny, hx, if_pos hp, hk]
        have HX : Hid (nxt l (d + 1) = d + 1) := by show _ = _; rw [nxt, hx, if_pos hp]
        obtain ⟨q, hq⟩ : ∃ q, d - nx = q := ⟨_, rfl⟩
        have HB : Hid (bod l (d + 1) = bod l d ++ encInt (q : Int) ++ encInt x) := by show _ = _; rw [bod, hx, if_pos hp, hnx, hq, List.append_assoc]
        obtain ⟨la, hla⟩ : ∃ la : Int, (nx : Int) - 1 = la := ⟨_, rfl⟩
        have hs1 : IntKind.i64.wrap ((d : Int) - la) = (d : Int) - la := IntWalk.i64_in _ (by omega)
        have hs2 : IntKind.i64.wrap ((d : Int) - la - 1) = (q : Int) := by rw [show (d : Int) - la - 1 = (q : Int) by omega]; exact IntWalk.i64_in _ (by omega)
        have hw1 : IntKind.u32.wrap (q : Int) = (q : Int) := IntWalk.u32_in _ (by omega)
        have hw2 : IntKind.u32.wrap x = x := IntWalk.u32_in _ (by omega)
        obtain ⟨m1, hm1⟩ : ∃ m1, (encInt (q : Int)).length = m1 := ⟨_, rfl⟩
        obtain ⟨m2, hm2⟩ : ∃ m2, (encInt x).length = m2 := ⟨_, rfl⟩
        have hb1 := Ib.encInt_len (q : Int)
        have hb2 := Ib.encInt_len x
        rw [hm1] at hb1
        rw [hm2] at hb2
        have HM1 := Lib.hid hm1
        have HM2 := Lib.hid hm2
        rw [hla]
        have hqb : q ≤ 256 := by omega
        clear hx hnx hk hq hla hm1 hm2 hn
        go_upto_region 8 with fail
        refine wp_region_held_drew (S := fun w' => w'.cell? ⟨B, d, none⟩ = some (.int .i64 x)) (by kernel_rfl) hcB (fun hHeld => ?_)
        replace HT : Hid (Tb w wr.drew B v (.slice A n c) n (bod l d)) := Lib.hid (HT.out.more ((Keeps.refl _ _).drewN 1))
        generalize wr.drew = w3 at hHeld HT ⊢
        clear hcB
        refine wpAnyH_take (i := 0) (v := ?v0) rfl (by kernel_rfl) (by kernel_rfl) (by kernel_rfl) (fun _ _ _ h => h) (Or.inl ⟨by rfl, ?y0⟩) hHeld ?r0
        case y0 => (intro w hSw; have hSc := hSw; go_simp; try with_reducible rfl)
        simp only [Act.put, List.getElem_toArray, List.getElem_cons_succ, List.getElem_cons_zero, List.setIfInBounds_toArray, List.set_cons_zero, List.set_cons_succ]
        refine wpAnyH_take (i := 1) (v := ?v1) rfl (by kernel_rfl) (by kernel_rfl) (by kernel_rfl) (fun _ _ _ h => h) (Or.inl ⟨by rfl, ?y1⟩) hHeld ?r1
        case y1 => (intro w hSw; have hSc := hSw; go_simp; try with_reducible rfl)
        simp only [Act.put, List.getElem_toArray, List.getElem_cons_succ, List.getElem_cons_zero, List.setIfInBounds_toArray, List.set_cons_zero, List.set_cons_succ]
        refine wpAnyH_take (i := 2) (v := ?v2) rfl (by kernel_rfl) (by kernel_rfl) (by kernel_rfl) (fun _ _ _ h => h) (Or.inl ⟨by rfl, ?y2⟩) hHeld ?r2
        case y2 => (intro w hSw; have hSc := hSw; go_simp; try with_reducible rfl)
        simp only [Act.put, List.getElem_toArray, List.getElem_cons_succ, List.getElem_cons_zero, List.setIfInBounds_toArray, List.set_cons_zero, List.set_cons_succ]
        refine wpAnyH_take (i := 3) (v := ?v3) rfl (by kernel_rfl) (by kernel_rfl) (by kernel_rfl) (fun _ _ _ h => h) (Or.inl ⟨by rfl, ?y3⟩) hHeld ?r3
        case y3 => (intro w hSw; have hSc := hSw; go_simp; try with_reducible rfl)
        simp only [Act.put, List.getElem_toArray, List.getElem_cons_succ, List.getElem_cons_zero, List.setIfInBounds_toArray, List.set_cons_zero, List.set_cons_succ]
        refine wpAnyH_take (i := 4) (v := ?v4) rfl (by kernel_rfl) (by kernel_rfl) (by kernel_rfl) (fun _ _ _ h => h) (Or.inl ⟨by rfl, ?y4⟩) hHeld ?r4
        case y4 => (intro w hSw; have hSc := hSw; go_simp; try with_reducible rfl)
        simp only [Act.put, List.getElem_toArray, List.getElem_cons_succ, List.getElem_cons_zero, List.setIfInBounds_toArray, List.set_cons_zero, List.set_cons_succ]
        refine wpAnyH_take (i := 5) (v := ?v5) rfl (by kernel_rfl) (by kernel_rfl) (by kernel_rfl) (fun _ _ _ h => h) (Or.inl ⟨by rfl, ?y5⟩) hHeld ?r5
        case y5 => (intro w hSw; have hSc := hSw; go_simp; try with_reducible rfl)
        simp only [Act.put, List.getElem_toArray, List.getElem_cons_succ, List.getElem_cons_zero, List.setIfInBounds_toArray, List.set_cons_zero, List.set_cons_succ]
        refine wpAnyH_take (i := 8) (v := ?v8) rfl (by kernel_rfl) (by kernel_rfl) (by kernel_rfl) (fun _ _ _ h => h) (Or.inl ⟨by rfl, ?y8⟩) hHeld ?r8
        case y8 => (intro w hSw; have hSc := hSw; go_simp; try with_reducible rfl)
        simp only [Act.put, List.getElem_toArray, List.getElem_cons_succ, List.getElem_cons_zero, List.setIfInBounds_toArray, List.set_cons_zero, List.set_cons_succ]
        refine wpAnyH_take (i := 9) (v := ?v9) rfl (by kernel_rfl) (by kernel_rfl) (by kernel_rfl) (fun _ _ _ h => h) (Or.inl ⟨by rfl, ?y9⟩) hHeld ?r9
        case y9 => (intro w hSw; have hSc := hSw; go_simp; try with_reducible rfl)
        simp only [Act.put, List.getElem_toArray, List.getElem_cons_succ, List.getElem_cons_zero, List.setIfInBounds_toArray, List.set_cons_zero, List.set_cons_succ]
        refine wpAnyH_take (i := 10) (v := ?v10) rfl (by kernel_rfl) (by kernel_rfl) (by kernel_rfl) (fun _ _ _ h => h) (Or.inl ⟨by rfl, ?y10⟩) hHeld ?r10
        case y10 => (intro w hSw; have hSc := hSw; go_simp; try with_reducible rfl)
        simp only [Act.put, List.getElem_toArray, List.getElem_cons_succ, List.getElem_cons_zero, List.setIfInBounds_toArray, List.set_cons_zero, List.set_cons_succ]
        refine wpAnyH_take (i := 11) (v := ?v11) rfl (by kernel_rfl) (by kernel_rfl) (by kernel_rfl) (fun _ _ _ h => h) (Or.inl ⟨by rfl, ?y11⟩) hHeld ?r11
        case y11 => (intro w hSw; have hSc := hSw; go_simp; try with_reducible rfl)
        simp only [Act.put, List.getElem_toArray, List.getElem_cons_succ, List.getElem_cons_zero, List.setIfInBounds_toArray, List.set_cons_zero, List.set_cons_succ]
        refine wpAnyH_ready (rs := [6]) (by kernel_rfl) (by simp) ?_
        refine AllReadyH.cons rfl (fun K hK => ?_) AllReadyH.nil
        go_simp
        refine (Rf.int_n (q : Int) m1 _ HM1.out (by omega) (by omega)).mono ?_
        rintro e w4 ⟨A4, c4, rfl, hv4, hk4⟩
        dsimp only
        have HT4 := Lib.hid (HT.out.more hk4)
        have HV4 := Lib.hid hv4
        clear hv4 hk4
        refine hK.out _ _ (HT4.out.box.cell d ▸ HC0.out) (fun hHeld => ?_)
        clear hK K
        try simp only [Act.put, List.getElem_toArray, List.getElem_cons_succ, List.getElem_cons_zero, List.setIfInBounds_toArray, List.set_cons_zero, List.set_cons_succ]
        refine wpAnyH_ready (rs := [7]) (by kernel_rfl) (by simp) ?_
        refine AllReadyH.cons rfl (fun K hK => ?_) AllReadyH.nil
        obtain ⟨ad4, rfl⟩ := own_some HV4.out (by omega)
        refine step_append_lies _ (by rfl) _ _ _ (by rfl) w.heap.size 5 i0 _ 1 1 Try.underlying22 hi0 hz0 hz1 hz2 rfl (by omega) (.slice A n c) n (bv (bod l d)) (by rfl) (by exact HT4.out.own) ad4 m1 c4 (bv (encInt (q : Int))) (by rfl) (by rw [bv_len, HM1.out]; omega) (by exact (Lies.of_own HV4.out).news) (bv_one _) (by omega) (by simp only [maxLen]; omega) (by omega) (by exact HT4.out.keeps.size) _ rfl ?_
        intro g5 c5 w5 hown5 hgrow5 hat5 hlt5
        have HT5 := Lib.hid (HT4.out.app hgrow5 (by rw [← bv_append] at hown5; exact hown5))
        clear hown5 hgrow5 hat5 hlt5
        refine hK.out _ _ (HT5.out.box.cell d ▸ HC0.out) (fun hHeld => ?_)
        clear hK K
        try simp only [Act.put, List.getElem_toArray, List.getElem_cons_succ, List.getElem_cons_zero, List.setIfInBounds_toArray, List.set_cons_zero, List.set_cons_succ]
        refine wpAnyH_ready (rs := [12]) (by kernel_rfl) (by simp) ?_
        refine AllReadyH.cons rfl (fun K hK => ?_) AllReadyH.nil
        go_simp
        refine (Rf.int_n x m2 _ HM2.out (by omega) (by omega)).mono ?_
        rintro e w6 ⟨A6, c6, rfl, hv6, hk6⟩
        dsimp only
        have HT6 := Lib.hid (HT5.out.more hk6)
        have HV6 := Lib.hid hv6
        clear hv6 hk6
        refine hK.out _ _ (HT6.out.box.cell d ▸ HC0.out) (fun hHeld => ?_)
        clear hK K
        try simp only [Act.put, List.getElem_toArray, List.getElem_cons_succ, List.getElem_cons_zero, List.setIfInBounds_toArray, List.set_cons_zero, List.set_cons_succ]
        refine wpAnyH_ready (rs := [13]) (by kernel_rfl) (by simp) ?_
        refine AllReadyH.cons rfl (fun K hK => ?_) AllReadyH.nil
        obtain ⟨ad6, rfl⟩ := own_some HV6.out (by omega)
        refine step_append_lies _ (by rfl) _ _ _ (by rfl) w.heap.size 5 i0 _ 1 1 Try.underlying22 hi0 hz0 hz1 hz2 rfl (by omega) (.slice (some ⟨g5, 0, none⟩) (n + m1) c5) (n + m1) (bv (bod l d ++ encInt (q : Int))) (by rfl) (by exact HT6.out.own) ad6 m2 c6 (bv (encInt x)) (by rfl) (by rw [bv_len, HM2.out]; omega) (by exact (Lies.of_own HV6.out).news) (bv_one _) (by omega) (by simp only [maxLen]; omega) (by omega) (by exact HT6.out.keeps.size) _ rfl ?_
        intro g7 c7 w7 hown7 hgrow7 hat7 hlt7
        have HT7 := Lib.hid (HT6.out.app hgrow7 (by rw [← bv_append] at hown7; exact hown7))
        clear hown7 hgrow7 hat7 hlt7
        refine hK.out _ _ (HT7.out.box.cell d ▸ HC0.out) (fun hHeld => ?_)
        clear hK K
        try simp only [Act.put, List.getElem_toArray, List.getElem_cons_succ, List.getElem_cons_zero, List.setIfInBounds_toArray, List.set_cons_zero, List.set_cons_succ]
        refine wpAnyH_take (i := 14) (v := ?v14) rfl (by kernel_rfl) (by kernel_rfl) (by kernel_rfl) (fun _ _ _ h => h) (Or.inl ⟨by rfl, ?y14⟩) hHeld ?r14
        case y14 => (intro w hSw; have hSc := hSw; go_simp; try with_reducible rfl)
        simp only [Act.put, List.getElem_toArray, List.getElem_cons_succ, List.getElem_cons_zero, List.setIfInBounds_toArray, List.set_cons_zero, List.set_cons_succ]
        refine wpAnyH_done (by kernel_rfl) ?_ _
        clear hHeld
        go_wp2_with fail
        exact ⟨⟨d + 1, n + m1 + m2, c7, some ⟨g7, 0, none⟩, by omega, by rw [HM.out]; go_num, by rw [HX.out]; go_num, rfl, by go_num, by rw [HB.out, List.length_append, List.length_append, HM1.out, HM2.out, HNn.out], by rw [HB.out]; exact HT7⟩, by simp [intOf]; omega⟩
      · have HM : Hid (mny l (d + 1) = k) := by show _ = _; rw [mny, hx, if_neg hp, hk]
        have HX : Hid (nxt l (d + 1) = nx) := by show _ = _; rw [nxt, hx, if_neg hp, hnx]
        have HB : Hid (bod l (d + 1) = bod l d) := by show _ = _; rw [bod, hx, if_neg hp]
        clear hx hnx hk hn
        go_wp2_with fail
        exact ⟨⟨d + 1, n, c, A, by omega, by rw [HM.out], by rw [HX.out], rfl, by go_num, by rw [HB.out]; exact HNn.out, by rw [HB.out]; exact HT⟩, by simp [intOf]; omega⟩
    · obtain rfl : d = 256 := by omega
      have hn1 : 1 ≤ n := by
        rw [hn]
        exact bod_pos l 256 HP.out
      obtain ⟨ad, rfl⟩ := own_some HT.out.own hn1
      have hk0 : mny l 256 = k := hk
      have hw1 : IntKind.u32.wrap (k : Int) = (k : Int) := IntWalk.u32_in _ (by omega)
      obtain ⟨m1, hm1⟩ : ∃ m1, (encInt (k : Int)).length = m1 := ⟨_, rfl⟩
      have hb1 := Ib.encInt_len (k : Int)
      rw [hm1] at hb1
      have HM1 := Lib.hid hm1
      have HKE := Lib.hid hk0
      clear hnx hk hm1 hn hk0 hlt
      go_wp2_with (first
        | (go_at_call 33
           refine (Rf.int_n (k : Int) m1 _ HM1.out (by omega) (by omega)).mono ?_
           rintro e w4 ⟨A4, c4, rfl, hv4, hk4⟩
           have HT4 := Lib.hid (HT.out.more hk4)
           have HV4 := Lib.hid (own_base hv4 HT.out.keeps.size)
           clear hv4 hk4)
        | (at_builtin
           refine wpList_append_own_at _ rfl (.tmp 34) (.tmp 35) _ rfl w.heap.size 5 i0 _ 1 1 Try.underlying22 hi0 hz0 hz1 hz2 rfl (by omega) (.slice A4 m1 c4) m1 (bv (encInt (k : Int))) rfl
             HV4.out ad n c (bv (bod l 256)) rfl (by rw [bv_len, ← HNn.out]; omega) (Lies.of_own HT4.out.own).news (bv_one _) (by simp only [maxLen]; omega) (by omega) HT4.out.keeps.size ?_
           intro v1 w5 hown1 hg1 hnil1 hat1
           rw [← bv_append] at hown1
           have HK5 : Hid (Keeps (fun _ => False) w w5) := HT4.out.keeps.grown hg1 (fun b hb => .inr (HV4.out.lt b hb).1)
           obtain ⟨A1, c1, rfl, _⟩ := own_form hown1
           have HO1 := Lib.hid hown1
           clear hown1 hg1 hnil1 hat1))
      go_ret
      have hTB : tabB l = encInt (k : Int) ++ bod l 256 := by rw [tabB, HKE.out]
      have hNm : N = m1 + n := by rw [← HNE.out, hTB, List.length_append, HM1.out, HNn.out]
      subst hNm
      exact ⟨A1, c1, rfl, by rw [hTB]; exact HO1.out, HK5.out⟩
end Go.Proofs.Ytjidgiobnlolpaa.Fb

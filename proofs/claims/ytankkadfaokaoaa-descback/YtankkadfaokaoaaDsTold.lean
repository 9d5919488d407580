/- The statements' own bytes of a way (told). -/
import Derived.Test.YtankkadfaokaoaaJDsAnyDsBack
import Derived.Test.YtankkadfaokaoaaItfRef
import Derived.Test.YtankkadfaokaoaaAnyApp
import Derived.Deep.RegionHeld3
import Derived.Deep.Onto
namespace Go.Proofs.Ytankkadfaokaoaa.Ds
open Go.RowKit Go.Proofs.Ytankkadfaokaoaa.Gen Go.Proofs.Ytankkadfaokaoaa.Wr Go.Proofs.Ytankkadfaokaoaa.It Go.Proofs.Ytankkadfaokaoaa.Ir Go.Proofs.Ytankkadfaokaoaa.Ib Go.Proofs.Ytankkadfaokaoaa.Tw Go.Proofs.Ytankkadfaokaoaa.Ap Go.Proofs.Ytankkadfaokaoaa.Hr Go.Proofs.Ytankkadfaokaoaa.Hn Go.Proofs.Ytankkadfaokaoaa.Hk Go.Proofs.Ytankkadfaokaoaa.Ln

/-- The way's own variable, the row that has been made. -/
structure Tld (w wr : World) (B : Nat) (v : Array Value) (out : Value) (n : Nat) (xs : List Int) : Prop where
  box : Blk wr B 31 v
  own : wr.ownsRow w.heap.size 5 1 out n (bv xs)
  keeps : Keeps (fun _ => False) w wr
theorem Tld.more {w wr w1 : World} {B : Nat} {v : Array Value} {out : Value} {n : Nat} {xs : List Int} (h : Tld w wr B v out n xs) (k : Keeps (fun _ => False) wr w1) : Tld w w1 B v out n xs :=
  ⟨h.box.keeps k id, own_keeps h.own k (fun _ _ => id), h.keeps.trans k⟩
theorem Tld.app {w wr w1 : World} {B : Nat} {v : Array Value} {out out1 : Value} {n n1 : Nat} {xs xs1 : List Int} (h : Tld w wr B v out n xs) (hg : wr.grownBy w1 out.ownBlock) (ho : w1.ownsRow w.heap.size 5 1 out1 n1 (bv xs1)) : Tld w w1 B v out1 n1 xs1 :=
  ⟨h.box.grown hg (fun e => own_ne h.own h.box (by decide) e), ho, h.keeps.grown hg (fun k hk => .inr (h.own.lt k hk).1)⟩

set_option maxHeartbeats 8000000 in
set_option maxRecDepth 100000 in
theorem told_1 (B : Int) (m : Nat) (A : Option Addr) (n c : Nat) (le bi : Int) (w : World) (h0 : 1 ≤ B) (h1 : B ≤ 60000) (hm : (encInt 1 ++ encInt B).length = m) :
    Calls Try.prog 18 #[.agg #[.int .u8 1, .int .i64 B, .slice A n c, .int .i64 le, .int .i64 bi]] w (Own w.heap.size m (encInt 1 ++ encInt B) w) := by
  obtain ⟨m0, hm0⟩ : ∃ m0, (encInt 1).length = m0 := ⟨_, rfl⟩
  obtain ⟨m1, hm1⟩ : ∃ m1, (encInt B).length = m1 := ⟨_, rfl⟩
  have hl0 := encInt_len 1
  have hl1 := encInt_len B
  rw [List.length_append, hm0, hm1] at hm
  rw [hm0] at hl0
  rw [hm1] at hl1
  have HM0 := Lib.hid hm0
  have HM1 := Lib.hid hm1
  have HM := Lib.hid hm
  have hw : IntKind.u32.wrap B = B := IntWalk.u32_in _ (by omega)
  clear hm0 hm1 hm
  go_enter Try.func18, Try.ntmps18
  go_upto_region 1 with fail
  have HT0 : Hid (Tld w (w.alloc (.cells #[.int .u8 1, .int .i64 B, .slice A n c, .int .i64 le, .int .i64 bi] 31)) w.heap.size #[.int .u8 1, .int .i64 B, .slice A n c, .int .i64 le, .int .i64 bi] (.slice none 0 0) 0 []) := Lib.hid ⟨Blk.new _ _ _, World.ownsRow_nil _ _ _ _, (Keeps.refl _ _).alloc _⟩
  generalize w.alloc (.cells #[.int .u8 1, .int .i64 B, .slice A n c, .int .i64 le, .int .i64 bi] 31) = W at HT0 ⊢
  have hk0 := HT0.out.box.cell 0
  simp only [List.getElem?_toArray, List.getElem?_cons_zero, List.getElem?_cons_succ] at hk0
  go_upto_region 2 with (
    go_at_call 17
    refine (Rf.int_n 1 m0 _ HM0.out (by omega) (by omega)).mono ?_
    rintro e w1 ⟨A1, c1, rfl, hv1, hk1⟩
    have HT1 : Hid (Tld w w1 w.heap.size _ (.slice A1 m0 c1) m0 (encInt 1)) := Lib.hid ⟨HT0.out.box.keeps hk1 id, hv1.mono HT0.out.keeps.size, HT0.out.keeps.trans hk1⟩
    clear hv1 hk1)
  clear hk0
  have hk0 := HT1.out.box.cell 0
  have hk1 := HT1.out.box.cell 1
  simp only [List.getElem?_toArray, List.getElem?_cons_zero, List.getElem?_cons_succ] at hk0 hk1
  go_wp2_with (first
    | (have H1 := HM1
       go_at_call 17
       refine (Rf.int_n B m1 _ HM1.out (by omega) (by omega)).mono ?_
       rintro e w2 ⟨A2, c2, rfl, hv2, hk2⟩
       have HT2 := Lib.hid (HT1.out.more hk2)
       have HL2 := Lib.hid (Lies.of_own hv2)
       clear hv2 hk2 HM0 HT1 H1)
    | (at_builtin
       refine wpList_app rfl (.tmp 16) (.tmp 20) rfl w.heap.size m0 m1 c2 (.slice A1 m0 c1) (encInt 1) (encInt B) A2 rfl HT2.out.own rfl HL2.out HM1.out (by omega) HT2.out.keeps.size ?_
       intro v3 w3 hown3 hg3 hat3
       obtain ⟨A3, c3, rfl, _⟩ := own_form hown3
       have HT3 := Lib.hid (HT2.out.app hg3 hown3)
       clear hown3 hg3 hat3))
  go_ret
  obtain rfl := HM.out
  exact ⟨A3, c3, rfl, HT3.out.own, HT3.out.keeps⟩

set_option maxHeartbeats 8000000 in
set_option maxRecDepth 100000 in
theorem told_6 (le bi : Int) (m : Nat) (B : Int) (A : Option Addr) (n c : Nat) (w : World) (h0 : 0 ≤ bi) (h1 : bi ≤ 31) (hm : (encInt 6 ++ (encInt (sg le) ++ encInt bi)).length = m) :
    Calls Try.prog 18 #[.agg #[.int .u8 6, .int .i64 B, .slice A n c, .int .i64 le, .int .i64 bi]] w (Own w.heap.size m (encInt 6 ++ (encInt (sg le) ++ encInt bi)) w) := by
  obtain ⟨m0, hm0⟩ : ∃ m0, (encInt 6).length = m0 := ⟨_, rfl⟩
  obtain ⟨m1, hm1⟩ : ∃ m1, (encInt (sg le)).length = m1 := ⟨_, rfl⟩
  obtain ⟨m2, hm2⟩ : ∃ m2, (encInt bi).length = m2 := ⟨_, rfl⟩
  have hl0 := encInt_len 6
  have hl1 := encInt_len (sg le)
  have hl2 := encInt_len bi
  rw [List.length_append, List.length_append, hm0, hm1, hm2] at hm
  rw [hm0] at hl0
  rw [hm1] at hl1
  rw [hm2] at hl2
  have HM0 := Lib.hid hm0
  have HM1 := Lib.hid hm1
  have HM2 := Lib.hid hm2
  have HM := Lib.hid hm
  have hw : IntKind.u32.wrap bi = bi := IntWalk.u32_in _ (by omega)
  clear hm0 hm1 hm2 hm
  go_enter Try.func18, Try.ntmps18
  go_upto_region 1 with fail
  have HT0 : Hid (Tld w (w.alloc (.cells #[.int .u8 6, .int .i64 B, .slice A n c, .int .i64 le, .int .i64 bi] 31)) w.heap.size #[.int .u8 6, .int .i64 B, .slice A n c, .int .i64 le, .int .i64 bi] (.slice none 0 0) 0 []) := Lib.hid ⟨Blk.new _ _ _, World.ownsRow_nil _ _ _ _, (Keeps.refl _ _).alloc _⟩
  generalize w.alloc (.cells #[.int .u8 6, .int .i64 B, .slice A n c, .int .i64 le, .int .i64 bi] 31) = W at HT0 ⊢
  have hk0 := HT0.out.box.cell 0
  simp only [List.getElem?_toArray, List.getElem?_cons_zero, List.getElem?_cons_succ] at hk0
  go_upto_region 2 with (
    go_at_call 17
    refine (Rf.int_n 6 m0 _ HM0.out (by omega) (by omega)).mono ?_
    rintro e w1 ⟨A1, c1, rfl, hv1, hk1⟩
    have HT1 : Hid (Tld w w1 w.heap.size _ (.slice A1 m0 c1) m0 (encInt 6)) := Lib.hid ⟨HT0.out.box.keeps hk1 id, hv1.mono HT0.out.keeps.size, HT0.out.keeps.trans hk1⟩
    clear hv1 hk1)
  clear hk0
  have hk0 := HT1.out.box.cell 0
  have hk3 := HT1.out.box.cell 3
  have hk4 := HT1.out.box.cell 4
  simp only [List.getElem?_toArray, List.getElem?_cons_zero, List.getElem?_cons_succ] at hk0 hk3 hk4
  go_upto_region 6 with fail
  go_region_held3 (fun w' => w'.cell? ⟨w.heap.size, 3, none⟩ = some (.int .i64 le) ∧ w'.cell? ⟨w.heap.size, 4, none⟩ = some (.int .i64 bi)) (go_keep)
    ((first
      | (have H1 := HM1
         go_at_call 37
         refine (Rf.signed_n le m1 _ HM1.out).mono ?_
         rintro e w2 ⟨A2, c2, rfl, hv2, hk2⟩
         have HT2 := Lib.hid (HT1.out.more hk2.of_drew)
         have HL2 := Lib.hid (Lies.of_own hv2)
         have d3 := HT2.out.box.cell 3
         have d4 := HT2.out.box.cell 4
         simp only [List.getElem?_toArray, List.getElem?_cons_zero, List.getElem?_cons_succ] at d3 d4
         clear hv2 hk2 HM0 HT1 H1)
      | (have H2 := HL2
         refine step_app (by rfl) _ _ (by rfl) w.heap.size m0 m1 c2 (.slice A1 m0 c1) (encInt 6) (encInt (sg le)) A2 (by rfl) (by exact HT2.out.own) (by rfl) (by exact HL2.out) HM1.out (by omega) (by exact HT2.out.keeps.size) ?_
         intro v3 w3 hown3 hg3 hat3
         obtain ⟨A3, c3, rfl, _⟩ := own_form hown3
         have HT3 := Lib.hid (HT2.out.app hg3 hown3)
         have e3 := HT3.out.box.cell 3
         have e4 := HT3.out.box.cell 4
         simp only [List.getElem?_toArray, List.getElem?_cons_zero, List.getElem?_cons_succ] at e3 e4
         clear hown3 hg3 hat3 HL2 H2)
      | (have H3 := HM2
         go_at_call 17
         refine (Rf.int_n bi m2 _ HM2.out (by omega) (by omega)).mono ?_
         rintro e w4 ⟨A4, c4, rfl, hv4, hk4⟩
         have HT4 := Lib.hid (HT3.out.more hk4)
         have HL4 := Lib.hid (Lies.of_own hv4)
         have f3 := HT4.out.box.cell 3
         have f4 := HT4.out.box.cell 4
         simp only [List.getElem?_toArray, List.getElem?_cons_zero, List.getElem?_cons_succ] at f3 f4
         clear hv4 hk4 H3)
      | (refine step_app (by rfl) _ _ (by rfl) w.heap.size (m0 + m1) m2 c4 (.slice A3 (m0 + m1) c3) (encInt 6 ++ encInt (sg le)) (encInt bi) A4 (by rfl) (by exact HT4.out.own) (by rfl) (by exact HL4.out) HM2.out (by omega) (by exact HT4.out.keeps.size) ?_
         intro v5 w5 hown5 hg5 hat5
         obtain ⟨A5, c5, rfl, _⟩ := own_form hown5
         have HT5 := Lib.hid (HT4.out.app hg5 hown5)
         have g3 := HT5.out.box.cell 3
         have g4 := HT5.out.box.cell 4
         simp only [List.getElem?_toArray, List.getElem?_cons_zero, List.getElem?_cons_succ] at g3 g4
         clear hown5 hg5 hat5)))
  go_wp2_with fail
  go_ret
  obtain rfl := HM.out
  rw [← List.append_assoc, ← Nat.add_assoc]
  exact ⟨A5, c5, rfl, HT5.out.own, HT5.out.keeps⟩

set_option maxHeartbeats 8000000 in
set_option maxRecDepth 100000 in
theorem told_3 (L : List G) (m : Nat) (B le bi : Int) (A : Option Addr) (n c : Nat) (w : World) (hl : Ents w A n L) (hz : ∀ p ∈ L, 0 ≤ p.2 ∧ p.2 < 4294967296) (hm : (encInt 3 ++ entB L).length = m) :
    Calls Try.prog 18 #[.agg #[.int .u8 3, .int .i64 B, .slice A n c, .int .i64 le, .int .i64 bi]] w (Own w.heap.size m (encInt 3 ++ entB L) w) := by
  obtain ⟨m0, hm0⟩ : ∃ m0, (encInt 3).length = m0 := ⟨_, rfl⟩
  obtain ⟨m1, hm1⟩ : ∃ m1, (encInt (n : Int)).length = m1 := ⟨_, rfl⟩
  have hl0 := encInt_len 3
  have hl1 := encInt_len (n : Int)
  rw [hm0] at hl0
  rw [hm1] at hl1
  have HM0 := Lib.hid hm0
  have HM1 := Lib.hid hm1
  have HM := Lib.hid hm
  have HL := Lib.hid hl
  have HZ := Lib.hid hz
  have hn1 : n ≤ 1000 := hl.2.2
  have HLN : Hid (L.length = n) := hl.2.1
  have hw0 : IntKind.u32.wrap (n : Int) = (n : Int) := IntWalk.u32_in _ (by omega)
  clear hm0 hm1 hm hl hz
  go_enter Try.func18, Try.ntmps18
  go_upto_region 1 with fail
  have HT0 : Hid (Tld w (w.alloc (.cells #[.int .u8 3, .int .i64 B, .slice A n c, .int .i64 le, .int .i64 bi] 31)) w.heap.size #[.int .u8 3, .int .i64 B, .slice A n c, .int .i64 le, .int .i64 bi] (.slice none 0 0) 0 []) := Lib.hid ⟨Blk.new _ _ _, World.ownsRow_nil _ _ _ _, (Keeps.refl _ _).alloc _⟩
  generalize w.alloc (.cells #[.int .u8 3, .int .i64 B, .slice A n c, .int .i64 le, .int .i64 bi] 31) = W at HT0 ⊢
  have hk0 := HT0.out.box.cell 0
  simp only [List.getElem?_toArray, List.getElem?_cons_zero, List.getElem?_cons_succ] at hk0
  go_upto_region 2 with (
    go_at_call 17
    refine (Rf.int_n 3 m0 _ HM0.out (by omega) (by omega)).mono ?_
    rintro e w1 ⟨A1, c1, rfl, hv1, hk1⟩
    have HT1 : Hid (Tld w w1 w.heap.size _ (.slice A1 m0 c1) m0 (encInt 3)) := Lib.hid ⟨HT0.out.box.keeps hk1 id, hv1.mono HT0.out.keeps.size, HT0.out.keeps.trans hk1⟩
    clear hv1 hk1)
  clear hk0
  have hk0 := HT1.out.box.cell 0
  have hk2 := HT1.out.box.cell 2
  simp only [List.getElem?_toArray, List.getElem?_cons_zero, List.getElem?_cons_succ] at hk0 hk2
  go_upto_region 8 with (first
    | (have H1 := HM1
       go_at_call 17
       refine (Rf.int_n (n : Int) m1 _ HM1.out (by omega) (by omega)).mono ?_
       rintro e w2 ⟨A2, c2, rfl, hv2, hk2⟩
       have HT2 := Lib.hid (HT1.out.more hk2)
       have HL2 := Lib.hid (Lies.of_own hv2)
       clear hv2 hk2 HT1 H1)
    | (at_builtin
       refine wpList_app rfl (.tmp 34) (.tmp 39) rfl w.heap.size m0 m1 c2 (.slice A1 m0 c1) (encInt 3) (encInt (n : Int)) A2 rfl HT2.out.own rfl HL2.out HM1.out (by omega) HT2.out.keeps.size ?_
       intro v3 w3 hown3 hg3 hat3
       obtain ⟨A3, c3, rfl, _⟩ := own_form hown3
       have HT3 := Lib.hid (HT2.out.app hg3 hown3)
       clear hown3 hg3 hat3))
  clear hk0 hk2
  have hk2 := HT3.out.box.cell 2
  simp only [List.getElem?_toArray, List.getElem?_cons_zero, List.getElem?_cons_succ] at hk2
  obtain ⟨y1, hy1⟩ : ∃ y1, encInt 3 ++ encInt (n : Int) = y1 := ⟨_, rfl⟩
  rw [hy1] at HT3
  have HY1 := Lib.hid hy1
  obtain ⟨q1, hq1⟩ : ∃ q1, m0 + m1 = q1 := ⟨_, rfl⟩
  rw [hq1] at HT3 ⊢
  have hq10 : q1 ≤ 10 := by omega
  have HYL : Hid (y1.length = q1) := by show _ = _; rw [← hy1, List.length_append, HM0.out, HM1.out, hq1]
  clear hy1 hq1
  go_wp2_with fail
  go_loopw [3, 44] (fun mv i wr => ∃ (j q : Nat) (A' : Option Addr) (c' : Nat), mv = .slice A' q c' ∧ i = .int .i64 (j : Int) ∧ j ≤ n ∧ q ≤ 10 + 5 * j ∧ Hid (Tld w wr w.heap.size #[.int .u8 3, .int .i64 B, .slice A n c, .int .i64 le, .int .i64 bi] (.slice A' q c') q (y1 ++ encs (fun n => encInt (sg n)) ((L.map (·.1)).take j)))) (fun _ i _ => n - (intOf i).toNat)
  case atStart => exact ⟨0, q1, A3, c3, rfl, rfl, by omega, by omega, by show Tld _ _ _ _ _ _ _; simpa [encs] using HT3.out⟩
  case round =>
    clear HT3
    obtain ⟨j, q, A', c', rfl, rfl, hj, hq, HH⟩ := hrel
    by_cases hlt : j < n
    · obtain ⟨b, o, rfl, hb, h0, h1⟩ := g_item (HL.out.more HH.out.keeps).1 (j := j) (by rw [HLN.out]; exact hlt)
      obtain ⟨hm1, hm2⟩ := map_get (L := L) (j := j) (by rw [HLN.out]; exact hlt)
      generalize L.getD j (0, 0) = x at h0 h1 hm1 hm2
      obtain ⟨x1, x2⟩ := x
      simp only at h0 h1 hm1 hm2
      have HT4 := Lib.hid (HH.out.more ((Keeps.refl (fun _ => False) _).alloc (.cells #[.int .i64 x1, .int .i64 x2] 66)))
      have HEN := Lib.hid (encs_take (e := fun n => encInt (sg n)) hm1)
      obtain ⟨k1, hk1⟩ : ∃ k1, (encInt (sg x1)).length = k1 := ⟨_, rfl⟩
      have hl2 := encInt_len (sg x1)
      rw [hk1] at hl2
      have HK1 := Lib.hid hk1
      obtain ⟨z, hzz⟩ : ∃ z, y1 ++ encs (fun n => encInt (sg n)) ((L.map (·.1)).take j) = z := ⟨_, rfl⟩
      rw [hzz] at HT4
      have HZZ := Lib.hid hzz
      have hj0 : (j : Int) < (n : Int) := by omega
      clear hzz hm1 hm2 HH hk1
      go_wp2_with (first
        | (have H1 := HT4
           go_at_call 37
           refine (Rf.signed_n x1 k1 _ HK1.out).mono ?_
           rintro e w2 ⟨A2, c2, rfl, hv2, hk2⟩
           have HT5 := Lib.hid (HT4.out.more hk2)
           have HL2 := Lib.hid (Lies.of_own hv2)
           clear hv2 hk2 HT4 H1)
        | (at_builtin
           refine wpList_app rfl (.tmp 48) (.tmp 51) rfl w.heap.size q k1 c2 (.slice A' q c') z (encInt (sg x1)) A2 rfl HT5.out.own rfl HL2.out HK1.out (by omega) HT5.out.keeps.size ?_
           intro v3 w3 hown3 hg3 hat3
           obtain ⟨A6, c6, rfl, _⟩ := own_form hown3
           have HT6 := Lib.hid (HT5.out.app hg3 hown3)
           clear hown3 hg3 hat3))
      refine ⟨⟨j + 1, q + k1, A6, c6, rfl, by go_num, by omega, by omega, ?_⟩, by simp [intOf]; omega⟩
      rw [HEN.out, ← List.append_assoc, HZZ.out]
      exact HT6
    · obtain rfl : j = n := by omega
      have HT7 : Hid (Tld w wr w.heap.size #[.int .u8 3, .int .i64 B, .slice A j c, .int .i64 le, .int .i64 bi] (.slice A' q c') q (y1 ++ symB L)) := by
        have := HH.out
        rw [List.take_of_length_le (by rw [List.length_map, HLN.out]; exact Nat.le_refl _)] at this
        exact this
      clear HH
      obtain ⟨y2, hy2⟩ : ∃ y2, y1 ++ symB L = y2 := ⟨_, rfl⟩
      rw [hy2] at HT7
      have HY2 := Lib.hid hy2
      clear hy2 hlt hk2
      have hk2 := HT7.out.box.cell 2
      simp only [List.getElem?_toArray, List.getElem?_cons_zero, List.getElem?_cons_succ] at hk2
      go_wp2_with fail
      go_loopw [3, 57] (fun mv i wr => ∃ (k q' : Nat) (A' : Option Addr) (c' : Nat), mv = .slice A' q' c' ∧ i = .int .i64 (k : Int) ∧ k ≤ j ∧ q' ≤ q + 5 * k ∧ Hid (Tld w wr w.heap.size #[.int .u8 3, .int .i64 B, .slice A j c, .int .i64 le, .int .i64 bi] (.slice A' q' c') q' (y2 ++ encs encInt ((L.map (·.2)).take k)))) (fun _ i _ => j - (intOf i).toNat)
      case atStart => exact ⟨0, q, A', c', rfl, rfl, by omega, by omega, by show Tld _ _ _ _ _ _ _; simpa [encs] using HT7.out⟩
      case round =>
        clear HT7
        obtain ⟨k, q', A', c', rfl, rfl, hk, hq', HH⟩ := hrel
        by_cases hlt : k < j
        · obtain ⟨b, o, rfl, hb, h0, h1⟩ := g_item (HL.out.more HH.out.keeps).1 (j := k) (by rw [HLN.out]; exact hlt)
          obtain ⟨hm1, hm2⟩ := map_get (L := L) (j := k) (by rw [HLN.out]; exact hlt)
          have hx := HZ.out (L.getD k (0, 0)) (by rw [List.getD_eq_getElem?_getD, List.getElem?_eq_getElem (by rw [HLN.out]; exact hlt)]; exact List.getElem_mem _)
          generalize L.getD k (0, 0) = x at h0 h1 hm1 hm2 hx
          obtain ⟨x1, x2⟩ := x
          simp only at h0 h1 hm1 hm2 hx
          have HX := Lib.hid hx
          have hwx : IntKind.u32.wrap x2 = x2 := IntWalk.u32_in _ (by omega)
          have HT4 := Lib.hid (HH.out.more ((Keeps.refl (fun _ => False) _).alloc (.cells #[.int .i64 x1, .int .i64 x2] 66)))
          have HEN := Lib.hid (encs_take (e := encInt) hm2)
          obtain ⟨k1, hk1⟩ : ∃ k1, (encInt x2).length = k1 := ⟨_, rfl⟩
          have hl2 := encInt_len x2
          rw [hk1] at hl2
          have HK1 := Lib.hid hk1
          obtain ⟨z, hzz⟩ : ∃ z, y2 ++ encs encInt ((L.map (·.2)).take k) = z := ⟨_, rfl⟩
          rw [hzz] at HT4
          have HZZ := Lib.hid hzz
          have hj0 : (k : Int) < (j : Int) := by omega
          clear hzz hm1 hm2 HH hk1 hx
          go_wp2_with (first
            | (have H1 := HT4
               go_at_call 17
               refine (Rf.int_n x2 k1 _ HK1.out HX.out.1 HX.out.2).mono ?_
               rintro e w2 ⟨A2, c2, rfl, hv2, hk2⟩
               have HT5 := Lib.hid (HT4.out.more hk2)
               have HL2 := Lib.hid (Lies.of_own hv2)
               clear hv2 hk2 HT4 H1)
            | (at_builtin
               refine wpList_app rfl (.tmp 61) (.tmp 65) rfl w.heap.size q' k1 c2 (.slice A' q' c') z (encInt x2) A2 rfl HT5.out.own rfl HL2.out HK1.out (by omega) HT5.out.keeps.size ?_
               intro v3 w3 hown3 hg3 hat3
               obtain ⟨A6, c6, rfl, _⟩ := own_form hown3
               have HT6 := Lib.hid (HT5.out.app hg3 hown3)
               clear hown3 hg3 hat3))
          refine ⟨⟨k + 1, q' + k1, A6, c6, rfl, by go_num, by omega, by omega, ?_⟩, by simp [intOf]; omega⟩
          rw [HEN.out, ← List.append_assoc, HZZ.out]
          exact HT6
        · obtain rfl : k = j := by omega
          go_wp2
          go_ret
          have h := HH.out
          rw [List.take_of_length_le (by rw [List.length_map, HLN.out]; exact Nat.le_refl _), ← HY2.out, ← HY1.out] at h
          have he : encInt 3 ++ entB L = encInt 3 ++ encInt (k : Int) ++ symB L ++ encs encInt (L.map (·.2)) := by rw [entB, HLN.out, sizB]; simp only [List.append_assoc]
          have hq2 := h.own.1
          rw [bv_len] at hq2
          obtain rfl : m = q' := by rw [← HM.out, he]; omega
          rw [he]
          exact ⟨A', c', rfl, h.own, h.keeps⟩

/-- The statements' own bytes of a way that may be. -/
theorem told_ (d : D) (m : Nat) (A : Option Addr) (n c : Nat) (w : World) (hl : Ents w A n d.L) (hc : chkI d = 0) (hm : (bytI d).length = m) : Calls Try.prog 18 #[.agg (dv A n c d)] w (Own w.heap.size m (bytI d) w) := by
  obtain ⟨K, B, L, le, bi⟩ := d
  rcases chkI_in hc with ⟨hk, hb⟩ | ⟨hk, hb⟩ | ⟨hk, hb⟩
  · simp only at hk hb
    subst hk
    have he : bytI ⟨1, B, L, le, bi⟩ = encInt 1 ++ encInt B := by simp [bytI, bodI]
    rw [he] at hm ⊢
    exact told_1 B m A n c le bi w hb.1 hb.2 hm
  · simp only at hk hb
    subst hk
    have he : bytI ⟨3, B, L, le, bi⟩ = encInt 3 ++ entB L := by simp [bytI, bodI]
    rw [he] at hm ⊢
    exact told_3 L m B le bi A n c w hl (fun p hp => by have := (newE_in hb) p hp; omega) hm
  · simp only at hk hb
    subst hk
    have he : bytI ⟨6, B, L, le, bi⟩ = encInt 6 ++ (encInt (sg le) ++ encInt bi) := by simp [bytI, bodI]
    rw [he] at hm ⊢
    exact told_6 le bi m B A n c w hb.2.1 hb.2.2 hm
end Go.Proofs.Ytankkadfaokaoaa.Ds

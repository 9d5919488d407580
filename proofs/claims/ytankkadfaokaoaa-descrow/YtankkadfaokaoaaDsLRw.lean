/- DescRow's walk: ways one behind the other, put and taken one by one. -/
import Derived.Test.YtankkadfaokaoaaJAwake9DsTkP
import Derived.Test.YtankkadfaokaoaaDsSmA
import Derived.Test.YtankkadfaokaoaaJDsTwoRDsByt
import Derived.Test.YtankkadfaokaoaaDsPutA
import Derived.Test.YtankkadfaokaoaaDsTkII
import Derived.Test.YtankkadfaokaoaaDsTkAA
import Derived.Outline
import Derived.Deep.RegionHeld3
import Derived.Deep.CutRange
import Derived.Deep.CutBlock
import Derived.RegionTactic
import Derived.BigQuiet
namespace Go.Proofs.Ytankkadfaokaoaa.Ds
open Go.RowKit Go.Proofs.Ytankkadfaokaoaa.Gen Go.Proofs.Ytankkadfaokaoaa.Wr Go.Proofs.Ytankkadfaokaoaa.Ww Go.Proofs.Ytankkadfaokaoaa.It Go.Proofs.Ytankkadfaokaoaa.Iw Go.Proofs.Ytankkadfaokaoaa.Ir Go.Proofs.Ytankkadfaokaoaa.Ib Go.Proofs.Ytankkadfaokaoaa.Tw Go.Proofs.Ytankkadfaokaoaa.Hr Go.Proofs.Ytankkadfaokaoaa.Hn Go.Proofs.Ytankkadfaokaoaa.Hk Go.Proofs.Ytankkadfaokaoaa.Ln

/-- The bytes of so many ways. -/
def rowB (f : Nat → Sm) : Nat → List Int
  | 0 => []
  | d + 1 => rowB f d ++ (bytI (f d).I ++ bytA (f d).A)
theorem rowB_len (f : Nat → Sm) (n : Nat) (h : ∀ i, i < n → (f i).ok) : ∀ d, d ≤ n → (rowB f d).length ≤ d * 500
  | 0, _ => by simp [rowB]
  | d + 1, hd => by
    have ih := rowB_len f n h d (by omega)
    have h1 := (Sm.I_ok (h d (by omega))).2.2
    have h2 := (Sm.A_ok (h d (by omega))).2.2
    have h3 := bytI_len (f d).I
    have h4 := bytA_len (f d).A
    simp only [rowB, List.length_append]
    omega
theorem rowB_split (f : Nat → Sm) {d : Nat} : ∀ n, d < n → ∃ rest, rowB f n = rowB f d ++ (bytI (f d).I ++ (bytA (f d).A ++ rest))
  | 0, h => by omega
  | n + 1, h => by
    rcases Nat.lt_or_ge d n with hd | hd
    · obtain ⟨rest, hr⟩ := rowB_split f n hd
      exact ⟨rest ++ (bytI (f n).I ++ bytA (f n).A), by rw [rowB, hr]; simp only [List.append_assoc]⟩
    · obtain rfl : d = n := by omega
      exact ⟨[], by rw [rowB, List.append_nil]⟩
theorem Sm.S_in {s : Sm} (h : s.ok) : 0 ≤ s.A.S ∧ s.A.S < 256 := by
  have hS := h.S
  unfold Sm.A
  split
  · exact hS
  · simp
theorem rowB_byte (f : Nat → Sm) (n : Nat) (h : ∀ i, i < n → (f i).ok) : ∀ d, d ≤ n → ∀ x ∈ rowB f d, 0 ≤ x ∧ x < 256
  | 0, _ => by simp [rowB]
  | d + 1, hd => byte_app (rowB_byte f n h d (by omega)) (byte_app (bytI_byte (Sm.I_ok (h d (by omega))).1) (bytA_byte (Sm.A_ok (h d (by omega))).1 (Sm.S_in (h d (by omega)))))
theorem its_lt {base g k : Nat} {v : Value} {ys : List Int} {w : World} (h : IsWr base g v ys w) (hk : Its g v k) : k < w.heap.size := by
  rcases hk with rfl | hk
  · exact h.lt
  · rcases h.2.2.2.2.2.2 with ⟨rfl, _⟩ | ⟨g', cap, cur, rfl, _, hh, _⟩
    · cases hk
    · injection hk with hk
      subst hk
      exact (Array.getElem?_eq_some_iff.1 hh).1
theorem keeps_its {w1 wr w' : World} {g : Nat} {v : Value} {ys : List Int} (h : Keeps (fun _ => False) w1 wr) (hw : IsWr g g v ys wr) (hg : w1.heap.size ≤ g) (k : Keeps (Its g v) wr w') : Keeps (fun _ => False) w1 w' :=
  ⟨k.os.trans h.os, k.tape.trans h.tape, k.output.trans h.output, Nat.le_trans h.size k.size, fun x hx hn => (k.block x (Nat.lt_of_lt_of_le hx h.size) (fun hi => by have := hw.its x hi; omega)).trans (h.block x hx hn)⟩
/-- A Reader in a variable, a way's own variable beside it. -/
structure Rw (X V bg g : Nat) (s : RS) (sv : Array Value) (w1 wr : World) : Prop where
  r : IsRd bg g s wr
  x : Blk wr X 46 #[.pointer (some ⟨g, 0, none⟩)]
  v : Blk wr V 26 sv
  k : Keeps (fun _ => False) w1 wr
  l : w1.heap.size ≤ g
section
variable {X V bg g : Nat} {s s' : RS} {sv : Array Value} {w1 wr w' : World}
theorem Rw.low (h : Rw X V bg g s sv w1 wr) (k : Keeps (· = g) wr w') : Keeps (fun _ => False) w1 w' := keeps_high h.k k h.l
theorem Rw.xs (h : Rw X V bg g s sv w1 wr) (k : Keeps (· = g) wr w') : Blk w' X 46 #[.pointer (some ⟨g, 0, none⟩)] := by
  obtain ⟨_, _, A, c, h5, _⟩ := h.r
  exact h.x.keeps k (fun e => blk_apart h.x h5 (by decide) e)
theorem Rw.vs (h : Rw X V bg g s sv w1 wr) (k : Keeps (· = g) wr w') : Blk w' V 26 sv := by
  obtain ⟨_, _, A, c, h5, _⟩ := h.r
  exact h.v.keeps k (fun e => blk_apart h.v h5 (by decide) e)
theorem Rw.more (h : Rw X V bg g s sv w1 wr) (k : Keeps (fun _ => False) wr w') : Rw X V bg g s sv w1 w' :=
  ⟨h.r.keeps k (fun _ _ => id), h.x.keeps k id, h.v.keeps k id, h.k.trans k, h.l⟩
theorem Rw.turn (h : Rw X V bg g s sv w1 wr) (hr : IsRd bg g s' w') (k : Keeps (· = g) wr w') : Rw X V bg g s' sv w1 w' := ⟨hr, h.xs k, h.vs k, h.low k, h.l⟩
end

set_option maxHeartbeats 16000000 in
set_option maxRecDepth 100000 in
theorem row_ (f : Nat → Sm) (fa : Nat → Option Addr) (fc : Nat → Nat) (A : Option Addr) (n c b o : Nat) (w : World) (hok : ∀ i, i < n → (f i).ok) (hA : 0 < n → A = some ⟨b, o, none⟩ ∧ b < w.heap.size)
    (hcell : ∀ i, i < n → ∀ j, j < 7 → w.cell? ⟨b, o + i * 7 + j, none⟩ = ((f i).v (fa i) (fc i))[j]?) : Calls Try.prog 7 #[.slice A n c] w fun r w' => r = .returned (.bool true) ∧ Keeps (fun _ => False) w w' := by
  have HOK := Lib.hid hok
  have HA := Lib.hid hA
  have HCE := Lib.hid hcell
  clear hok hA hcell
  go_enter Try.func7, Try.ntmps7
  go_upto_region 3 with (
    go_at_call 8
    refine (awake _).mono ?_
    rintro e w1 ⟨rfl, hk1⟩
    have HK1 := Lib.hid hk1
    clear hk1)
  by_cases hg0 : 10 < n
  · have hd0 : decide ((10 : Int) < (n : Int)) = true := by rw [decide_eq_true_iff]; omega
    clear hg0
    go_wp2
    go_ret
    exact ⟨rfl, HK1.out⟩
  have hd0 : decide ((10 : Int) < (n : Int)) = false := by rw [decide_eq_false_iff_not]; omega
  have hn10 : n ≤ 10 := by omega
  have HN10 : Hid (n ≤ 10) := Lib.hid hn10
  clear hg0
  go_upto_region 6 with fail
  clear hd0
  have HR0 : Hid (IsWr w1.heap.size w1.heap.size (.slice none 0 0) [] (w1.alloc (.cells #[.slice none 0 0] 40))) := Lib.hid (new_of 40 (by decide) w1)
  have HK2 : Hid (Keeps (fun _ => False) w1 (w1.alloc (.cells #[.slice none 0 0] 40))) := Lib.hid ((Keeps.refl _ _).alloc _)
  generalize w1.alloc (.cells #[.slice none 0 0] 40) = W2 at HR0 HK2 ⊢
  obtain ⟨G, hG⟩ : ∃ G, w1.heap.size = G := ⟨_, rfl⟩
  have HGW : Hid (w1.heap.size = G) := Lib.hid hG
  rw [hG] at HR0 ⊢
  clear hG
  go_wp2_with fail
  go_loopw [18] (fun i wr => ∃ d : Nat, i = .int .i64 (d : Int) ∧ d ≤ n ∧ Hid (Keeps (fun _ => False) w1 wr ∧ ∃ v1, IsWr G G v1 (rowB f d) wr)) (fun i _ => n - (intOf i).toNat)
  case atStart => exact ⟨0, rfl, by omega, Lib.hid ⟨HK2.out, _, HR0.out⟩⟩
  case round =>
    obtain ⟨d, rfl, hd, HH⟩ := hrel
    by_cases hlt : d < n
    · have HKR : Hid (Keeps (fun _ => False) w wr) := Lib.hid (HK1.out.trans HH.out.1)
      have hrl := rowB_len f n HOK.out d hd
      have hok := HOK.out d hlt
      have hao := HA.out (by omega)
      obtain ⟨hA1, hbw⟩ := hao
      subst hA1
      have k0 := HCE.out d hlt 0 (by omega)
      have k1 := HCE.out d hlt 1 (by omega)
      have k2 := HCE.out d hlt 2 (by omega)
      have k3 := HCE.out d hlt 3 (by omega)
      have k4 := HCE.out d hlt 4 (by omega)
      have k5 := HCE.out d hlt 5 (by omega)
      have k6 := HCE.out d hlt 6 (by omega)
      obtain ⟨hi1, hi2, hi3⟩ := Sm.I_ok hok
      obtain ⟨ha1, ha2, ha3⟩ := Sm.A_ok hok
      have HMI := Lib.hid (fun (x : D) (hx : (f d).I = x) W => hx ▸ ints_ (f d) (fa d) (fc d) W hok)
      have HMA := Lib.hid (fun (x : E) (hx : (f d).A = x) W => hx ▸ arrays_ (f d) (fa d) (fc d) W hok)
      have HSP := Lib.hid (rowB_split f n hlt)
      have HRB : Hid (rowB f (d + 1) = rowB f d ++ (bytI (f d).I ++ bytA (f d).A)) := Lib.hid rfl
      obtain ⟨dd, hdd⟩ : ∃ x, (f d).I = x := ⟨_, rfl⟩
      obtain ⟨ee, hee⟩ : ∃ x, (f d).A = x := ⟨_, rfl⟩
      replace HMI := Lib.hid (HMI.out dd hdd)
      replace HMA := Lib.hid (HMA.out ee hee)
      rw [hdd] at hi1 hi2 hi3 HRB HSP
      rw [hee] at ha1 ha2 ha3 HRB HSP
      have HHI1 := Lib.hid hi1
      have HHI2 := Lib.hid hi2
      have HHI3 := Lib.hid hi3
      have HHA1 := Lib.hid ha1
      have HHA2 := Lib.hid ha2
      have HHA3 := Lib.hid ha3
      clear hi1 hi2 hi3 ha1 ha2 ha3 hdd hee hok
      generalize f d = s at HMI HMA k0 k1 k2 k3 k4 k5 k6
      generalize fa d = FA at HMI HMA k0 k1 k2 k3 k4 k5 k6
      generalize fc d = FC at HMI HMA k0 k1 k2 k3 k4 k5 k6
      obtain ⟨K, bi, B, le, nn, S, stop⟩ := s
      unfold Sm.v at HMI HMA k0 k1 k2 k3 k4 k5 k6
      simp only [List.getElem?_toArray, List.getElem?_cons_zero, List.getElem?_cons_succ] at k0 k1 k2 k3 k4 k5 k6
      simp only [Nat.add_zero] at k0
      simp only at HMI HMA
      unfold MadeI at HMI
      unfold MadeA at HMA
      have q0 := (HKR.out.cell (p := ⟨b, o + d * 7, none⟩) hbw id).trans k0
      have q1 := (HKR.out.cell (p := ⟨b, o + d * 7 + 1, none⟩) hbw id).trans k1
      have q2 := (HKR.out.cell (p := ⟨b, o + d * 7 + 2, none⟩) hbw id).trans k2
      have q3 := (HKR.out.cell (p := ⟨b, o + d * 7 + 3, none⟩) hbw id).trans k3
      have q4 := (HKR.out.cell (p := ⟨b, o + d * 7 + 4, none⟩) hbw id).trans k4
      have q5 := (HKR.out.cell (p := ⟨b, o + d * 7 + 5, none⟩) hbw id).trans k5
      have q6 := (HKR.out.cell (p := ⟨b, o + d * 7 + 6, none⟩) hbw id).trans k6
      clear k0 k1 k2 k3 k4 k5 k6 hbw
      have hd1 : (d : Int) < (n : Int) := by omega
      obtain ⟨v1, hv1⟩ := HH.out.2
      have HKA := Lib.hid HH.out.1
      have HV1 := Lib.hid hv1
      have HRL : Hid ((rowB f d).length ≤ 6000) := Lib.hid (by have := HN10.out; omega)
      obtain ⟨ys, hys⟩ : ∃ ys, rowB f d = ys := ⟨_, rfl⟩
      rw [hys] at HV1 HRL HRB
      have HLT := Lib.hid hlt
      clear hv1 HH hrl hys hlt
      have HB4 : Hid (Blk (wr.alloc (.cells #[.int .u8 K, .int .u8 bi, .int .u16 B, .int .i16 le, .slice FA nn FC, .int .u8 S, .bool stop] 26)) wr.heap.size 26 #[.int .u8 K, .int .u8 bi, .int .u16 B, .int .i16 le, .slice FA nn FC, .int .u8 S, .bool stop]) := Lib.hid (Blk.new _ _ _)
      have HK4 : Hid (Keeps (fun _ => False) wr (wr.alloc (.cells #[.int .u8 K, .int .u8 bi, .int .u16 B, .int .i16 le, .slice FA nn FC, .int .u8 S, .bool stop] 26))) := Lib.hid ((Keeps.refl _ _).alloc _)
      go_upto_region 9 with fail
      generalize wr.alloc (.cells #[.int .u8 K, .int .u8 bi, .int .u16 B, .int .i16 le, .slice FA nn FC, .int .u8 S, .bool stop] 26) = W4 at HB4 HK4 ⊢
      obtain ⟨V, hV⟩ : ∃ V, wr.heap.size = V := ⟨_, rfl⟩
      rw [hV] at HB4 ⊢
      have HVG : Hid (G < V) := Lib.hid (by have := HV1.out.lt; omega)
      clear hV q0 q1 q2 q3 q4 q5 q6
      have HK5 := Lib.hid (HKA.out.trans HK4.out)
      have HV5 := Lib.hid (HV1.out.keeps HK4.out (fun _ _ => id))
      clear HK4 HV1 HKA HKR
      have x0 := HB4.out.cell 0
      have x1 := HB4.out.cell 1
      have x2 := HB4.out.cell 2
      have x3 := HB4.out.cell 3
      have x4 := HB4.out.cell 4
      have x5 := HB4.out.cell 5
      have x6 := HB4.out.cell 6
      simp only [List.getElem?_toArray, List.getElem?_cons_zero, List.getElem?_cons_succ] at x0 x1 x2 x3 x4 x5 x6
      by_cases hn60 : 60 < nn
      · have hq : decide ((60 : Int) < (nn : Int)) = true := by rw [decide_eq_true_iff]; omega
        clear hn60
        go_wp2
        go_ret
        exact ⟨rfl, HK1.out.trans HK5.out⟩
      · have hq : decide ((60 : Int) < (nn : Int)) = false := by rw [decide_eq_false_iff_not]; omega
        clear hn60
        go_wp2_with (first
          | (have H1 := HV5
             go_at_call 9
             refine (HMI.out _).mono ?_
             rintro e w6 ⟨A6, n6, c6, rfl, hE, hAE, hk⟩
             have HE6 := Lib.hid hE
             have HK6 := Lib.hid (HK5.out.trans hk)
             have HV6 := Lib.hid (HV5.out.keeps hk (fun _ _ => id))
             have HB6 := Lib.hid (HB4.out.keeps hk id)
             have HF6 : Hid (0 < n6 → ∀ b o, A6 = some ⟨b, o, none⟩ → ¬ Its G v1 b) := Lib.hid (fun h0 b o e hi => by have := hAE b o e; have := its_lt HV5.out hi; omega)
             clear hE hAE hk H1 HV5 HMI)
          | (have H1 := HV6
             go_at_call 13
             refine (put_i G G v1 ys A6 n6 c6 dd _ HV6.out HE6.out HF6.out (by have := HRL.out; omega) HHI1.out).mono ?_
             rintro e w7 ⟨rfl, hw⟩
             have HK7 : Hid (Keeps (fun _ => False) w1 w7 ∧ ∃ v2, IsWr G G v2 (ys ++ bytI dd) w7) := by
               obtain ⟨v2, h1, h2, _⟩ := hw
               exact Lib.hid ⟨keeps_its HK6.out HV6.out (by rw [HGW.out]; exact Nat.le_refl _) h2, v2, h1⟩
             have HB7 : Hid (Blk w7 V 26 #[.int .u8 K, .int .u8 bi, .int .u16 B, .int .i16 le, .slice FA nn FC, .int .u8 S, .bool stop]) := by
               obtain ⟨v2, h1, h2, _⟩ := hw
               exact Lib.hid (HB6.out.keeps h2 (far HV6.out HB6.out (by have := HVG.out; omega) (by decide)))
             have y0 := HB7.out.cell 0
             have y1 := HB7.out.cell 1
             have y2 := HB7.out.cell 2
             have y3 := HB7.out.cell 3
             have y4 := HB7.out.cell 4
             have y5 := HB7.out.cell 5
             have y6 := HB7.out.cell 6
             simp only [List.getElem?_toArray, List.getElem?_cons_zero, List.getElem?_cons_succ] at y0 y1 y2 y3 y4 y5 y6
             clear hw H1 HE6 HF6 x0 x1 x2 x3 x4 x5 x6)
          | (have H1 := HMA
             go_at_call 10
             refine (HMA.out _).mono ?_
             rintro e w8 ⟨A7, n7, c7, rfl, hE, hAE, hk⟩
             have HE7 := Lib.hid hE
             have HK8 := Lib.hid (HK7.out.1.trans hk)
             have HV8 : Hid (∃ v2, IsWr G G v2 (ys ++ bytI dd) w8 ∧ (0 < n7 → ∀ b o, A7 = some ⟨b, o, none⟩ → ¬ Its G v2 b)) := by
               obtain ⟨v2, h1⟩ := HK7.out.2
               exact Lib.hid ⟨v2, h1.keeps hk (fun _ _ => id), fun h0 b o e hi => by have := hAE b o e; have := its_lt h1 hi; omega⟩
             have HB8 := Lib.hid (HB7.out.keeps hk id)
             clear hE hAE hk H1 HMA)
          | (have H1 := HE7
             go_at_call 14
             obtain ⟨v2, hv2, hf2⟩ := HV8.out
             have HV2 := Lib.hid hv2
             refine (put_a G G v2 (ys ++ bytI dd) A7 n7 c7 ee _ hv2 HE7.out hf2 (by have := HRL.out; have := bytI_len dd; have := HHI3.out; rw [List.length_append]; omega) HHA1.out).mono ?_
             rintro e w9 ⟨rfl, hw⟩
             have HK9 : Hid (Keeps (fun _ => False) w1 w9 ∧ ∃ v3, IsWr G G v3 (ys ++ bytI dd ++ bytA ee) w9) := by
               obtain ⟨v3, h1, h2, _⟩ := hw
               exact Lib.hid ⟨keeps_its HK8.out HV2.out (by rw [HGW.out]; exact Nat.le_refl _) h2, v3, h1⟩
             clear hw H1 hv2 hf2))
        refine ⟨⟨d + 1, by go_num, by have := HLT.out; omega, Lib.hid ⟨HK9.out.1, ?_⟩⟩, by simp [intOf]; have := HLT.out; omega⟩
        rw [HRB.out, ← List.append_assoc]
        exact HK9.out.2
    · obtain rfl : d = n := by omega
      have hge : ¬ ((d : Int) < (d : Int)) := by omega
      obtain ⟨v1, hv1⟩ := HH.out.2
      have HV1 := Lib.hid hv1
      have HKA := Lib.hid HH.out.1
      have hal := rowB_len f d HOK.out d (Nat.le_refl _)
      have hab := rowB_byte f d HOK.out d (Nat.le_refl _)
      obtain ⟨all, hall⟩ : ∃ all, rowB f d = all := ⟨_, rfl⟩
      have HALL := Lib.hid hall
      rw [hall] at HV1 hal hab
      obtain ⟨m, hm⟩ : ∃ m, all.length = m := ⟨_, rfl⟩
      have HM := Lib.hid hm
      have hmb : m ≤ 6000 := by have := HN10.out; omega
      have HAB := Lib.hid hab
      clear hv1 HH hal hab hall hm hlt
      go_upto_region 13 with (first
        | (have H1 := HV1
           go_at_call 16
           refine (bytes_n G G v1 all m _ HM.out HV1.out).mono ?_
           rintro e w6 ⟨A6, c6, rfl, hv, hk⟩
           have HK6 := Lib.hid (HKA.out.trans hk)
           have HL6 := Lib.hid (Lies.of_own hv)
           clear hv hk H1 HV1 HKA)
        | (have H1 := HL6
           go_at_call 15
           have HI := iread A6 m c6 all w6 HM.out HL6.out (by omega) HAB.out
           unfold NewItf rd at HI
           refine HI.mono ?_
           rintro e w7 ⟨g, rfl, hr, hk⟩
           have HK7 := Lib.hid (HK6.out.trans hk)
           have HR7 : Hid (IsRd w6.heap.size g ⟨all, 0, 0⟩ w7 ∧ w1.heap.size ≤ g) := Lib.hid ⟨hr, by have := hr.1; have := HK6.out.size; omega⟩
           clear hr hk H1 HI))
      have HX8 : Hid (Blk (w7.alloc (.cells #[.pointer (some ⟨g, 0, none⟩)] 46)) w7.heap.size 46 #[.pointer (some ⟨g, 0, none⟩)]) := Lib.hid (Blk.new _ _ _)
      have HK8 : Hid (Keeps (fun _ => False) w7 (w7.alloc (.cells #[.pointer (some ⟨g, 0, none⟩)] 46))) := Lib.hid ((Keeps.refl _ _).alloc _)
      generalize w7.alloc (.cells #[.pointer (some ⟨g, 0, none⟩)] 46) = W8 at HX8 HK8 ⊢
      obtain ⟨X, hX⟩ : ∃ X, w7.heap.size = X := ⟨_, rfl⟩
      rw [hX] at HX8 ⊢
      clear hX
      obtain ⟨bg, hbg⟩ : ∃ bg, w6.heap.size = bg := ⟨_, rfl⟩
      rw [hbg] at HR7
      clear hbg
      have HR8 : Hid (IsRd bg g ⟨all, 0, 0⟩ W8) := Lib.hid (HR7.out.1.keeps HK8.out (fun _ _ => id))
      have HKL := Lib.hid (HK7.out.trans HK8.out)
      have HGL : Hid (w1.heap.size ≤ g) := Lib.hid HR7.out.2
      clear HR7 HK7 HK8 HK6 HL6
      go_wp2_with fail
      go_loopw [52] (fun i wr => ∃ k : Nat, i = .int .i64 (k : Int) ∧ k ≤ d ∧ Hid (Keeps (fun _ => False) w1 wr ∧ IsRd bg g ⟨all, (rowB f k).length, 0⟩ wr ∧ Blk wr X 46 #[.pointer (some ⟨g, 0, none⟩)])) (fun i _ => d - (intOf i).toNat)
      case atStart => exact ⟨0, rfl, by omega, Lib.hid ⟨HKL.out, HR8.out, HX8.out⟩⟩
      case round =>
        obtain ⟨k, rfl, hk, HH⟩ := hrel
        by_cases hlt : k < d
        · obtain ⟨n, hn⟩ : ∃ n, n = d := ⟨_, rfl⟩
          rw [← hn] at hlt HOK HA HCE HALL HN10 ⊢
          obtain ⟨d0, hd0⟩ : ∃ d0, d0 = d := ⟨_, rfl⟩
          clear hk
          have HKR : Hid (Keeps (fun _ => False) w wr) := Lib.hid (HK1.out.trans HH.out.1)
          have hok := HOK.out k hlt
          have hao := HA.out (by omega)
          obtain ⟨hA1, hbw⟩ := hao
          subst hA1
          have k0 := HCE.out k hlt 0 (by omega)
          have k1 := HCE.out k hlt 1 (by omega)
          have k2 := HCE.out k hlt 2 (by omega)
          have k3 := HCE.out k hlt 3 (by omega)
          have k4 := HCE.out k hlt 4 (by omega)
          have k5 := HCE.out k hlt 5 (by omega)
          have k6 := HCE.out k hlt 6 (by omega)
          obtain ⟨hi1, hi2, hi3⟩ := Sm.I_ok hok
          obtain ⟨ha1, ha2, ha3⟩ := Sm.A_ok hok
          have HMI := Lib.hid (fun (x : D) (hx : (f k).I = x) W => hx ▸ ints_ (f k) (fa k) (fc k) W hok)
          have HMA := Lib.hid (fun (x : E) (hx : (f k).A = x) W => hx ▸ arrays_ (f k) (fa k) (fc k) W hok)
          have HSP := Lib.hid (rowB_split f n hlt)
          have HRB : Hid (rowB f (k + 1) = rowB f k ++ (bytI (f k).I ++ bytA (f k).A)) := Lib.hid rfl
          obtain ⟨dd, hdd⟩ : ∃ x, (f k).I = x := ⟨_, rfl⟩
          obtain ⟨ee, hee⟩ : ∃ x, (f k).A = x := ⟨_, rfl⟩
          replace HMI := Lib.hid (HMI.out dd hdd)
          replace HMA := Lib.hid (HMA.out ee hee)
          rw [hdd] at hi1 hi2 hi3 HRB HSP
          rw [hee] at ha1 ha2 ha3 HRB HSP
          have HHI1 := Lib.hid hi1
          have HHI2 := Lib.hid hi2
          have HHI3 := Lib.hid hi3
          have HHA1 := Lib.hid ha1
          have HHA2 := Lib.hid ha2
          have HHA3 := Lib.hid ha3
          clear hi1 hi2 hi3 ha1 ha2 ha3 hdd hee hok
          generalize f k = s at HMI HMA k0 k1 k2 k3 k4 k5 k6
          generalize fa k = FA at HMI HMA k0 k1 k2 k3 k4 k5 k6
          generalize fc k = FC at HMI HMA k0 k1 k2 k3 k4 k5 k6
          obtain ⟨K, bi, B, le, nn, S, stop⟩ := s
          unfold Sm.v at HMI HMA k0 k1 k2 k3 k4 k5 k6
          simp only [List.getElem?_toArray, List.getElem?_cons_zero, List.getElem?_cons_succ] at k0 k1 k2 k3 k4 k5 k6
          simp only [Nat.add_zero] at k0
          simp only at HMI HMA
          unfold MadeI at HMI
          unfold MadeA at HMA
          have q0 := (HKR.out.cell (p := ⟨b, o + k * 7, none⟩) hbw id).trans k0
          have q1 := (HKR.out.cell (p := ⟨b, o + k * 7 + 1, none⟩) hbw id).trans k1
          have q2 := (HKR.out.cell (p := ⟨b, o + k * 7 + 2, none⟩) hbw id).trans k2
          have q3 := (HKR.out.cell (p := ⟨b, o + k * 7 + 3, none⟩) hbw id).trans k3
          have q4 := (HKR.out.cell (p := ⟨b, o + k * 7 + 4, none⟩) hbw id).trans k4
          have q5 := (HKR.out.cell (p := ⟨b, o + k * 7 + 5, none⟩) hbw id).trans k5
          have q6 := (HKR.out.cell (p := ⟨b, o + k * 7 + 6, none⟩) hbw id).trans k6
          clear k0 k1 k2 k3 k4 k5 k6 hbw
          have hd1 : (k : Int) < (n : Int) := by omega
          obtain ⟨kk, hkk⟩ : ∃ kk, (rowB f k).length = kk := ⟨_, rfl⟩
          obtain ⟨rest, hrest⟩ := HSP.out
          rw [HALL.out] at hrest
          have hdr : all.drop kk = bytI dd ++ (bytA ee ++ rest) := by rw [hrest, ← hkk, List.drop_left]
          have ht1 := TI_back hdr HHI1.out
          rw [HHI2.out] at ht1
          obtain ⟨k1, hk1⟩ : ∃ k1, kk + (bytI dd).length = k1 := ⟨_, rfl⟩
          have hdr2 : all.drop k1 = bytA ee ++ rest := by rw [← hk1]; exact drop_next hdr
          have ht2 := TA_back hdr2 HHA1.out
          rw [HHA2.out] at ht2
          rw [hk1] at ht1
          obtain ⟨k2, hk2⟩ : ∃ k2, k1 + (bytA ee).length = k2 := ⟨_, rfl⟩
          rw [hk2] at ht2
          have hnx : (rowB f (k + 1)).length = k2 := by rw [HRB.out, List.length_append, List.length_append, hkk, ← hk2, ← hk1]; omega
          have HNX := Lib.hid hnx
          have HT1 := Lib.hid ht1
          have HT2 := Lib.hid ht2
          have HLT := Lib.hid hlt
          rw [hkk] at HH
          clear hrest hdr ht1 hdr2 ht2 hk1 hk2 hnx hkk HSP HRB hlt
          have HTK : Hid (∀ W, IsRd bg g ⟨all, kk, 0⟩ W → Calls Try.prog 20 #[rd g] W fun r w' => ∃ A n, r = .returned (.agg (dv A n n dd)) ∧ Ents w' A n dd.L ∧ IsRd bg g ⟨all, k1, 0⟩ w' ∧ Keeps (· = g) W w' ∧ ∀ b o, A = some ⟨b, o, none⟩ → W.heap.size ≤ b) := fun W h => (take_ii g ⟨all, kk, 0⟩ bg W h).mono fun r w' ⟨A, n, h1, h2, _, h5, h3, h4⟩ => by rw [HT1.out] at h1 h2 h3; exact ⟨A, n, h1, h2, h3, h4, h5⟩
          have HTJ : Hid (∀ W, IsRd bg g ⟨all, k1, 0⟩ W → Calls Try.prog 22 #[rd g] W fun r w' => ∃ A n, r = .returned (.agg (av A n n ee)) ∧ Ents w' A n ee.d.L ∧ IsRd bg g ⟨all, k2, 0⟩ w' ∧ Keeps (· = g) W w' ∧ ∀ b o, A = some ⟨b, o, none⟩ → W.heap.size ≤ b) := fun W h => (take_aa g ⟨all, k1, 0⟩ bg W h).mono fun r w' ⟨A, n, h1, h2, _, h5, h3, h4⟩ => by rw [HT2.out] at h1 h2 h3; exact ⟨A, n, h1, h2, h3, h4, h5⟩
          have HSI : Hid (∀ A n c A' n' c' W, Ents W A n dd.L → Ents W A' n' dd.L → Calls Try.prog 19 #[.agg (dv A n c dd), .agg (dv A' n' c' dd)] W fun r w' => r = .returned (.bool true) ∧ Keeps (fun _ => False) W w') := fun A n c A' n' c' W h1 h2 => by have := same_i A A' n n' c c' dd dd W h1 h2; rwa [sameI_self] at this
          have HSA : Hid (∀ A n c A' n' c' W, Ents W A n ee.d.L → Ents W A' n' ee.d.L → Calls Try.prog 21 #[.agg (av A n c ee), .agg (av A' n' c' ee)] W fun r w' => r = .returned (.bool true) ∧ Keeps (fun _ => False) W w') := fun A n c A' n' c' W h1 h2 => by have := same_a A A' n n' c c' ee ee W h1 h2; rwa [sameA_self] at this
          unfold rd at HTK HTJ
          have HRW0 : Hid (Rw X wr.heap.size bg g ⟨all, kk, 0⟩ #[.int .u8 K, .int .u8 bi, .int .u16 B, .int .i16 le, .slice FA nn FC, .int .u8 S, .bool stop] w1 (wr.alloc (.cells #[.int .u8 K, .int .u8 bi, .int .u16 B, .int .i16 le, .slice FA nn FC, .int .u8 S, .bool stop] 26))) := by
            have k : Keeps (fun _ => False) wr (wr.alloc (.cells #[.int .u8 K, .int .u8 bi, .int .u16 B, .int .i16 le, .slice FA nn FC, .int .u8 S, .bool stop] 26)) := (Keeps.refl _ _).alloc _
            exact Lib.hid ⟨HH.out.2.1.keeps k (fun _ _ => id), HH.out.2.2.keeps k id, Blk.new _ _ _, HH.out.1.trans k, HGL.out⟩
          go_upto_region 16 with fail
          generalize wr.alloc (.cells #[.int .u8 K, .int .u8 bi, .int .u16 B, .int .i16 le, .slice FA nn FC, .int .u8 S, .bool stop] 26) = W9 at HRW0 ⊢
          obtain ⟨V, hV⟩ : ∃ V, wr.heap.size = V := ⟨_, rfl⟩
          rw [hV] at HRW0 ⊢
          clear hV q0 q1 q2 q3 q4 q5 q6 HH HKR
          refine wp_region_held_drew (S := fun w' => Keeps (· = g) W9 w') (by kernel_rfl) ((Keeps.refl _ _).drewN 1) (fun hHeld => ?_)
          have HRW := Lib.hid (HRW0.out.more (w' := W9.drew) ((Keeps.refl _ _).drewN 1))
          generalize W9.drew = w10 at hHeld HRW ⊢
          clear HRW0
          refine Ao.wpAnyH_as (S' := fun w' => Keeps (· = g) w10 w') (fun w' k => hHeld.trans k) _ _ _ _ ?_
          replace hHeld : Keeps (· = g) w10 w10 := Keeps.refl _ _
          refine wpAnyH_take (i := 0) (v := ?vz0) rfl (by kernel_rfl) (by kernel_rfl) (by kernel_rfl) (fun _ _ _ h => h) (Or.inl ⟨by rfl, ?yz0⟩) hHeld ?rz0
          case yz0 => (intro w' hSw; have hb := HRW.out.xs hSw; have i0 := hb.cell 0; simp only [List.getElem?_toArray, List.getElem?_cons_zero, List.getElem?_cons_succ] at i0; go_simp; try with_reducible rfl)
          simp only [Act.put, List.getElem_toArray, List.getElem_cons_succ, List.getElem_cons_zero, List.setIfInBounds_toArray, List.set_cons_zero, List.set_cons_succ]
          refine wpAnyH_take (i := 2) (v := ?vz2) rfl (by kernel_rfl) (by kernel_rfl) (by kernel_rfl) (fun _ _ _ h => h) (Or.inl ⟨by rfl, ?yz2⟩) hHeld ?rz2
          case yz2 => (intro w' hSw; have hb := HRW.out.vs hSw; have i0 := hb.cell 0; have i1 := hb.cell 1; have i2 := hb.cell 2; have i3 := hb.cell 3; have i4 := hb.cell 4; have i5 := hb.cell 5; have i6 := hb.cell 6; simp only [List.getElem?_toArray, List.getElem?_cons_zero, List.getElem?_cons_succ] at i0 i1 i2 i3 i4 i5 i6; go_simp; try with_reducible rfl)
          simp only [Act.put, List.getElem_toArray, List.getElem_cons_succ, List.getElem_cons_zero, List.setIfInBounds_toArray, List.set_cons_zero, List.set_cons_succ]
          refine wpAnyH_ready (rs := [1]) (by kernel_rfl) (by simp) ?_
          refine AllReadyH.cons rfl (fun K hK => ?_) AllReadyH.nil
          go_simp
          refine (HTK.out _ HRW.out.r).mono ?_
          rintro e w11 ⟨A4, n4, rfl, he, hr, hk, _⟩
          have HRW1 := Lib.hid (HRW.out.turn hr hk)
          have HE4 := Lib.hid he
          dsimp only
          refine hK.out _ _ (hHeld.trans hk) (fun hHeld => ?_)
          clear hK K
          try simp only [Act.put, List.getElem_toArray, List.getElem_cons_succ, List.getElem_cons_zero, List.setIfInBounds_toArray, List.set_cons_zero, List.set_cons_succ]
          refine Ao.wpAnyH_as (S' := fun w' => Keeps (· = g) w11 w') (fun w' k => hHeld.trans k) _ _ _ _ ?_
          replace hHeld : Keeps (· = g) w11 w11 := Keeps.refl _ _
          clear hr he hk
          clear HRW; have HRW := HRW1; clear HRW1
          refine wpAnyH_ready (rs := [3]) (by kernel_rfl) (by simp) ?_
          refine AllReadyH.cons rfl (fun K hK => ?_) AllReadyH.nil
          go_simp
          refine (HMI.out _).mono ?_
          rintro e w12 ⟨A5, n5, c5, rfl, he, _, hk⟩
          have HRW1 := Lib.hid (HRW.out.more hk)
          have HE5 := Lib.hid he
          have HE4b := Lib.hid (HE4.out.more hk)
          dsimp only
          refine hK.out _ _ (hHeld.trans hk.none_) (fun hHeld => ?_)
          clear hK K
          try simp only [Act.put, List.getElem_toArray, List.getElem_cons_succ, List.getElem_cons_zero, List.setIfInBounds_toArray, List.set_cons_zero, List.set_cons_succ]
          refine Ao.wpAnyH_as (S' := fun w' => Keeps (· = g) w12 w') (fun w' k => hHeld.trans k) _ _ _ _ ?_
          replace hHeld : Keeps (· = g) w12 w12 := Keeps.refl _ _
          clear he hk HE4
          clear HRW; have HRW := HRW1; clear HRW1
          refine wpAnyH_ready (rs := [4]) (by kernel_rfl) (by simp) ?_
          refine AllReadyH.cons rfl (fun K hK => ?_) AllReadyH.nil
          go_simp
          refine (HSI.out A4 n4 n4 A5 n5 c5 _ HE4b.out HE5.out).mono ?_
          rintro e w13 ⟨rfl, hk⟩
          have HRW1 := Lib.hid (HRW.out.more hk)
          dsimp only
          refine hK.out _ _ (hHeld.trans hk.none_) (fun hHeld => ?_)
          clear hK K
          try simp only [Act.put, List.getElem_toArray, List.getElem_cons_succ, List.getElem_cons_zero, List.setIfInBounds_toArray, List.set_cons_zero, List.set_cons_succ]
          refine Ao.wpAnyH_as (S' := fun w' => Keeps (· = g) w13 w') (fun w' k => hHeld.trans k) _ _ _ _ ?_
          replace hHeld : Keeps (· = g) w13 w13 := Keeps.refl _ _
          clear hk
          clear HRW; have HRW := HRW1; clear HRW1
          refine wpAnyH_take (i := 5) (v := ?vz5) rfl (by kernel_rfl) (by kernel_rfl) (by kernel_rfl) (fun _ _ _ h => h) (Or.inl ⟨by rfl, ?yz5⟩) hHeld ?rz5
          case yz5 => (intro w' hSw; go_simp; try with_reducible rfl)
          simp only [Act.put, List.getElem_toArray, List.getElem_cons_succ, List.getElem_cons_zero, List.setIfInBounds_toArray, List.set_cons_zero, List.set_cons_succ]
          refine wpAnyH_take (i := 6) (v := ?vz6) rfl (by kernel_rfl) (by kernel_rfl) (by kernel_rfl) (fun _ _ _ h => h) (Or.inl ⟨by rfl, ?yz6⟩) hHeld ?rz6
          case yz6 => (intro w' hSw; go_simp; try with_reducible rfl)
          simp only [Act.put, List.getElem_toArray, List.getElem_cons_succ, List.getElem_cons_zero, List.setIfInBounds_toArray, List.set_cons_zero, List.set_cons_succ]
          refine wpAnyH_take (i := 7) (v := ?vz7) rfl (by kernel_rfl) (by kernel_rfl) (by kernel_rfl) (fun _ _ _ h => h) (Or.inl ⟨by rfl, ?yz7⟩) hHeld ?rz7
          case yz7 => (intro w' hSw; have hb := HRW.out.xs hSw; have i0 := hb.cell 0; simp only [List.getElem?_toArray, List.getElem?_cons_zero, List.getElem?_cons_succ] at i0; go_simp; try with_reducible rfl)
          simp only [Act.put, List.getElem_toArray, List.getElem_cons_succ, List.getElem_cons_zero, List.setIfInBounds_toArray, List.set_cons_zero, List.set_cons_succ]
          refine wpAnyH_take (i := 9) (v := ?vz9) rfl (by kernel_rfl) (by kernel_rfl) (by kernel_rfl) (fun _ _ _ h => h) (Or.inl ⟨by rfl, ?yz9⟩) hHeld ?rz9
          case yz9 => (intro w' hSw; have hb := HRW.out.vs hSw; have i0 := hb.cell 0; have i1 := hb.cell 1; have i2 := hb.cell 2; have i3 := hb.cell 3; have i4 := hb.cell 4; have i5 := hb.cell 5; have i6 := hb.cell 6; simp only [List.getElem?_toArray, List.getElem?_cons_zero, List.getElem?_cons_succ] at i0 i1 i2 i3 i4 i5 i6; go_simp; try with_reducible rfl)
          simp only [Act.put, List.getElem_toArray, List.getElem_cons_succ, List.getElem_cons_zero, List.setIfInBounds_toArray, List.set_cons_zero, List.set_cons_succ]
          refine wpAnyH_ready (rs := [8]) (by kernel_rfl) (by simp) ?_
          refine AllReadyH.cons rfl (fun K hK => ?_) AllReadyH.nil
          go_simp
          refine (HTJ.out _ HRW.out.r).mono ?_
          rintro e w14 ⟨A7, n7, rfl, he, hr, hk, _⟩
          have HRW1 := Lib.hid (HRW.out.turn hr hk)
          have HE7 := Lib.hid he
          dsimp only
          refine hK.out _ _ (hHeld.trans hk) (fun hHeld => ?_)
          clear hK K
          try simp only [Act.put, List.getElem_toArray, List.getElem_cons_succ, List.getElem_cons_zero, List.setIfInBounds_toArray, List.set_cons_zero, List.set_cons_succ]
          refine Ao.wpAnyH_as (S' := fun w' => Keeps (· = g) w14 w') (fun w' k => hHeld.trans k) _ _ _ _ ?_
          replace hHeld : Keeps (· = g) w14 w14 := Keeps.refl _ _
          clear hr he hk
          clear HRW; have HRW := HRW1; clear HRW1
          refine wpAnyH_ready (rs := [10]) (by kernel_rfl) (by simp) ?_
          refine AllReadyH.cons rfl (fun K hK => ?_) AllReadyH.nil
          go_simp
          refine (HMA.out _).mono ?_
          rintro e w15 ⟨A8, n8, c8, rfl, he, _, hk⟩
          have HRW1 := Lib.hid (HRW.out.more hk)
          have HE8 := Lib.hid he
          have HE7b := Lib.hid (HE7.out.more hk)
          dsimp only
          refine hK.out _ _ (hHeld.trans hk.none_) (fun hHeld => ?_)
          clear hK K
          try simp only [Act.put, List.getElem_toArray, List.getElem_cons_succ, List.getElem_cons_zero, List.setIfInBounds_toArray, List.set_cons_zero, List.set_cons_succ]
          refine Ao.wpAnyH_as (S' := fun w' => Keeps (· = g) w15 w') (fun w' k => hHeld.trans k) _ _ _ _ ?_
          replace hHeld : Keeps (· = g) w15 w15 := Keeps.refl _ _
          clear he hk HE7
          clear HRW; have HRW := HRW1; clear HRW1
          refine wpAnyH_ready (rs := [11]) (by kernel_rfl) (by simp) ?_
          refine AllReadyH.cons rfl (fun K hK => ?_) AllReadyH.nil
          go_simp
          refine (HSA.out A7 n7 n7 A8 n8 c8 _ HE7b.out HE8.out).mono ?_
          rintro e w16 ⟨rfl, hk⟩
          have HRW1 := Lib.hid (HRW.out.more hk)
          dsimp only
          refine hK.out _ _ (hHeld.trans hk.none_) (fun hHeld => ?_)
          clear hK K
          try simp only [Act.put, List.getElem_toArray, List.getElem_cons_succ, List.getElem_cons_zero, List.setIfInBounds_toArray, List.set_cons_zero, List.set_cons_succ]
          refine Ao.wpAnyH_as (S' := fun w' => Keeps (· = g) w16 w') (fun w' k => hHeld.trans k) _ _ _ _ ?_
          replace hHeld : Keeps (· = g) w16 w16 := Keeps.refl _ _
          clear hk
          clear HRW; have HRW := HRW1; clear HRW1
          refine wpAnyH_take (i := 12) (v := ?vz12) rfl (by kernel_rfl) (by kernel_rfl) (by kernel_rfl) (fun _ _ _ h => h) (Or.inl ⟨by rfl, ?yz12⟩) hHeld ?rz12
          case yz12 => (intro w' hSw; go_simp; try with_reducible rfl)
          simp only [Act.put, List.getElem_toArray, List.getElem_cons_succ, List.getElem_cons_zero, List.setIfInBounds_toArray, List.set_cons_zero, List.set_cons_succ]
          refine wpAnyH_take (i := 13) (v := ?vz13) rfl (by kernel_rfl) (by kernel_rfl) (by kernel_rfl) (fun _ _ _ h => h) (Or.inl ⟨by rfl, ?yz13⟩) hHeld ?rz13
          case yz13 => (intro w' hSw; go_simp; try with_reducible rfl)
          simp only [Act.put, List.getElem_toArray, List.getElem_cons_succ, List.getElem_cons_zero, List.setIfInBounds_toArray, List.set_cons_zero, List.set_cons_succ]
          refine wpAnyH_done (by kernel_rfl) ?_ _
          clear hHeld
          go_wp2_with fail
          refine ⟨⟨_, _, _, ⟨k + 1, by go_num, by have := HLT.out; omega, Lib.hid ⟨HRW.out.k, ?_, HRW.out.x⟩⟩, rfl, rfl, rfl⟩, by simp [intOf]; have := HLT.out; omega⟩
          rw [HNX.out]
          exact HRW.out.r
        · obtain rfl : k = d := by omega
          have hge2 : ¬ ((k : Int) < (k : Int)) := by omega
          have z0 := HH.out.2.2.cell 0
          simp only [List.getElem?_toArray, List.getElem?_cons_zero, List.getElem?_cons_succ] at z0
          have hrd := HH.out.2.1
          rw [HALL.out, HM.out] at hrd
          have HRD := Lib.hid hrd
          have HF := Lib.hid (HK1.out.trans HH.out.1)
          clear hrd HH
          go_wp2_with (
            go_at_call 23
            refine (end_ g ⟨all, m, 0⟩ bg _ HRD.out).mono ?_
            rintro e w6 ⟨he, nn, hw⟩
            obtain rfl : e = .returned (.int .i64 0) := by rw [he, ← HM.out, fin_whole]
            have HF2 : Hid (Keeps (fun _ => False) w w6) := Lib.hid (by rw [hw]; exact HF.out.drewN _)
            clear he hw)
          go_ret
          exact ⟨rfl, HF2.out⟩
end Go.Proofs.Ytankkadfaokaoaa.Ds

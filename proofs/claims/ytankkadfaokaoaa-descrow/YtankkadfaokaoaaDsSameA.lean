/- Which ways of bytes are the same (desc's SameArrays): all of them. -/
import Derived.Test.YtankkadfaokaoaaDsSame
namespace Go.Proofs.Ytankkadfaokaoaa.Ds
open Go.RowKit Go.Proofs.Ytankkadfaokaoaa.Gen Go.Proofs.Ytankkadfaokaoaa.Wr Go.Proofs.Ytankkadfaokaoaa.It Go.Proofs.Ytankkadfaokaoaa.Ir Go.Proofs.Ytankkadfaokaoaa.Ib Go.Proofs.Ytankkadfaokaoaa.Tw Go.Proofs.Ytankkadfaokaoaa.Hr Go.Proofs.Ytankkadfaokaoaa.Hz Go.Proofs.Ytankkadfaokaoaa.Hn Go.Proofs.Ytankkadfaokaoaa.Hk Go.Proofs.Ytankkadfaokaoaa.Ln

set_option maxHeartbeats 8000000 in
set_option maxRecDepth 100000 in
theorem same_a (A A' : Option Addr) (n n' c c' : Nat) (a b : E) (w : World) (ha : Ents w A n a.d.L) (hb : Ents w A' n' b.d.L) :
    Calls Try.prog 21 #[.agg (av A n c a), .agg (av A' n' c' b)] w fun r w' => r = .returned (.bool (sameA a b)) ∧ Keeps (fun _ => False) w w' := by
  have HQ := Lib.hid (fun w h h' => same_i A A' n n' c c' a.d b.d w h h')
  have HS : Hid (sameA a b = (sameI a.d b.d && a.K == b.K && a.B == b.B && a.S == b.S)) := rfl
  obtain ⟨R, hR⟩ : ∃ R, sameA a b = R := ⟨_, rfl⟩
  rw [hR] at HS ⊢
  obtain ⟨q, hq⟩ : ∃ q, sameI a.d b.d = q := ⟨_, rfl⟩
  rw [hq] at HS HQ
  have HA := Lib.hid ha
  have HB := Lib.hid hb
  clear hq hR ha hb
  obtain ⟨⟨dK, dB, L, le, bi⟩, K, B, S⟩ := a
  obtain ⟨⟨dK', dB', L', le', bi'⟩, K', B', S'⟩ := b
  unfold av
  unfold dv at HQ
  simp only at HA HB HQ HS ⊢
  have HK : Hid (Keeps (fun _ => False) w ((w.alloc (.cells #[.int .u8 dK, .int .i64 dB, .slice A n c, .int .i64 le, .int .i64 bi, .int .u8 K, .int .i64 B, .int .u8 S] 34)).alloc (.cells #[.int .u8 dK', .int .i64 dB', .slice A' n' c', .int .i64 le', .int .i64 bi', .int .u8 K', .int .i64 B', .int .u8 S'] 34))) := ((Keeps.refl _ _).alloc _).alloc _
  have HX : Hid (Blk ((w.alloc (.cells #[.int .u8 dK, .int .i64 dB, .slice A n c, .int .i64 le, .int .i64 bi, .int .u8 K, .int .i64 B, .int .u8 S] 34)).alloc (.cells #[.int .u8 dK', .int .i64 dB', .slice A' n' c', .int .i64 le', .int .i64 bi', .int .u8 K', .int .i64 B', .int .u8 S'] 34)) w.heap.size 34 #[.int .u8 dK, .int .i64 dB, .slice A n c, .int .i64 le, .int .i64 bi, .int .u8 K, .int .i64 B, .int .u8 S]) := Lib.hid ((Blk.new w 34 #[.int .u8 dK, .int .i64 dB, .slice A n c, .int .i64 le, .int .i64 bi, .int .u8 K, .int .i64 B, .int .u8 S]).alloc _)
  have HY : Hid (Blk ((w.alloc (.cells #[.int .u8 dK, .int .i64 dB, .slice A n c, .int .i64 le, .int .i64 bi, .int .u8 K, .int .i64 B, .int .u8 S] 34)).alloc (.cells #[.int .u8 dK', .int .i64 dB', .slice A' n' c', .int .i64 le', .int .i64 bi', .int .u8 K', .int .i64 B', .int .u8 S'] 34)) (w.heap.size + 1) 34 #[.int .u8 dK', .int .i64 dB', .slice A' n' c', .int .i64 le', .int .i64 bi', .int .u8 K', .int .i64 B', .int .u8 S']) := by
    have hbb := Blk.new (w.alloc (.cells #[.int .u8 dK, .int .i64 dB, .slice A n c, .int .i64 le, .int .i64 bi, .int .u8 K, .int .i64 B, .int .u8 S] 34)) 34 #[.int .u8 dK', .int .i64 dB', .slice A' n' c', .int .i64 le', .int .i64 bi', .int .u8 K', .int .i64 B', .int .u8 S']
    have hsz : (w.alloc (.cells #[.int .u8 dK, .int .i64 dB, .slice A n c, .int .i64 le, .int .i64 bi, .int .u8 K, .int .i64 B, .int .u8 S] 34)).heap.size = w.heap.size + 1 := by simp
    rw [hsz] at hbb
    exact hbb
  have hne : w.heap.size ≠ w.heap.size + 1 := by omega
  cases q with
  | false =>
    have HE : Hid (R = false) := by show _ = _; rw [HS.out]; simp
    clear HS
    go_enter Try.func21, Try.ntmps21
    go_wp2_with (
      go_at_call 19
      refine (HQ.out _ (HA.out.more HK.out) (HB.out.more HK.out)).mono ?_
      rintro e w1 ⟨rfl, hk1⟩
      have HK1 := Lib.hid (HK.out.trans hk1)
      have hx5 : w1.cell? ⟨w.heap.size, 5, none⟩ = some (.int .u8 K) := (HX.out.keeps hk1 id).cell 5
      have hy5 : w1.cell? ⟨w.heap.size + 1, 5, none⟩ = some (.int .u8 K') := (HY.out.keeps hk1 id).cell 5
      have hx6 : w1.cell? ⟨w.heap.size, 6, none⟩ = some (.int .i64 B) := (HX.out.keeps hk1 id).cell 6
      have hy6 : w1.cell? ⟨w.heap.size + 1, 6, none⟩ = some (.int .i64 B') := (HY.out.keeps hk1 id).cell 6
      have hx7 : w1.cell? ⟨w.heap.size, 7, none⟩ = some (.int .u8 S) := (HX.out.keeps hk1 id).cell 7
      have hy7 : w1.cell? ⟨w.heap.size + 1, 7, none⟩ = some (.int .u8 S') := (HY.out.keeps hk1 id).cell 7
      clear hk1)
    go_ret
    exact ⟨by rw [HE.out]; rfl, HK1.out⟩
  | true =>
    by_cases h1 : K = K'
    · have d1 : (K == K') = true := by simpa using h1
      by_cases h2 : B = B'
      · have d2 : (B == B') = true := by simpa using h2
        have HE : Hid (R = (S == S')) := by show _ = _; rw [HS.out, d1, d2]; simp
        clear h1 h2
        clear HS
        go_enter Try.func21, Try.ntmps21
        go_wp2_with (
          go_at_call 19
          refine (HQ.out _ (HA.out.more HK.out) (HB.out.more HK.out)).mono ?_
          rintro e w1 ⟨rfl, hk1⟩
          have HK1 := Lib.hid (HK.out.trans hk1)
          have hx5 : w1.cell? ⟨w.heap.size, 5, none⟩ = some (.int .u8 K) := (HX.out.keeps hk1 id).cell 5
          have hy5 : w1.cell? ⟨w.heap.size + 1, 5, none⟩ = some (.int .u8 K') := (HY.out.keeps hk1 id).cell 5
          have hx6 : w1.cell? ⟨w.heap.size, 6, none⟩ = some (.int .i64 B) := (HX.out.keeps hk1 id).cell 6
          have hy6 : w1.cell? ⟨w.heap.size + 1, 6, none⟩ = some (.int .i64 B') := (HY.out.keeps hk1 id).cell 6
          have hx7 : w1.cell? ⟨w.heap.size, 7, none⟩ = some (.int .u8 S) := (HX.out.keeps hk1 id).cell 7
          have hy7 : w1.cell? ⟨w.heap.size + 1, 7, none⟩ = some (.int .u8 S') := (HY.out.keeps hk1 id).cell 7
          clear hk1)
        go_ret
        exact ⟨by rw [HE.out]; rfl, HK1.out⟩
      · have d2 : (B == B') = false := by simpa using h2
        have HE : Hid (R = false) := by show _ = _; rw [HS.out, d1, d2]; simp
        clear h1 h2
        clear HS
        go_enter Try.func21, Try.ntmps21
        go_wp2_with (
          go_at_call 19
          refine (HQ.out _ (HA.out.more HK.out) (HB.out.more HK.out)).mono ?_
          rintro e w1 ⟨rfl, hk1⟩
          have HK1 := Lib.hid (HK.out.trans hk1)
          have hx5 : w1.cell? ⟨w.heap.size, 5, none⟩ = some (.int .u8 K) := (HX.out.keeps hk1 id).cell 5
          have hy5 : w1.cell? ⟨w.heap.size + 1, 5, none⟩ = some (.int .u8 K') := (HY.out.keeps hk1 id).cell 5
          have hx6 : w1.cell? ⟨w.heap.size, 6, none⟩ = some (.int .i64 B) := (HX.out.keeps hk1 id).cell 6
          have hy6 : w1.cell? ⟨w.heap.size + 1, 6, none⟩ = some (.int .i64 B') := (HY.out.keeps hk1 id).cell 6
          have hx7 : w1.cell? ⟨w.heap.size, 7, none⟩ = some (.int .u8 S) := (HX.out.keeps hk1 id).cell 7
          have hy7 : w1.cell? ⟨w.heap.size + 1, 7, none⟩ = some (.int .u8 S') := (HY.out.keeps hk1 id).cell 7
          clear hk1)
        go_ret
        exact ⟨by rw [HE.out]; rfl, HK1.out⟩
    · have d1 : (K == K') = false := by simpa using h1
      have HE : Hid (R = false) := by show _ = _; rw [HS.out, d1]; simp
      clear h1
      clear HS
      go_enter Try.func21, Try.ntmps21
      go_wp2_with (
        go_at_call 19
        refine (HQ.out _ (HA.out.more HK.out) (HB.out.more HK.out)).mono ?_
        rintro e w1 ⟨rfl, hk1⟩
        have HK1 := Lib.hid (HK.out.trans hk1)
        have hx5 : w1.cell? ⟨w.heap.size, 5, none⟩ = some (.int .u8 K) := (HX.out.keeps hk1 id).cell 5
        have hy5 : w1.cell? ⟨w.heap.size + 1, 5, none⟩ = some (.int .u8 K') := (HY.out.keeps hk1 id).cell 5
        have hx6 : w1.cell? ⟨w.heap.size, 6, none⟩ = some (.int .i64 B) := (HX.out.keeps hk1 id).cell 6
        have hy6 : w1.cell? ⟨w.heap.size + 1, 6, none⟩ = some (.int .i64 B') := (HY.out.keeps hk1 id).cell 6
        have hx7 : w1.cell? ⟨w.heap.size, 7, none⟩ = some (.int .u8 S) := (HX.out.keeps hk1 id).cell 7
        have hy7 : w1.cell? ⟨w.heap.size + 1, 7, none⟩ = some (.int .u8 S') := (HY.out.keeps hk1 id).cell 7
        clear hk1)
      go_ret
      exact ⟨by rw [HE.out]; rfl, HK1.out⟩
end Go.Proofs.Ytankkadfaokaoaa.Ds

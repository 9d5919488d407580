/- The document's own answer for a byte's parts that go into a state (Push of the package of answers), of the byte 1. -/
import Derived.Test.YtafdilcedggpiaaRnTk
import Derived.Test.YtafdilcedggpiaaRnTurn
import Derived.Test.YtafdilcedggpiaaFrqEq
namespace Go.Proofs.Ytafdilcedggpiaa.Rs
open Go.RowKit Go.Proofs.Ytafdilcedggpiaa.Gen Go.Proofs.Ytafdilcedggpiaa.Wr Go.Proofs.Ytafdilcedggpiaa.It Go.Proofs.Ytafdilcedggpiaa.Ir Go.Proofs.Ytafdilcedggpiaa.Ib Go.Proofs.Ytafdilcedggpiaa.Fq Go.Proofs.Ytafdilcedggpiaa.Fb Go.Proofs.Ytafdilcedggpiaa.Rp

/-- Between two rounds. -/
structure Phr (p s q f s1 m : Nat) (G D : List Int) (A : Option Addr) (c : Nat) (w wr : World) : Prop where
  out : G = D ++ outs q f s1
  kpt : kept p s = lft q f s1
  room : (f = 2 ∧ s1 < 2147483648) ∨ (f = 1 ∧ s1 < 8388608) ∨ (f = 0 ∧ s1 < 32768)
  len : D.length = m
  most : m + f ≤ 2
  row : wr.ownsRow w.heap.size 5 1 (.slice A m c) m (bv D)
  keeps : Keeps (fun _ => False) w wr

set_option maxHeartbeats 4000000 in
set_option maxRecDepth 100000 in
theorem rpush (l : List Int) (v : Array Value) (st p s S : Nat) (G : List Int) (w : World) (hv : vs l = v) (hl : l.length = 256) (h0 : l.getD 0 0 = (st : Int)) (h1 : l.getD 1 0 = (p : Int)) (hs : In s) (hp : 1 ≤ p) (hst : st + p ≤ 4096) (hS : push st p s = S) (hG : gone p s = G) :
    Calls Try.prog 11 #[.int .u64 (s : Int), .agg v, .int .u8 1] w fun r w' => ∃ A c m, r = .returned (.tuple #[.int .u64 (S : Int), .slice A m c]) ∧ G.length = m ∧ w'.ownsRow w.heap.size 5 1 (.slice A m c) m (bv G) ∧ Keeps (fun _ => False) w w' := by
  obtain ⟨i0, hi0, hz0, hz1, hz2⟩ := info_parts u8_info
  obtain ⟨q, hq⟩ : ∃ q, p * 524288 = q := ⟨_, rfl⟩
  have HKI := Lib.hid (kept_in hs hp (by omega))
  have HPI := Lib.hid (push_in hs hp hst)
  have HS := Lib.hid hS
  have HB0 := Lib.hid (Blk.new w 36 v)
  have HK0 : Hid (Keeps (fun _ => False) w (w.alloc (.cells v 36))) := (Keeps.refl _ _).alloc _
  have HV0 : Hid (v[0]? = some (.int .i64 (st : Int))) := by show _ = _; rw [← hv, vs_get (by omega), h0]
  have HV1 : Hid (v[1]? = some (.int .i64 (p : Int))) := by show _ = _; rw [← hv, vs_get (by omega), h1]
  have HI0 : Hid (Phr p s q 2 s 0 G [] none 0 w (w.alloc (.cells v 36))) := ⟨by rw [← hG, ← hq]; rfl, by rw [← hq]; rfl, .inl ⟨rfl, hs.2⟩, rfl, by omega, World.ownsRow_nil _ _ _ _, HK0.out⟩
  have hwp : IntKind.u64.wrap (p : Int) = (p : Int) := IntWalk.u64_in _ (by omega)
  have hws : IntKind.u64.wrap (st : Int) = (st : Int) := IntWalk.u64_in _ (by omega)
  have hwq : IntKind.u64.wrap ((p : Int) * 524288) = (q : Int) := by rw [IntWalk.u64_in _ (by omega)]; omega
  have HQ1 : Hid (524288 ≤ q) := by show 524288 ≤ q; omega
  have HP := Lib.hid hp
  have HST := Lib.hid hst
  clear hs hp hst hS hG hq hv hl h0 h1
  go_enter Try.func11, Try.ntmps11
  go_upto_region 1 with fail
  generalize hW : w.alloc (.cells v 36) = W at HB0 HK0 HI0 ⊢
  obtain ⟨TT, hTT⟩ : ∃ TT, w.heap.size = TT := ⟨_, rfl⟩
  rw [hTT] at HB0 ⊢
  have hc0 : W.cell? ⟨TT, 0, none⟩ = some (.int .i64 (st : Int)) := by rw [HB0.out.cell]; exact HV0.out
  have hc1 : W.cell? ⟨TT, 1, none⟩ = some (.int .i64 (p : Int)) := by rw [HB0.out.cell]; exact HV1.out
  clear hW hTT HB0
  go_wp2_with fail
  go_loopw [10, 11] (fun sv iv' wr => wr = W ∧ ((iv' = .int .i64 0 ∧ sv = .int .u64 0) ∨ (iv' = .int .i64 1 ∧ sv = .int .u64 (st : Int)))) (fun _ iv' _ => 1 - (intOf iv').toNat)
  case atStart => exact ⟨rfl, .inl ⟨rfl, rfl⟩⟩
  case round =>
    obtain ⟨hwr, ⟨rfl, rfl⟩ | ⟨rfl, rfl⟩⟩ := hrel
    · subst hwr
      go_wp2_with fail
      exact ⟨by simp, by simp [intOf]⟩
    · subst hwr
      go_wp2_with fail
      go_loopw [0, 8] (fun sv ov wr => ∃ (f s1 m : Nat) (A : Option Addr) (c : Nat) (D : List Int), sv = .int .u64 (s1 : Int) ∧ ov = .slice A m c ∧ Hid (Phr p s q f s1 m G D A c w wr)) (fun sv _ _ => (intOf sv).toNat)
      case atStart => exact ⟨2, s, 0, none, 0, [], rfl, rfl, HI0⟩
      case round =>
        clear HI0 hc0 hc1
        obtain ⟨f, s1, m, A, c, D, rfl, rfl, HH⟩ := hrel
        by_cases hqs : q ≤ s1
        · obtain ⟨f', rfl⟩ : ∃ f', f = f' + 1 := ⟨f - 1, by have := HH.out.room; have := HQ1.out; omega⟩
          obtain ⟨x, hx⟩ : ∃ x : Nat, s1 % 256 = x := ⟨_, rfl⟩
          obtain ⟨y, hy⟩ : ∃ y : Nat, s1 / 256 = y := ⟨_, rfl⟩
          have hmx : (s1 : Int) % 256 = (x : Int) := by omega
          have hwx : IntKind.u8.wrap (x : Int) = (x : Int) := IntWalk.u8_in _ (by omega)
          have hwx2 : IntKind.u64.wrap (x : Int) = (x : Int) := IntWalk.u64_in _ (by omega)
          have hdv : (s1 : Int) / 256 = (y : Int) := by omega
          have hwy : IntKind.u64.wrap (y : Int) = (y : Int) := IntWalk.u64_in _ (by have := HH.out.room; omega)
          have hle : (q : Int) ≤ (s1 : Int) := by omega
          have hnews : ∀ j u, [Value.int .u8 (x : Int)][j]? = some u → (wr.alloc (.cells #[.int .u8 (x : Int)] 5)).cell? ((⟨wr.heap.size, 0, none⟩ : Addr).add j) = some u := by
            intro j u hu
            rw [add_none, (Blk.new wr 5 #[.int .u8 (x : Int)]).cell]
            simpa using hu
          have HNX : Hid (G = (D ++ [(x : Int)]) ++ outs q f' y ∧ kept p s = lft q f' y) := by
            have h8 := HH.out.out
            have h9 := HH.out.kpt
            rw [outs, if_pos hqs, hx, hy] at h8
            rw [lft, if_pos hqs, hy] at h9
            exact ⟨by rw [h8]; simp, h9⟩
          have HYY := Lib.hid hy
          have HQS := Lib.hid hqs
          clear hx hy hqs
          go_wp2_with (
            at_builtin
            refine wpList_append_own_at _ rfl (.tmp 32) (.tmp 36) _ rfl w.heap.size 5 i0 _ 1 1 Try.underlying22 hi0 hz0 hz1 hz2 rfl (by omega) (.slice A m c) m (bv D) rfl
              (HH.out.row.alloc _) ⟨wr.heap.size, 0, none⟩ 1 1 [.int .u8 (x : Int)] rfl rfl hnews (by simp [Value.oneCell']) (by have := HH.out.most; simp only [maxLen]; omega) (by have := HH.out.most; omega) (by have := HH.out.keeps.size; simp; omega) ?_
            intro v2 w1 hown1 hg1 hnil1 hat1
            have HO1 := Lib.hid hown1
            have HK1 : Hid (Keeps (fun _ => False) w w1) := (HH.out.keeps.alloc _).grown hg1 (fun k hk => .inr (HH.out.row.lt k hk).1)
            obtain ⟨A1, c1, rfl, _⟩ := own_form hown1
            clear hown1 hg1 hnil1 hat1)
          refine ⟨⟨f', y, m + 1, A1, c1, D ++ [(x : Int)], rfl, rfl, Lib.hid ⟨HNX.out.1, HNX.out.2, ?_, ?_, ?_, ?_, HK1.out⟩⟩, ?_⟩
          · have := HH.out.room; have := HYY.out; omega
          · rw [List.length_append, HH.out.len]; rfl
          · have := HH.out.most; omega
          · have e : bv (D ++ [(x : Int)]) = bv D ++ [.int .u8 (x : Int)] := by simp [bv]
            rw [e]
            exact HO1.out
          · have := HYY.out; have := HQS.out; have := HQ1.out; simp [intOf]; omega
        · have hlt : (s1 : Int) < (q : Int) := by omega
          have hkp : kept p s = s1 := by rw [HH.out.kpt, left_now hqs]
          have HGD : Hid (G = D) := by show G = D; rw [HH.out.out, outs_now hqs, List.append_nil]
          obtain ⟨a, ha⟩ : ∃ a : Nat, s1 / p = a := ⟨_, rfl⟩
          obtain ⟨b, hb⟩ : ∃ b : Nat, s1 % p = b := ⟨_, rfl⟩
          have HE : Hid (S = a * 4096 + b + st) := by show S = _; rw [← HS.out, push, hkp, ha, hb]
          have hpi := HPI.out
          rw [HS.out] at hpi
          have HSB : Hid (S < 2147483648) := hpi.1.2
          have hpz : ¬ ((p : Int) = 0) := by have := HP.out; omega
          have hdiv : (s1 : Int) / (p : Int) = (a : Int) := by rw [← ha]; simp
          have hmod : (s1 : Int) % (p : Int) = (b : Int) := by rw [← hb]; simp
          have htd : Int.tdiv (s1 : Int) (p : Int) = (a : Int) := by rw [Int.tdiv_eq_ediv_of_nonneg (by omega)]; exact hdiv
          have htm : Int.tmod (s1 : Int) (p : Int) = (b : Int) := by rw [Int.tmod_eq_emod_of_nonneg (by omega)]; exact hmod
          clear hqs hkp ha hb hpi
          go_upto_region 11 with fail
          go_quiet (fail)
          go_wp2
          go_ret2
          have e1 := HE.out
          have e2 := HSB.out
          have hv : IntKind.u64.wrap (IntKind.u64.wrap (IntKind.u64.wrap (IntKind.u64.wrap (a : Int) * 4096) + (b : Int)) + (st : Int)) = (S : Int) := by
            rw [IntWalk.u64_in (a : Int) (by omega), IntWalk.u64_in ((a : Int) * 4096) (by omega), IntWalk.u64_in ((a : Int) * 4096 + (b : Int)) (by omega), IntWalk.u64_in ((a : Int) * 4096 + (b : Int) + (st : Int)) (by omega)]
            omega
          refine ⟨A, c, m, ?_, by rw [HGD.out]; exact HH.out.len, by rw [HGD.out]; exact own_keeps HH.out.row ((Keeps.refl (fun _ => False) _).drewN _) (fun _ _ => id), HH.out.keeps.drewN _⟩
          rw [← hv]
          rfl
end Go.Proofs.Ytafdilcedggpiaa.Rs

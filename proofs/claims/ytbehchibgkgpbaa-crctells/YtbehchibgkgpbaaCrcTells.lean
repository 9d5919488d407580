/- The statement CrcTells (P4.1, P6, without the document's answer: bits that differ within 32 neighbours, the sum too: it isn't right any more) holds for every input: the Go function answers true, and its arguments read as before. No conditions beyond the row's own. -/
import Derived.Test.YtbehchibgkgpbaaRows
import Derived.WalkKit
import Derived.ProofKit
import Derived.OpenShut
import Derived.ShutString
import Derived.ChangeOld
import Derived.Below
import Derived.Test.YtbehchibgkgpbaaAwake4
import Derived.Test.YtbehchibgkgpbaaCrcFlip
import Derived.Outline
import Derived.RegionTactic
import Derived.ChangeAlike
namespace Go.Proofs.Ytbehchibgkgpbaa.crcTells
open Go.ChangeShapes Go.WideShapes Go.ChangeAt Go.RowKit
open Go.ChangeMaps (open_string shut_string)
open Go.Proofs.Ytbehchibgkgpbaa.Gen Go.Proofs.Ytbehchibgkgpbaa.Cp Go.Proofs.Ytbehchibgkgpbaa.Ct Go.Proofs.Ytbehchibgkgpbaa.Cs Go.Proofs.Ytbehchibgkgpbaa.Cu Go.Proofs.Ytbehchibgkgpbaa.Cr Go.Proofs.Ytbehchibgkgpbaa.Cf
set_option linter.unusedVariables false

theorem own : ownKnob Try.prog.godebug = none := by kernel_rfl
theorem laidOut : laidOutB Try.prog = true := by kernel_rfl

/-- WHAT THE WALK IS TOLD OF A SLICE OF INTEGERS THAT CAME IN: it is nil; or it leads to a row of 'cap' cells, the numbers 'zs' (the first 'len' are its elements, the rest its spare room), each fitting its kind. -/
def IsRow (k : IntKind) (w : World) (a : Option Addr) (len cap : Nat) (zs : List Int) : Prop :=
  (a = none ∧ len = 0 ∧ cap = 0 ∧ zs = []) ∨
  ∃ x, a = some x ∧ len ≤ cap ∧ cap ≤ maxLen ∧ zs.length = cap ∧ (∀ i, i < zs.length → w.cell? (x.add i) = some (.int k (zs.getD i 0))) ∧ ∀ n ∈ zs, (Lit.int k n).wf = true

theorem zero_eq (n : Nat) : decide (n = 0) = ((n : Int) == 0) := by
  by_cases h : n = 0
  · subst h
    rfl
  · have h2 : ¬ ((n : Int) = 0) := by omega
    simp [h]
theorem bitN_div (c k : Nat) : bitN c k = c / 2 ^ k % 2 := by
  unfold bitN
  rw [Nat.testBit_eq_decide_div_mod_eq]
  rcases Nat.mod_two_eq_zero_or_one (c / 2 ^ k) with h | h <;> simp [h]
theorem one_shl {r : Nat} (h : r < 8) : (2 : Int) ^ r % 256 = ((2 ^ r : Nat) : Int) := by
  have hp : 2 ^ r ≤ 2 ^ 7 := Nat.pow_le_pow_right (by decide) (by omega)
  rw [show (2 : Int) ^ r = ((2 ^ r : Nat) : Int) by simp]
  generalize 2 ^ r = m at *
  omega
set_option maxHeartbeats 1000000 in
set_option maxRecDepth 100000 in
theorem walk (a0 : Option Addr) (len0 cap0 : Nat) (z0 : List Int) (a1 : Int) (a2 : Int) (w : World) (w0 : IsRow .u8 w a0 len0 cap0 z0) (w1 : (Lit.int .u16 a1).wf = true) (w2 : (Lit.int .u32 a2).wf = true) :
    Calls Try.prog 4 #[.slice a0 len0 cap0, .int .u16 a1, .int .u32 a2] w fun e w' => e = .returned (.bool true) ∧ Below w.heap.size w w' := by
  have hnil : a0 = none → cap0 = 0 := by
    intro h
    rcases w0 with ⟨_, _, h1, _⟩ | ⟨x, h1, _⟩
    · exact h1
    · rw [h1] at h; cases h
  obtain ⟨hxl, hlc, hlies, hby⟩ := row_lies w0
  have hb1 := bounds_u16 w1
  have hb2 := bounds_u32 w2
  obtain ⟨at_, rfl⟩ := Int.eq_ofNat_of_zero_le hb1.1
  obtain ⟨bu, rfl⟩ := Int.eq_ofNat_of_zero_le hb2.1
  have hbu : bu < 4294967296 := by omega
  by_cases hl : len0 ≤ 300
  · have hd0 : decide ((300 : Int) < (len0 : Int)) = false := by simp; omega
    obtain ⟨xs, hxs⟩ : ∃ xs, xs = z0.take len0 := ⟨_, rfl⟩
    rw [← hxs] at hxl hlies hby
    have HX := Lib.hid hxl
    have HL := Lib.hid hlies
    have HBY : Hid (Byt xs) := hby
    have HNIL := Lib.hid hnil
    clear hxs hxl hlies hby hnil w0 w1 w2 hb2
    obtain ⟨p, hp⟩ : ∃ p : Nat, p = at_ % (8 * (len0 + 4) - 31) := ⟨_, rfl⟩
    have hpl : p + 32 ≤ 8 * (len0 + 4) := by
      have := Nat.mod_lt at_ (show 0 < 8 * (len0 + 4) - 31 by omega)
      omega
    have HP := Lib.hid hp
    clear hp
    go_enter Try.func4, Try.ntmps4
    go_wp2_with fail
    refine (Aw.awake _).mono ?_
    rintro e w1 ⟨rfl, hb1⟩
    have HB1 := Lib.hid hb1
    have HL1 := Lib.hid (HL.out.below hb1)
    clear hb1
    go_wp2_with fail
    refine (new_ w1).mono ?_
    rintro e w2 ⟨rfl, hb2, hk2⟩
    have HT2 := Lib.hid hb2
    have HK2 := Lib.hid hk2
    have HL2 := Lib.hid (HL1.out.keeps hk2 (fun _ _ _ => id))
    clear hb2 hk2
    go_wp2_with fail
    refine (put w1.heap.size len0 cap0 a0 xs w2 HT2.out HL2.out HBY.out HX.out (by omega) HNIL.out).mono ?_
    rintro e w3 ⟨A3, c3, rfl, hv3, hk3⟩
    obtain ⟨l0, hl0⟩ : ∃ l0, l0 = nat (xs ++ wordAt (sumOf (nat xs)) 4) := ⟨_, rfl⟩
    have hby0 : Byt (xs ++ wordAt (sumOf (nat xs)) 4) := by
      intro x hx
      rcases List.mem_append.1 hx with h | h
      · exact HBY.out x h
      · exact wordAt_byt _ _ x h
    have hln : (xs ++ wordAt (sumOf (nat xs)) 4).length = len0 + 4 := by rw [List.length_append, wordAt_len, HX.out]
    have HF0 : Hid (feed Cp.start (bitsOf l0) = rest) := by
      show feed Cp.start (bitsOf l0) = rest
      rw [hl0]
      exact (Rt_iff (by omega) hby0).1 put_Rt
    have HLN : Hid (l0.length = len0 + 4) := by
      show l0.length = len0 + 4
      rw [hl0, nat_len, hln]
    have HB0 : Hid (∀ x ∈ l0, x < 256) := by
      show ∀ x ∈ l0, x < 256
      rw [hl0]
      exact nat_byte hby0
    rw [← iv_nat hby0, ← hl0] at hv3
    obtain ⟨g3, rfl⟩ : ∃ g3, A3 = some ⟨g3, 0, none⟩ := by
      rcases hv3.2 with ⟨_, h⟩ | ⟨g, cap, cur, hv, _⟩
      · omega
      · injection hv with hv
        exact ⟨g, hv⟩
    have HV3 := Lib.hid hv3
    have HK3 := Lib.hid (HK2.out.trans hk3)
    have HT3 := Lib.hid (HT2.out.keeps hk3 (fun h => h))
    have HLT : Hid (w1.heap.size < w2.heap.size) := HT2.out.lt
    have hmul : IntKind.i64.wrap (8 * ((len0 : Int) + 4)) = 8 * ((len0 : Int) + 4) := IntWalk.i64_in _ (by omega)
    clear hv3 hk3 hl0 hby0 hln HL1 HL2 HT2 HK2
    go_wp2
    have hpi : (at_ : Int) % (8 * ((len0 : Int) + 4) - 31) = (p : Int) := by
      obtain ⟨M, hM⟩ : ∃ M, 8 * (len0 + 4) = M + 31 := ⟨8 * (len0 + 4) - 31, by omega⟩
      rw [HP.out, show 8 * (len0 + 4) - 31 = M by omega, show 8 * ((len0 : Int) + 4) - 31 = (M : Int) by omega]
      simp
    rw [hpi]
    clear hpi hmul HP
    go_loopw [27] (fun i wr => ∃ d : Nat, d ≤ 32 ∧ i = .int .i64 (d : Int) ∧ wr.ownsRow w2.heap.size 5 1 (.slice (some ⟨g3, 0, none⟩) (len0 + 4) c3) (len0 + 4) (bv (iv (flips l0 p bu d))) ∧ Keeps (fun _ => False) w1 wr ∧ Blk wr w1.heap.size 37 (tabAt 256)) (fun i _ => 32 - (intOf i).toNat)
    case atStart => exact ⟨0, by omega, rfl, HV3.out, HK3.out, HT3.out⟩
    case round =>
      obtain ⟨d, hd, rfl, hv, hk, ht⟩ := hrel
      have HV := Lib.hid hv
      have HK := Lib.hid hk
      have HT := Lib.hid ht
      clear hv hk ht HV3 HK3 HT3
      by_cases hlt : d < 32
      · obtain ⟨N, hN⟩ : ∃ N, N = bu / 2 ^ d := ⟨_, rfl⟩
        have hNi : (bu : Int) / 2 ^ d = (N : Int) := by rw [hN]; simp
        have hNl : N < 4294967296 := by rw [hN]; exact Nat.lt_of_le_of_lt (Nat.div_le_self _ _) hbu
        have hand := and1 hNl
        have HBN : Hid (bitN bu d = N % 2) := by
          show bitN bu d = N % 2
          rw [hN]
          exact bitN_div bu d
        clear hN
        rcases Nat.mod_two_eq_zero_or_one N with hm | hm
        · rw [hm] at hand HBN
          have HFL : Hid (flips l0 p bu (d + 1) = flips l0 p bu d) := by
            show (if bitN bu d = 1 then Cp.flip (flips l0 p bu d) (p + d) else flips l0 p bu d) = _
            rw [HBN.out]
            rfl
          go_wp2
          exact ⟨⟨d + 1, by omega, by go_num, by rw [HFL.out]; exact HV.out, HK.out, HT.out⟩, by simp [intOf]; omega⟩
        · rw [hm] at hand HBN
          obtain ⟨l, hl⟩ : ∃ l, l = flips l0 p bu d := ⟨_, rfl⟩
          have hll : l.length = len0 + 4 := by rw [hl, flips_len, HLN.out]
          have hlb : ∀ x ∈ l, x < 256 := by rw [hl]; exact flips_byte HB0.out p bu d
          have HFL : Hid (flips l0 p bu (d + 1) = Cp.flip l (p + d)) := by
            show (if bitN bu d = 1 then Cp.flip (flips l0 p bu d) (p + d) else flips l0 p bu d) = _
            rw [HBN.out, if_pos rfl, hl]
          rw [← hl] at HV
          obtain ⟨j, hj⟩ : ∃ j, j = (p + d) / 8 := ⟨_, rfl⟩
          obtain ⟨r, hr⟩ : ∃ r, r = (p + d) % 8 := ⟨_, rfl⟩
          have hjl : j < len0 + 4 := by omega
          have hrl : r < 8 := by omega
          have hji : ((p : Int) + (d : Int)) / 8 = (j : Int) := by omega
          have hri : ((p : Int) + (d : Int)) % 8 = (r : Int) := by omega
          obtain ⟨y, hy⟩ : ∃ y, y = l.getD j 0 := ⟨_, rfl⟩
          have hyl : y < 256 := by
            rw [hy, List.getD_eq_getElem?_getD, List.getElem?_eq_getElem (by omega)]
            exact hlb _ (List.getElem_mem _)
          obtain ⟨hc, hf, hg1, hg2⟩ := own_cell HV.out hjl
          rw [iv_get, ← hy] at hc
          have hpr : (2 : Nat) ^ r < 256 := Nat.pow_lt_pow_right (a := 2) (n := 8) (by decide) hrl
          have HXO : Hid (bits .xor .u8 (y : Int) (2 ^ r) = ((y ^^^ 2 ^ r : Nat) : Int)) := by
            have h := u8_xor_nat y (2 ^ r) hyl hpr
            rw [show ((2 ^ r : Nat) : Int) = (2 : Int) ^ r by simp] at h
            exact h
          have hsl := one_shl hrl
          have HS := Lib.hid (own_set HV.out hjl ((y ^^^ 2 ^ r : Nat) : Int))
          have HKS := Lib.hid (HK.out.setCell (p := ⟨g3, j, none⟩) (.inr (show w1.heap.size ≤ g3 by have := HLT.out; omega)) (.int .u8 ((y ^^^ 2 ^ r : Nat) : Int)))
          have HTS := Lib.hid (HT.out.setFar (p := ⟨g3, j, none⟩) (show w1.heap.size ≠ g3 by have := HLT.out; omega) (.int .u8 ((y ^^^ 2 ^ r : Nat) : Int)))
          have HE : Hid (Cp.flip l (p + d) = l.set j (y ^^^ 2 ^ r)) := by
            show Cp.flip l (p + d) = l.set j (y ^^^ 2 ^ r)
            unfold Cp.flip
            rw [← hj, ← hr, ← hy]
          have hj0 : (0 : Int) ≤ (j : Int) := by omega
          have hj1 : (j : Int) < (len0 : Int) + 4 := by omega
          have hr0 : (0 : Int) ≤ (r : Int) := by omega
          clear hl hll hlb hj hr hy hg1 hg2
          go_wp2_with fail
          go_region
          all_goals go_wp2
          all_goals rw [HXO.out]
          all_goals exact ⟨⟨d + 1, by omega, by go_num, by rw [HFL.out, HE.out, ← iv_set]; exact HS.out, HKS.out.drewN 1, HTS.out.drewN 1⟩, by simp [intOf]; omega⟩
      · obtain rfl : d = 32 := by omega
        have HZB : Hid (Byt (iv (flips l0 p bu 32))) := Lib.hid (iv_byt (flips_byte HB0.out p bu 32))
        have HZL : Hid ((iv (flips l0 p bu 32)).length = len0 + 4) := by
          show (iv (flips l0 p bu 32)).length = len0 + 4
          rw [iv_len, flips_len, HLN.out]
        have HR : Hid (decide (Rt (iv (flips l0 p bu 32))) = decide (bu = 0)) := by
          show decide (Rt (iv (flips l0 p bu 32))) = decide (bu = 0)
          have h1 := Rt_iff (zs := iv (flips l0 p bu 32)) (by have := HZL.out; omega) HZB.out
          rw [nat_iv, tells HF0.out hbu (by rw [HLN.out]; exact hpl)] at h1
          exact decide_eq_decide.2 h1
        have HCAP : Hid (len0 + 4 ≤ c3) := by
          obtain ⟨_, _, hq, hle⟩ := own_form HV.out
          injection hq with _ _ hq
          show len0 + 4 ≤ c3
          omega
        go_wp2_with fail
        refine (right w1.heap.size (len0 + 4) c3 (some ⟨g3, 0, none⟩) (iv (flips l0 p bu 32)) (decide (bu = 0)) wr HT.out (Lies.of_own HV.out) HZB.out HZL.out HCAP.out (by omega) HR.out).mono ?_
        rintro e w5 ⟨rfl, hk5⟩
        have HK5 : Hid (Below w.heap.size w w5) := HB1.out.trans ((HK.out.trans hk5).below HB1.out.size (fun _ h => h.elim))
        clear hk5
        go_wp2
        go_ret
        exact ⟨by simp [zero_eq], HK5.out⟩
  · have hd : decide ((300 : Int) < (len0 : Int)) = true := by simp; omega
    clear w0 w1 w2 hlies hby hnil
    go_enter Try.func4, Try.ntmps4
    go_wp2_with fail
    refine (Aw.awake _).mono ?_
    rintro e w1 ⟨rfl, hb⟩
    have HB := Lib.hid hb
    clear hb
    go_wp2
    go_ret
    exact ⟨rfl, HB.out⟩

set_option maxRecDepth 100000 in
theorem lifted (os : Os) (started : os.Started) (H : Type) (enc : TypeId × Value → H) :
    ReturnsInHanded {} Try.checked os 4 .any (Rows.crcTellsSpec.pre6 enc Try.prog Try.f4 Rows.crcTellsRow.domain false) (Rows.crcTellsSpec.post enc Try.prog Try.f4 false true false false) := by
  refine returnsInHanded_of_change (C := Try.checked) own started (by kernel_rfl) Try.func4
    (ChangeSpec.witness6 (enc := enc) (C := Try.checked) false ⟨#[], #[.slice none 0 0, .int .u16 0, .int .u32 0], []⟩ 8 (by kernel_rfl) (by kernel_rfl) (by kernel_rfl) (by kernel_rfl)) ?_
  intro W base args ds gs before hval0 hW hcnd _
  have hval : ∀ (j : Nat) t v, Try.f4.params[j]? = some t → args[j]? = some v → Value.okWide Try.prog W .any base t v := hval0
  have hW' := hW
  obtain ⟨p, q, hA0, hV, rfl, hfz, hnd⟩ := hW
  have hA : DataW.TrodAll enc Try.prog W 0 (fun _ => true) true Try.f4.params.toList args.toList ds p := hA0
  rw [Try.params4] at hA hval
  obtain ⟨v0, vs0, d0, ds0, p0, q0, hargs, rfl, rfl, h0, r0⟩ := trodAll_cons hA
  obtain ⟨v1, vs1, d1, ds1, p1, q1, rfl, rfl, rfl, h1, r1⟩ := trodAll_cons r0
  obtain ⟨v2, vs2, d2, ds2, p2, q2, rfl, rfl, rfl, h2, r2⟩ := trodAll_cons r1
  obtain ⟨rfl, rfl, rfl⟩ := trodAll_nil r2
  obtain rfl : args = #[v0, v1, v2] := by cases args; simp_all
  obtain ⟨rfl, rfl⟩ := trodVars_none hV
  obtain ⟨a0, len0, cap0, rfl⟩ := okWide_slice Try.underlying22 (hval 0 22 v0 rfl rfl)
  have k0 := h0
  have lt0 : ∀ x ∈ p0, x.block < W.heap.size := by obtain ⟨m, hm⟩ := k0; exact DataW.trod_lt m _ _ _ hm
  obtain ⟨z0, w0⟩ : ∃ zs, IsRow .u8 W a0 len0 cap0 zs := by
    obtain ⟨fuel, hf⟩ := h0
    rcases open_ints Try.underlying22 Try.underlying5 (by kernel_rfl) hf with ⟨hcs, _⟩ | ⟨x, l, c, zs, hcs, _, hl, hm, hz, _, hcell, hwz⟩
    · simp [Value.cells] at hcs
      obtain ⟨rfl, rfl, rfl⟩ := hcs
      exact ⟨[], .inl ⟨rfl, rfl, rfl, rfl⟩⟩
    · simp [Value.cells] at hcs
      obtain ⟨rfl, rfl, rfl⟩ := hcs
      exact ⟨zs, .inr ⟨_, rfl, hl, hm, by simpa using hz, hcell, hwz⟩⟩
  obtain ⟨a1, rfl, rfl, rfl, w1⟩ := open_int Try.underlying23 (hval 1 23 v1 rfl rfl) h1
  obtain ⟨a2, rfl, rfl, rfl, w2⟩ := open_int Try.underlying27 (hval 2 27 v2 rfl rfl) h2
  clear hA0 hval0
  refine (walk a0 len0 cap0 z0 a1 a2 W w0 w1 w2).mono fun e W' ⟨he, bel⟩ => ?_
  subst he
  exact ⟨_, rfl, _, _, _, [], _, [], hW', trodAll_mk1 (shut_bool Try.underlying4 _), (trodAll_cons_mk (Below.trod laidOut (by kernel_rfl) (of_decide_eq_true (by kernel_rfl)) k0 bel lt0) (trodAll_cons_mk (shut_int Try.underlying23 w1) (trodAll_cons_mk (shut_int Try.underlying27 w2) trodAll_mk0))), rfl, bel.frame _, fun h => by cases h⟩

theorem over : Rows.crcTellsRow.holds Try.pinned (OpenSpec.ofChange Rows.crcTellsSpec) :=
  OpenClaim.holds_of_wide 4 Try.f4 rfl rfl rfl rfl rfl rfl rfl ⟨rfl, rfl, rfl, rfl, rfl⟩ rfl rfl rfl rfl rfl (by kernel_rfl) Try.func4 (by kernel_rfl)
    (of_decide_eq_true (by kernel_rfl)) (by unfold Func.isWrapper; first | (rw [if_pos (by decide +kernel)]; kernel_rfl) | (rw [if_neg (by decide +kernel)]; exact ⟨rfl, rfl⟩))
    (fun os started H enc _ => lifted os started H enc)

/-- The statement, as given. -/
theorem proved : Rows.CrcTellsSaid := over
end Go.Proofs.Ytbehchibgkgpbaa.crcTells
namespace Go.Proofs.Ytbehchibgkgpbaa
/-- The statement, as given. -/
theorem crcTells_holds : Rows.CrcTellsSaid := crcTells.proved
#print axioms crcTells_holds
end Go.Proofs.Ytbehchibgkgpbaa

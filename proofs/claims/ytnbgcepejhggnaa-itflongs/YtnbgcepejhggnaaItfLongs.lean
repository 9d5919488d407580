/- The statement ItfLongs (P2.1, P2.2: any numbers of 64 bits as bytes, and back) holds for every input: the Go function answers true, and its arguments read as before. No conditions beyond the row's own. -/
import Derived.Test.YtnbgcepejhggnaaRows
import Derived.WalkKit
import Derived.ProofKit
import Derived.OpenShut
import Derived.ShutString
import Derived.ChangeOld
import Derived.Below
import Derived.Test.YtnbgcepejhggnaaItfRef
import Derived.Test.YtnbgcepejhggnaaItfTwo
import Derived.Test.YtnbgcepejhggnaaAwake2
import Derived.Outline
import Derived.Deep.RegionHeld3
namespace Go.Proofs.Ytnbgcepejhggnaa.itfLongs
open Go.ChangeShapes Go.WideShapes Go.ChangeAt Go.RowKit
open Go.ChangeMaps (open_string shut_string)
open Go.Proofs.Ytnbgcepejhggnaa.Gen Go.Proofs.Ytnbgcepejhggnaa.Wr Go.Proofs.Ytnbgcepejhggnaa.Ww Go.Proofs.Ytnbgcepejhggnaa.It Go.Proofs.Ytnbgcepejhggnaa.Tw
set_option linter.unusedVariables false

theorem own : ownKnob Try.prog.godebug = none := by kernel_rfl
theorem laidOut : laidOutB Try.prog = true := by kernel_rfl

/-- WHAT THE WALK IS TOLD OF A SLICE OF INTEGERS THAT CAME IN: it is nil; or it leads to a row of 'cap' cells, the numbers 'zs' (the first 'len' are its elements, the rest its spare room), each fitting its kind. -/
def IsRow (k : IntKind) (w : World) (a : Option Addr) (len cap : Nat) (zs : List Int) : Prop :=
  (a = none ∧ len = 0 ∧ cap = 0 ∧ zs = []) ∨
  ∃ x, a = some x ∧ len ≤ cap ∧ cap ≤ maxLen ∧ zs.length = cap ∧ (∀ i, i < zs.length → w.cell? (x.add i) = some (.int k (zs.getD i 0))) ∧ ∀ n ∈ zs, (Lit.int k n).wf = true


set_option maxHeartbeats 2000000 in
set_option maxRecDepth 100000 in
theorem walk (a0 : Option Addr) (len0 cap0 : Nat) (z0 : List Int) (w : World) (w0 : IsRow .u64 w a0 len0 cap0 z0) :
    Calls Try.prog 4 #[.slice a0 len0 cap0] w fun e w' => e = .returned (.bool true) ∧ Below w.heap.size w w' := by
  obtain ⟨hzl, hrow⟩ := row_at w0
  by_cases hl : len0 ≤ 40
  · have hd0 : decide ((40 : Int) < (len0 : Int)) = false := by simp; omega
    obtain ⟨i0, hi0, hz0, hz1, hz2⟩ := info_parts u8_info
    have HZ := Lib.hid hzl
    have HROW := Lib.hid hrow
    clear hzl hrow w0
    go_enter Try.func4, Try.ntmps4
    go_wp2_with fail
    refine (Aw.awake _).mono ?_
    rintro e w1 ⟨rfl, hb1⟩
    have HB1 := Lib.hid hb1
    clear hb1
    go_wp2
    go_loopw [4, 19] (fun want i wr => ∃ (j : Nat) (A : Option Addr) (N c : Nat), j ≤ len0 ∧ want = .slice A N c ∧ i = .int .i64 j ∧ (encs encLong (z0.take j)).length = N ∧ Two w1.heap.size w1.heap.size (encs encLong (z0.take j)) (encs encLong (z0.take j)) (.slice A N c) N wr ∧ Keeps (w1.heap.size ≤ ·) w1 wr) (fun _ i _ => len0 - (intOf i).toNat)
    case atStart => exact ⟨0, none, 0, 0, Nat.zero_le _, rfl, rfl, rfl, two_new 30 (by decide) w1, (Keeps.refl _ _).alloc _⟩
    case round =>
      obtain ⟨j, A, N, c, hj, rfl, rfl, hN, ht, hk⟩ := hrel
      have HN := Lib.hid hN
      have HT := Lib.hid ht
      have HK := Lib.hid hk
      have hNle : N ≤ 9 * j := by
        have h1 := encs_len (e := encLong) (m := 9) (fun x => (Ib.encLong_len x).2) (z0.take j)
        have h2 : (z0.take j).length ≤ j := by simp; omega
        have h3 := Nat.mul_le_mul_left 9 h2
        omega
      have hbel : Below w.heap.size w wr := HB1.out.trans (HK.out.below HB1.out.size (fun _ h => Nat.le_trans HB1.out.size h))
      have HBR := Lib.hid hbel
      clear hN ht hk hbel
      by_cases hlt : j < len0
      · obtain ⟨b, o, x, rfl, hb, hcx0, hzx, hwx⟩ := HROW.out j hlt
        have hcx : wr.cell? ⟨b, o + j, none⟩ = some (.int .u64 x) := (HBR.out.cell (p := ⟨b, o + j, none⟩) hb).trans hcx0
        have hx := bounds_u64 hwx
        have HZX := Lib.hid hzx
        clear hcx0 hzx hwx hb
        obtain ⟨v, hw, ho, ha⟩ := HT.out
        have HW := Lib.hid hw
        have HO := Lib.hid ho
        have HA := Lib.hid ha
        clear hw ho ha
        go_wp2_with fail
        refine (Iw.long _ _ v _ x _ HW.out (by rw [HN.out]; omega) hx.1 (by omega)).mono ?_
        rintro e w2 hp
        obtain rfl := hp.1
        have HK2 : Hid (Keeps (w1.heap.size ≤ ·) w1 w2) := by obtain ⟨_, _, k⟩ := Has.next HW.out HK.out hp; exact k
        have HT2 := Lib.hid (two_put HO.out HA.out hp HW.out)
        obtain ⟨m, hm⟩ : ∃ m, (encLong x).length = m := ⟨_, rfl⟩
        have hml := Ib.encLong_len x
        rw [hm] at hml
        have HM := Lib.hid hm
        clear hp hm
        go_wp2_with fail
        refine (Rf.long_n x m _ HM.out hx.1 (by omega)).mono ?_
        rintro e w3 ⟨A3, c3, rfl, hv3, hk3⟩
        obtain ⟨ad, rfl⟩ := own_some hv3 hml.1
        have HT3 := Lib.hid (two_more HT2.out hk3)
        have HK3 : Hid (Keeps (w1.heap.size ≤ ·) w1 w3) := HK2.out.trans (hk3.mono fun _ _ h => h.elim)
        have HNW := Lib.hid (Lies.of_own hv3).news
        have HS3 := Lib.hid (Nat.le_trans HK3.out.size (Nat.le_refl _))
        have HO3 : Hid (w3.ownsRow w1.heap.size 5 1 (.slice A N c) N (bv (encs encLong (z0.take j)))) := by obtain ⟨_, _, ho, _⟩ := HT3.out; exact ho
        clear hv3 hk3
        go_wp2_with (
          at_builtin
          refine wpList_append_own_at _ rfl (.tmp 26) (.tmp 28) _ rfl w1.heap.size 5 i0 _ 1 1 Try.underlying26 hi0 hz0 hz1 hz2 rfl (by omega) (.slice A N c) N (bv (encs encLong (z0.take j))) rfl
            HO3.out ad m c3 (bv (encLong x)) rfl (by rw [bv_len, HM.out]; omega) HNW.out (bv_one _) (by simp only [maxLen]; omega) (by omega) HS3.out ?_
          intro v1 w4 hown1 hg1 hnil1 hat1
          have hz : bv (encs encLong (z0.take j)) ++ bv (encLong x) = bv (encs encLong (z0.take (j + 1))) := by rw [encs_take HZX.out, bv_append]
          rw [hz] at hown1
          have HT4 : Hid (Two w1.heap.size w1.heap.size (encs encLong (z0.take (j + 1))) (encs encLong (z0.take (j + 1))) v1 (N + m) w4) := by
            have h := two_app HT3.out hg1 hown1 (by rcases hat1 with h | h; exact .inl h; exact .inr h)
            rw [← encs_take HZX.out] at h
            exact h
          have HK4 : Hid (Keeps (w1.heap.size ≤ ·) w1 w4) := HK3.out.grown hg1 (fun k hk => .inl (HO3.out.lt k hk).1)
          obtain ⟨A1, c1, rfl, _⟩ := own_form hown1
          clear hown1 hg1 hnil1 hat1 hz)
        exact ⟨⟨j + 1, A1, N + m, c1, by omega, rfl, by go_num, by rw [encs_take HZX.out, List.length_append, HN.out, HM.out], HT4.out, HK4.out⟩, by simp [intOf]; omega⟩
      · obtain rfl : len0 = j := by omega
        obtain ⟨all, hall⟩ : ∃ all, all = encs encLong (z0.take len0) := ⟨_, rfl⟩
        rw [← hall] at HN HT
        have HALL := Lib.hid hall
        have HABY : Hid (∀ x ∈ all, 0 ≤ x ∧ x < 256) := by
          show ∀ x ∈ all, 0 ≤ x ∧ x < 256
          rw [HALL.out]
          refine encs_byte (fun n hn => ?_)
          obtain ⟨i, hi⟩ := List.getElem?_of_mem hn
          rw [List.getElem?_take] at hi
          split at hi
          · obtain ⟨b, o, x, _, _, _, hzx, hwx⟩ := HROW.out i (by assumption)
            rw [hzx] at hi
            injection hi with hi
            subst hi
            have := bounds_u64 hwx
            exact Ib.encLong_byte this.1 (by omega)
          · cases hi
        obtain ⟨T, hT⟩ : ∃ T, T = strOfNums all := ⟨_, rfl⟩
        have HTT := Lib.hid hT
        clear hall hT hlt hj
        have hS0 : (convert 26 9 (.slice A N c)).run Try.prog wr.drew = .ok (.string T) wr.drew := by
          obtain ⟨_, _, ho, _⟩ := HT.out
          rw [HTT.out]
          exact (Lies.of_own ho).str_n (P := Try.prog) (w := wr.drew) N HN.out 26 9 5 c Try.underlying26 Try.underlying5 Try.underlying9
        obtain ⟨v, hw, ho, ha⟩ := HT.out
        have HW := Lib.hid hw
        have HO := Lib.hid ho
        clear hw ho ha
        go_wp2_with fail
        go_region_with (first
          | (go_at_call 14
             refine (bytes_n _ _ v all N _ HN.out (by exact HW.out)).mono ?_
             rintro e w2 ⟨A2, c2, rfl, hv2, hk2⟩
             have HK2 : Hid (Keeps (fun _ => False) wr w2) := hk2.of_drew
             have HO2 := Lib.hid (own_keeps HO.out HK2.out (fun _ _ => id))
             have hS2 : (convert 26 9 (.slice A N c)).run Try.prog w2 = .ok (.string T) w2 := by
               rw [HTT.out]; exact (Lies.of_own HO2.out).str_n (P := Try.prog) N HN.out 26 9 5 c Try.underlying26 Try.underlying5 Try.underlying9
             have hT2 : (convert 26 9 (.slice A2 N c2)).run Try.prog w2 = .ok (.string T) w2 := by
               rw [HTT.out]; exact (Lies.of_own hv2).str_n (P := Try.prog) N HN.out 26 9 5 c2 Try.underlying26 Try.underlying5 Try.underlying9
             clear hv2 hk2))
        all_goals
          have HB2 : Hid (Below w.heap.size w w2) := HBR.out.trans (HK2.out.below HBR.out.size (fun _ h => h.elim))
          clear hS0 hS2 hT2 HT HW HO HTT HK2
          go_wp2_with fail
          refine (Ir.iread A N c all _ HN.out (Lies.of_own HO2.out) (by omega) HABY.out).mono ?_
          rintro e w3 ⟨g, rfl, hr, hk⟩
          have HB3 : Hid (Below w.heap.size w w3) := HB2.out.trans (hk.below HB2.out.size (fun _ h => h.elim))
          have HR := Lib.hid hr
          have hg3 : w2.heap.size ≤ g := hr.1
          have hgw : w.heap.size ≤ g := Nat.le_trans HB2.out.size hg3
          clear hr hk
          unfold Ir.rd
          go_wp2_with fail
          generalize hW : w3.alloc (.cells #[.pointer (some ⟨g, 0, none⟩)] 39) = W
          have HX : Hid (Ir.Box w3 g W) := by subst hW; exact Ir.Box.new w3 g HR.out.lt
          have HRW := Lib.hid (HX.out.rd HR.out hW.symm)
          clear hW HR
          go_loopw [43] (fun i wr => ∃ j : Nat, j ≤ len0 ∧ i = .int .i64 j ∧ IsRd w2.heap.size g ⟨all, (encs encLong (z0.take j)).length, 0⟩ wr ∧ Ir.Box w3 g wr) (fun i _ => len0 - (intOf i).toNat)
          case atStart => exact ⟨0, Nat.zero_le _, rfl, HRW.out, HX.out⟩
          case round =>
            obtain ⟨j, hj, rfl, hr, hx⟩ := hrel
            have HR := Lib.hid hr
            have HXR := Lib.hid hx
            have hxc := hx.cell
            have hbel : Below w.heap.size w wr := HB3.out.trans (hx.2.1.below HB3.out.size (fun k h => by omega))
            have HBW := Lib.hid hbel
            clear hr hx hbel HX HRW
            by_cases hlt : j < len0
            · obtain ⟨b, o, x, rfl, hb, hcx0, hzx, hwx⟩ := HROW.out j hlt
              have hcx : wr.cell? ⟨b, o + j, none⟩ = some (.int .u64 x) := (HBW.out.cell (p := ⟨b, o + j, none⟩) hb).trans hcx0
              have hx := bounds_u64 hwx
              have HL : Hid (Ir.RS.long ⟨all, (encs encLong (z0.take j)).length, 0⟩ = (x, ⟨all, (encs encLong (z0.take (j + 1))).length, 0⟩)) := by
                obtain ⟨rest, hrest⟩ := encs_drop encLong (tail := []) hzx hlt
                rw [List.append_nil, ← HALL.out] at hrest
                have h := Ib.long_back hrest hx.1 (by omega)
                rw [encs_take hzx, List.length_append]
                exact h
              clear hcx0 hzx hwx hb
              go_wp2_with fail
              refine (Ir.long g _ _ _ HR.out).mono ?_
              rintro e w5 ⟨rfl, hr, hk⟩
              rw [HL.out] at hr ⊢
              have HR5 := Lib.hid hr
              have HX5 := Lib.hid (HXR.out.next hk)
              clear hr hk
              go_wp2
              exact ⟨⟨j + 1, by omega, by go_num, HR5.out, HX5.out⟩, by simp [intOf]; omega⟩
            · obtain rfl : len0 = j := by omega
              have HF : Hid (RS.fin ⟨all, (encs encLong (z0.take len0)).length, 0⟩ = 0) := by
                show RS.fin ⟨all, (encs encLong (z0.take len0)).length, 0⟩ = 0
                rw [← HALL.out]
                simp [RS.fin]
              go_wp2_with fail
              refine (Wr.end_ g _ _ _ HR.out).mono ?_
              rintro e w9 ⟨rfl, q, rfl⟩
              rw [HF.out]
              go_wp2
              go_ret
              exact ⟨rfl, below_drewN HBW.out q⟩
  · have hd0 : decide ((40 : Int) < (len0 : Int)) = true := by simp; omega
    clear w0 hrow hzl
    go_enter Try.func4, Try.ntmps4
    go_wp2_with fail
    refine (Aw.awake _).mono ?_
    rintro e w1 ⟨rfl, hb⟩
    have HB := Lib.hid hb
    clear hb
    go_wp2
    go_ret
    exact ⟨rfl, HB.out⟩

set_option maxRecDepth 100000 in
theorem lifted (os : Os) (started : os.Started) (H : Type) (enc : TypeId × Value → H) :
    ReturnsInHanded {} Try.checked os 4 .any (Rows.itfLongsSpec.pre6 enc Try.prog Try.f4 Rows.itfLongsRow.domain false) (Rows.itfLongsSpec.post enc Try.prog Try.f4 false true false false) := by
  refine returnsInHanded_of_change (C := Try.checked) own started (by kernel_rfl) Try.func4
    (ChangeSpec.witness6 (enc := enc) (C := Try.checked) false ⟨#[], #[.slice none 0 0], []⟩ 8 (by kernel_rfl) (by kernel_rfl) (by kernel_rfl) (by kernel_rfl)) ?_
  intro W base args ds gs before hval0 hW hcnd _
  have hval : ∀ (j : Nat) t v, Try.f4.params[j]? = some t → args[j]? = some v → Value.okWide Try.prog W .any base t v := hval0
  have hW' := hW
  obtain ⟨p, q, hA0, hV, rfl, hfz, hnd⟩ := hW
  have hA : DataW.TrodAll enc Try.prog W 0 (fun _ => true) true Try.f4.params.toList args.toList ds p := hA0
  rw [Try.params4] at hA hval
  obtain ⟨v0, vs0, d0, ds0, p0, q0, hargs, rfl, rfl, h0, r0⟩ := trodAll_cons hA
  obtain ⟨rfl, rfl, rfl⟩ := trodAll_nil r0
  obtain rfl : args = #[v0] := by cases args; simp_all
  obtain ⟨rfl, rfl⟩ := trodVars_none hV
  obtain ⟨a0, len0, cap0, rfl⟩ := okWide_slice Try.underlying46 (hval 0 46 v0 rfl rfl)
  have k0 := h0
  have lt0 : ∀ x ∈ p0, x.block < W.heap.size := by obtain ⟨m, hm⟩ := k0; exact DataW.trod_lt m _ _ _ hm
  obtain ⟨z0, w0⟩ : ∃ zs, IsRow .u64 W a0 len0 cap0 zs := by
    obtain ⟨fuel, hf⟩ := h0
    rcases open_ints Try.underlying46 Try.underlying47 (by kernel_rfl) hf with ⟨hcs, _⟩ | ⟨x, l, c, zs, hcs, _, hl, hm, hz, _, hcell, hwz⟩
    · simp [Value.cells] at hcs
      obtain ⟨rfl, rfl, rfl⟩ := hcs
      exact ⟨[], .inl ⟨rfl, rfl, rfl, rfl⟩⟩
    · simp [Value.cells] at hcs
      obtain ⟨rfl, rfl, rfl⟩ := hcs
      exact ⟨zs, .inr ⟨_, rfl, hl, hm, by simpa using hz, hcell, hwz⟩⟩
  clear hA0 hval0
  refine (walk a0 len0 cap0 z0 W w0).mono fun e W' ⟨he, bel⟩ => ?_
  subst he
  exact ⟨_, rfl, _, _, _, [], _, [], hW', trodAll_mk1 (shut_bool Try.underlying4 _), (trodAll_cons_mk (Below.trod laidOut (by kernel_rfl) (of_decide_eq_true (by kernel_rfl)) k0 bel lt0) trodAll_mk0), rfl, bel.frame _, fun h => by cases h⟩

theorem over : Rows.itfLongsRow.holds Try.pinned (OpenSpec.ofChange Rows.itfLongsSpec) :=
  OpenClaim.holds_of_wide 4 Try.f4 rfl rfl rfl rfl rfl rfl rfl ⟨rfl, rfl, rfl, rfl, rfl⟩ rfl rfl rfl rfl rfl (by kernel_rfl) Try.func4 (by kernel_rfl)
    (of_decide_eq_true (by kernel_rfl)) (by unfold Func.isWrapper; first | (rw [if_pos (by decide +kernel)]; kernel_rfl) | (rw [if_neg (by decide +kernel)]; exact ⟨rfl, rfl⟩))
    (fun os started H enc _ => lifted os started H enc)

/-- The statement, as given. -/
theorem proved : Rows.ItfLongsSaid := over
end Go.Proofs.Ytnbgcepejhggnaa.itfLongs
namespace Go.Proofs.Ytnbgcepejhggnaa
/-- The statement, as given. -/
theorem itfLongs_holds : Rows.ItfLongsSaid := itfLongs.proved
#print axioms itfLongs_holds
end Go.Proofs.Ytnbgcepejhggnaa

/- The fixed fact of layer 8: four bytes, packed and unpacked; no bytes. -/
import Derived.Test.YtnanmenoemajfaaChPut
import Derived.Test.YtnanmenoemajfaaChTake
import Derived.Lib.SlBytesConst
namespace Go.Proofs.Ytnanmenoemajfaa.Aw8
open Go.RowKit Go.Proofs.Ytnanmenoemajfaa.Gen Go.Proofs.Ytnanmenoemajfaa.Wr Go.Proofs.Ytnanmenoemajfaa.It Go.Proofs.Ytnanmenoemajfaa.Ir Go.Proofs.Ytnanmenoemajfaa.Ib Go.Proofs.Ytnanmenoemajfaa.Fq Go.Proofs.Ytnanmenoemajfaa.Fb Go.Proofs.Ytnanmenoemajfaa.Rp Go.Proofs.Ytnanmenoemajfaa.Cp

theorem pk_none : Ch.pk [] = [0] := by
  rw [Ch.pk, if_pos rfl, List.append_nil]
  simp [encInt, foll, It.enc, be, onesOf]
theorem str0 : strOfNums [0] = ⟨#[0]⟩ := by decide
theorem str3 : strOfNums [97, 98, 97, 98] = ⟨#[97, 98, 97, 98]⟩ := by decide
theorem lies_marked (w : World) (xs : List Int) (f : Nat × Nat) : Lies (w.alloc (.cells (bv xs).toArray 5 f)) (some ⟨w.heap.size, 0, none⟩) xs := by
  refine .inr ⟨_, _, rfl, by simp, ?_⟩
  intro i hi
  rw [cell_of_row _ _ (0 + i) _ 5 f (heap_alloc_new w _)]
  simpa using bv_at hi
theorem three_cells : (bv [97, 98, 97, 98]).toArray = #[.int .u8 97, .int .u8 98, .int .u8 97, .int .u8 98] := rfl
/-- What is packed and taken. -/
theorem back (b : List Int) (most M : Int) (hb : ∀ x ∈ b, 0 ≤ x ∧ x < 256) (hl : b.length ≤ 100000) (hM : min (max most 0) 8388608 = M) (hm : (b.length : Int) ≤ M) : Ch.tk (Ch.pk b) M = (b, 0) := Ch.tk_back hb (by omega) hm

set_option maxHeartbeats 4000000 in
set_option maxRecDepth 100000 in
theorem awake_ (w : World) : Calls Try.prog 6 #[] w fun r w' => r = .returned (.bool true) ∧ Keeps (fun _ => False) w w' := by
  obtain ⟨b, hb⟩ : ∃ b : List Int, [97, 98, 97, 98] = b := ⟨_, rfl⟩
  have hby : ∀ x ∈ b, 0 ≤ x ∧ x < 256 := by rw [← hb]; decide
  have hbl : b.length = 4 := by rw [← hb]; rfl
  obtain ⟨m, hm⟩ : ∃ m, (Ch.pk b).length = m := ⟨_, rfl⟩
  have hpl := Ch.pk_len hby (by omega)
  have HTK : Hid (Ch.tk (Ch.pk b) 10 = (b, 0)) := Ch.tk_back hby (by omega) (by omega)
  have HPUT := Lib.hid (fun A W (h : Lies W A b) => put_ A 4 4 m b W h hbl (by omega) (by omega) hby hm)
  have HTAK := Lib.hid (fun A c W (h : Lies W A (Ch.pk b)) => take_ A m c (Ch.pk b) 10 10 W hm h (by omega) (Ch.pk_byte hby (by omega)) (by decide) (by decide))
  rw [HTK.out] at HTAK
  have HNIL := Lib.hid (fun W => put_ none 0 0 1 [] W (.inl rfl) rfl (by omega) (by omega) (by simp) (by rw [pk_none]; rfl))
  rw [pk_none] at HNIL
  have hl := lies_marked w [97, 98, 97, 98] (4, 5)
  have hcv := Lib.run_convert_bytes_const (P := Try.prog) w 22 5 (bv [97, 98, 97, 98]).toArray 4 4 Try.underlying22 Try.underlying5
  rw [show (bv [97, 98, 97, 98]).toArray.size = 4 from rfl] at hcv
  have hk0 : Keeps (fun _ => False) w (w.alloc (.cells (bv [97, 98, 97, 98]).toArray 5 (4, 5))) := (Keeps.refl _ _).alloc _
  rw [three_cells] at hcv hl hk0
  rw [hb] at hl
  generalize w.alloc (.cells #[.int .u8 97, .int .u8 98, .int .u8 97, .int .u8 98] 5 (4, 5)) = wa at hcv hl hk0
  have HB3 := Lib.hid hl
  have HKA := Lib.hid hk0
  have HS3 : Hid (strOfNums b = ⟨#[97, 98, 97, 98]⟩) := by show _ = _; rw [← hb]; exact str3
  have HBL := Lib.hid hbl
  clear hb hby hbl hm hpl hl hk0
  go_enter Try.func6, Try.ntmps6
  go_upto_region 2 with (first
    | (go_at_call 7
       refine (HPUT.out _ _ HB3.out).mono ?_
       rintro e w1 ⟨A1, c1, rfl, ho1, hk1⟩
       have HL1 := Lib.hid (Lies.of_own ho1)
       have HK1 := Lib.hid (HKA.out.trans hk1)
       clear ho1 hk1)
    | (go_at_call 8
       refine (HTAK.out _ _ _ HL1.out).mono ?_
       rintro e w2 ⟨A2, k2, c2, rfl, hl2, _, hli2, hk2⟩
       have HLB := Lib.hid hli2
       have HKB := Lib.hid (HK1.out.trans hk2)
       obtain rfl : k2 = 4 := by rw [← hl2]; exact HBL.out
       clear hl2 hli2 hk2))
  go_wp2_with (
    go_at_call 7
    refine (HNIL.out _).mono ?_
    rintro e w3 ⟨A3, c3, rfl, ho3, hk3⟩
    have hcv0 := (Lies.of_own ho3).str_n (P := Try.prog) 1 rfl 22 9 5 c3 Try.underlying22 Try.underlying5 Try.underlying9
    have hcv1 := (HLB.out.keeps hk3 (fun _ _ _ => id)).str_n (P := Try.prog) 4 HBL.out 22 9 5 c2 Try.underlying22 Try.underlying5 Try.underlying9
    rw [str0] at hcv0
    rw [HS3.out] at hcv1
    have HKC := Lib.hid (HKB.out.trans hk3)
    clear ho3 hk3)
  go_ret
  exact ⟨rfl, HKC.out⟩
end Go.Proofs.Ytnanmenoemajfaa.Aw8

/- Awake, the fixed fact of layer 12's statements, answers true; nothing that was there turns. No conditions. -/
import Derived.Test.YtbekdcakmeejaaaCtPar
import Derived.Lib.SlBytesConst
import Derived.Deep.RegionHeld3
namespace Go.Proofs.Ytbekdcakmeejaaa.Aw
open Go.RowKit Go.Proofs.Ytbekdcakmeejaaa.Gen Go.Proofs.Ytbekdcakmeejaaa.Ct Go.Proofs.Ytbekdcakmeejaaa.Ca

def ex : List Int := [62, 97, 10, 65, 67, 71, 84, 10]
theorem ex_parse : parse ex = .ok [([97], [65, 67, 71, 84])] := by
  have e : ex = text [([97], [65, 67, 71, 84])] := by decide
  have hc : chk [([97], [65, 67, 71, 84])] = 0 := by decide
  rw [e, parse_text _ (by decide) (by decide), if_pos hc]
theorem ex_byt : Byt ex := by unfold Byt; decide
theorem ex_cells : (bv ex).toArray = #[.int .u8 62, .int .u8 97, .int .u8 10, .int .u8 65, .int .u8 67, .int .u8 71, .int .u8 84, .int .u8 10] := rfl

set_option maxHeartbeats 8000000 in
set_option maxRecDepth 100000 in
theorem awake (w : World) : Calls Try.prog 8 #[] w fun r w' => r = .returned (.bool true) ∧ Keeps (fun _ => False) w w' := by
  have hl := lies_lit w ex (8, 9)
  have hcv := Lib.run_convert_bytes_const (P := Try.prog) w 31 5 (bv ex).toArray 8 8 Try.underlying31 Try.underlying5
  rw [show (bv ex).toArray.size = 8 from rfl] at hcv
  have hk := (Keeps.refl (fun _ => False) w).alloc (.cells (bv ex).toArray 5 (8, 9))
  rw [ex_cells] at hcv hl hk
  generalize w.alloc (.cells #[.int .u8 62, .int .u8 97, .int .u8 10, .int .u8 65, .int .u8 67, .int .u8 71, .int .u8 84, .int .u8 10] 5 (8, 9)) = w2 at *
  have HK := Lib.hid hk
  have HP := Lib.hid (parse_ (some ⟨w.heap.size, 0, none⟩) 8 8 ex w2 rfl (by omega) hl ex_byt)
  clear hk hl
  go_enter Try.func8, Try.ntmps8
  go_wp2_with fail
  refine HP.out.mono ?_
  rintro r1 w3 ⟨hk3, hr⟩
  rw [ex_parse] at hr
  obtain ⟨A, n, c, es, rfl, hR, hes⟩ := hr
  have h1 : n = 1 := by
    have := hR.1
    have h2 := congrArg List.length hes
    rw [pairs_len] at h2
    simp at h2
    omega
  subst h1
  obtain ⟨e, rfl⟩ : ∃ e, es = [e] := by
    have := hR.1
    match es, this with
    | [e], _ => exact ⟨e, rfl⟩
  have hsq : e.sq = [65, 67, 71, 84] := by
    simp [pairs, Ct.p] at hes
    exact hes.2
  have hL : lenOf [e] 0 = 4 := by simp [lenOf, hsq]
  have hA : atOf [e] 0 2 = 67 := by rw [atOf, hL]; simp [hsq]
  have HR := Lib.hid hR
  have HK3 := Lib.hid (HK.out.trans hk3)
  have HLL : Hid (∀ w1, Keeps (fun _ => False) w3 w1 → Calls Try.prog 15 #[.agg #[.slice A 1 c], .int .i64 0] w1 fun r w' => r = .returned (.int .i64 4) ∧ Keeps (fun _ => False) w1 w') := Lib.hid (fun w1 hk => by rw [← hL]; exact len_ A 1 c [e] 0 w1 (HR.out.more hk))
  have HAA : Hid (∀ w1, Keeps (fun _ => False) w3 w1 → Calls Try.prog 16 #[.agg #[.slice A 1 c], .int .i64 0, .int .i64 2] w1 fun r w' => r = .returned (.int .u8 67) ∧ Keeps (fun _ => False) w1 w') := Lib.hid (fun w1 hk => by rw [← hA]; exact at_ A 1 c [e] 0 2 w1 (HR.out.more hk))
  have HX := Lib.hid ((Keeps.refl (fun _ => False) w3).alloc (.cells #[.slice A 1 c] 29))
  have HB := Lib.hid (Blk.new w3 29 #[.slice A 1 c])
  clear hR hes hsq hL hA hk3
  go_wp2_with (first
    | (go_at_call 16
       refine (HAA.out _ (by exact HX.out)).mono ?_
       rintro e1 w4 ⟨rfl, hk4⟩
       have b4 : w4.cell? ⟨w3.heap.size, 0, none⟩ = some (.slice A 1 c) := (hk4.cell (p := ⟨w3.heap.size, 0, none⟩) (by simp) id).trans (HB.out.cell 0)
       have HX4 := Lib.hid (HX.out.trans hk4)
       clear hk4)
    | (go_at_call 15
       refine (HLL.out _ (by exact HX4.out)).mono ?_
       rintro e1 w5 ⟨rfl, hk5⟩
       have HX5 := Lib.hid (HX4.out.trans hk5)
       clear hk5))
  go_ret
  exact ⟨rfl, HK3.out.trans HX5.out⟩
end Go.Proofs.Ytbekdcakmeejaaa.Aw

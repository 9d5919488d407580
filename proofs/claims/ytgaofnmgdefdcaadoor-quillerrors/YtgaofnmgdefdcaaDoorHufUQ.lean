/- Code.Put into the Writer at the head of a Quill (written by tools/quill/bwq.py out of HufUse). -/
import Derived.Test.YtgaofnmgdefdcaaDoorHufUse
import Derived.Test.YtgaofnmgdefdcaaDoorBitPQ
namespace Go.Proofs.YtgaofnmgdefdcaaDoor.Bq
open Go.RowKit Go.Shelf Go.Sort Go.Proofs.YtgaofnmgdefdcaaDoor.Gen Go.Proofs.YtgaofnmgdefdcaaDoor.Mp Go.Proofs.YtgaofnmgdefdcaaDoor.Hr Go.Proofs.YtgaofnmgdefdcaaDoor.Hs Go.Proofs.YtgaofnmgdefdcaaDoor.Hf Go.Proofs.YtgaofnmgdefdcaaDoor.Hz Go.Proofs.YtgaofnmgdefdcaaDoor.Ln Go.Proofs.YtgaofnmgdefdcaaDoor.Hk Go.Proofs.YtgaofnmgdefdcaaDoor.Bp
open Go.Proofs.YtgaofnmgdefdcaaDoor.Hu hiding put_some
open Go.Proofs.YtgaofnmgdefdcaaDoor.Bw hiding At IsBw Puts At.keeps At.drew At.ne At.set IsBw.keeps IsBw.its stored bytes put
variable {m1 m2 : Value}

/-- Put of a number that has a word. -/
theorem put_some (base p : Nat) (W : Ws) (x : Int) (z v : Nat) (bs g : Nat) (vw : Value) (l : List Nat) (w : World) (h : IsCode base w p W) (hx : (Lit.int .i64 x).wf = true) (hf : found W x = some (z, v)) (hz : z ≤ 32) (hv : v < 4294967296) (hw : IsBw m1 m2 bs g vw l w) (hl : l.length + 32 ≤ 8000000) :
    Calls Tryd.prog 23 #[.pointer (some ⟨p, 0, none⟩), .pointer (some ⟨g, 0, none⟩), .int .i64 x] w fun r w' => r = .returned (.bool true) ∧ ∃ v', IsBw m1 m2 bs g v' (l ++ tb v z) w' ∧ Moves g vw v' w w' := by
  have HRO := Lib.hid (wordOf_ base p W x w h hx)
  have e1 : wb W x = v := by simp [wb, hf]
  have e2 : wz W x = z := by simp [wz, hf]
  have e3 : (found W x).isSome = true := by simp [hf]
  rw [e1, e2, e3] at HRO
  have HW := Lib.hid hw
  have HSZ : Hid (Bf.sz (z : Int) = z) := by show Bf.sz (z : Int) = z; unfold Bf.sz; omega
  clear h e1 e2 e3 hf hw
  go_enter Tryd.func23, Tryd.ntmps23
  go_wp2_with fail
  refine HRO.out.mono ?_
  rintro e w1 ⟨rfl, hk⟩
  have HK1 := Lib.hid (hk.alloc (.cells #[.int .u32 (v : Int), .int .i64 (z : Int)] 96))
  have HPU := Lib.hid (put g bs vw l v (z : Int) _ (HW.out.keeps HK1.out (fun _ _ => id)) hl hv)
  clear hk
  go_wp2_with (
    refine HPU.out.mono ?_
    rintro e w2 ⟨rfl, v', hv', hm⟩
    have HV := Lib.hid hv'
    have HMV := Lib.hid hm
    clear hv' hm)
  go_ret
  refine ⟨rfl, v', ?_, ?_⟩
  · have h1 := HV.out
    rw [HSZ.out] at h1
    exact h1
  · have h1 := HMV.out
    refine ⟨(HK1.out.none_ (S := Its g vw)).trans h1.keeps, ?_⟩
    rcases h1.at_ with h2 | ⟨b, h2, h3⟩
    · exact .inl h2
    · exact .inr ⟨b, h2, Nat.le_trans HK1.out.size h3⟩
end Go.Proofs.YtgaofnmgdefdcaaDoor.Bq

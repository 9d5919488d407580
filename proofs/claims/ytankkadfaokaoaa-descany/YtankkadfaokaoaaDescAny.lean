/- The statement DescAny (P1, P9.2: any bytes: ways whose bytes they are, or an error) holds for every input: the Go function answers true, and its arguments read as before. No conditions beyond the row's own. -/
import Derived.Test.YtankkadfaokaoaaRows
import Derived.WalkKit
import Derived.ProofKit
import Derived.OpenShut
import Derived.ShutString
import Derived.ChangeOld
import Derived.Below
import Derived.Test.YtankkadfaokaoaaJAwake9DsTkP
import Derived.Test.YtankkadfaokaoaaJDsAnyDsBack
import Derived.Test.YtankkadfaokaoaaDsTkII
import Derived.Test.YtankkadfaokaoaaDsTkAA
import Derived.Test.YtankkadfaokaoaaDsSameA
import Derived.Test.YtankkadfaokaoaaDsPutA
import Derived.Test.YtankkadfaokaoaaAnyApp
import Derived.Test.YtankkadfaokaoaaDsTwo
import Derived.Test.YtankkadfaokaoaaDsByt
import Derived.Test.YtankkadfaokaoaaDsAnyX
import Derived.Outline
import Derived.Deep.RegionHeld3
import Derived.Deep.CutRange
import Derived.RegionTactic
import Derived.BigQuiet
import Derived.Lib.Strings
import Derived.Deep.CutBlock
namespace Go.Proofs.Ytankkadfaokaoaa.descAny
open Go.ChangeShapes Go.WideShapes Go.ChangeAt Go.RowKit
open Go.ChangeMaps (open_string shut_string)
open Go.Proofs.Ytankkadfaokaoaa.Gen Go.Proofs.Ytankkadfaokaoaa.Wr Go.Proofs.Ytankkadfaokaoaa.Ww Go.Proofs.Ytankkadfaokaoaa.It Go.Proofs.Ytankkadfaokaoaa.Ir Go.Proofs.Ytankkadfaokaoaa.Ib Go.Proofs.Ytankkadfaokaoaa.Ap Go.Proofs.Ytankkadfaokaoaa.Ds
set_option linter.unusedVariables false

theorem own : ownKnob Try.prog.godebug = none := by kernel_rfl
theorem laidOut : laidOutB Try.prog = true := by kernel_rfl

/-- WHAT THE WALK IS TOLD OF A SLICE OF INTEGERS THAT CAME IN: it is nil; or it leads to a row of 'cap' cells, the numbers 'zs' (the first 'len' are its elements, the rest its spare room), each fitting its kind. -/
def IsRow (k : IntKind) (w : World) (a : Option Addr) (len cap : Nat) (zs : List Int) : Prop :=
  (a = none ∧ len = 0 ∧ cap = 0 ∧ zs = []) ∨
  ∃ x, a = some x ∧ len ≤ cap ∧ cap ≤ maxLen ∧ zs.length = cap ∧ (∀ i, i < zs.length → w.cell? (x.add i) = some (.int k (zs.getD i 0))) ∧ ∀ n ∈ zs, (Lit.int k n).wf = true

theorem keeps_low {w wr w1 : World} {S : Nat → Prop} (h : Keeps (fun _ => False) w wr) (k : Keeps S wr w1) (hw : ∀ x, S x → w.heap.size ≤ x) : Keeps (fun _ => False) w w1 :=
  ⟨k.os.trans h.os, k.tape.trans h.tape, k.output.trans h.output, Nat.le_trans h.size k.size, fun x hx hn => (k.block x (Nat.lt_of_lt_of_le hx h.size) (fun hs => by have := hw x hs; omega)).trans (h.block x hx hn)⟩
theorem bounds_u8 {x : Int} (h : (Lit.int .u8 x).wf = true) : 0 ≤ x ∧ x < 256 := by
  have hm : IntKind.u8.min = 0 ∧ IntKind.u8.max = 255 := by decide
  simp [Lit.wf, hm.1, hm.2] at h
  omega
theorem own_cells {w : World} {g n base : Nat} {xs : List Int} (h : Blk w g 5 (bv xs).toArray) (hn : xs.length = n) (hl : n ≤ 1000000) (hb : base ≤ g) : w.ownsRow base 5 1 (.slice (some ⟨g, 0, none⟩) n n) n (bv xs) := by
  refine ⟨by rw [bv_len]; omega, .inr ⟨g, n, (bv xs).toArray, rfl, hb, h, Nat.le_refl _, by simp only [maxLen]; omega, by simp [bv_len, hn], ?_⟩⟩
  simp
  exact List.take_of_length_le (by rw [bv_len]; omega)
theorem run_cut_to {P : Program} (t e : TypeId) (A : Option Addr) (n c m : Nat) (kh : IntKind) (ht : P.underlying t = some (.slice e)) (he : ∀ w, (sizeOf e).run P w = .ok 1 w) (hk : m ≤ c) (w : World) :
    (Instr.slice t (.slice A n c) none (some (.int kh m)) none).run P w = .ok (.slice (cutAt A c 0) m c) w := by
  have hel : P.elem t = e := by simp [Program.elem, ht]
  rw [run_slice_h (P := P) w t A n c (by rw [hel]; exact ht) kh m (by omega) (by omega), hel, he]
  simp only [Result.andThen, sliced, Int.toNat_natCast]
  rfl
/-- Two Readers, each in a variable. -/
structure Rds (b1 b2 g1 g2 X : Nat) (s t : RS) (WB wr : World) : Prop where
  r1 : IsRd b1 g1 s wr
  r2 : IsRd b2 g2 t wr
  v1 : Blk wr X 46 #[.pointer (some ⟨g1, 0, none⟩)]
  v2 : Blk wr (X + 1) 46 #[.pointer (some ⟨g2, 0, none⟩)]
  keeps : Keeps (fun _ => False) WB wr
  lo : WB.heap.size ≤ g1
  g12 : g1 < g2
  gx : g2 < X
section
variable {b1 b2 g1 g2 X : Nat} {s t s' : RS} {WB wr wx : World}
theorem Rds.still (h : Rds b1 b2 g1 g2 X s t WB wr) (k : Keeps (fun _ => False) wr wx) : Rds b1 b2 g1 g2 X s t WB wx :=
  ⟨h.r1.keeps k (fun _ _ => id), h.r2.keeps k (fun _ _ => id), h.v1.keeps k id, h.v2.keeps k id, h.keeps.trans k, h.lo, h.g12, h.gx⟩
theorem Rds.t1 (h : Rds b1 b2 g1 g2 X s t WB wr) (hr : IsRd b1 g1 s' wx) (k : Keeps (· = g1) wr wx) : Rds b1 b2 g1 g2 X s' t WB wx := by
  have h1 := h.lo; have h2 := h.g12; have h3 := h.gx
  exact ⟨hr, h.r2.apart h.r1 (by omega) k, h.v1.keeps k (by omega), h.v2.keeps k (by omega), keeps_low h.keeps k (by omega), h.lo, h.g12, h.gx⟩
theorem Rds.t2 (h : Rds b1 b2 g1 g2 X s t WB wr) (hr : IsRd b2 g2 s' wx) (k : Keeps (· = g2) wr wx) : Rds b1 b2 g1 g2 X s s' WB wx := by
  have h1 := h.lo; have h2 := h.g12; have h3 := h.gx
  exact ⟨h.r1.apart h.r2 (by omega) k, hr, h.v1.keeps k (by omega), h.v2.keeps k (by omega), keeps_low h.keeps k (by omega), h.lo, h.g12, h.gx⟩
theorem Rds.far {z : Nat} (h : Rds b1 b2 g1 g2 X s t WB wr) (k : Keeps (· = z) wr wx) (hz : X + 1 < z) : Rds b1 b2 g1 g2 X s t WB wx := by
  have h1 := h.lo; have h2 := h.g12; have h3 := h.gx
  exact ⟨h.r1.low k (fun b _ hb e => by omega), h.r2.low k (fun b _ hb e => by omega), h.v1.keeps k (by omega), h.v2.keeps k (by omega), keeps_low h.keeps k (by omega), h.lo, h.g12, h.gx⟩
end
/-- The five kinds that are laid ahead. -/
theorem kinds_cell {w : World} {g : Nat} (h : Blk w g 5 #[.int .u8 1, .int .u8 3, .int .u8 4, .int .u8 5, .int .u8 6]) {j : Nat} (hj : j < 5) : ∃ x : Int, (0 ≤ x ∧ x < 256) ∧ w.cell? ⟨g, j, none⟩ = some (.int .u8 x) := by
  have : ∀ j : Fin 5, ∃ x : Int, (0 ≤ x ∧ x < 256) ∧ (#[Value.int .u8 1, .int .u8 3, .int .u8 4, .int .u8 5, .int .u8 6] : Array Value)[j.val]? = some (.int .u8 x) := by
    intro j
    match j with
    | 0 => exact ⟨1, by omega, rfl⟩
    | 1 => exact ⟨3, by omega, rfl⟩
    | 2 => exact ⟨4, by omega, rfl⟩
    | 3 => exact ⟨5, by omega, rfl⟩
    | 4 => exact ⟨6, by omega, rfl⟩
  obtain ⟨x, hx, he⟩ := this ⟨j, hj⟩
  exact ⟨x, hx, by rw [h.cell]; exact he⟩
set_option maxHeartbeats 16000000 in
set_option maxRecDepth 100000 in
theorem walk (a0 : Option Addr) (len0 cap0 : Nat) (z0 : List Int) (a1 : Int) (w : World) (w0 : IsRow .u8 w a0 len0 cap0 z0) (w1 : (Lit.int .u8 a1).wf = true) :
    Calls Try.prog 5 #[.slice a0 len0 cap0, .int .u8 a1] w fun e w' => e = .returned (.bool true) ∧ Below w.heap.size w w' := by
  have hb1 := bounds_u8 w1
  obtain ⟨n1, rfl⟩ : ∃ n : Nat, a1 = (n : Int) := ⟨a1.toNat, by omega⟩
  have HR0 := Lib.hid (row_lies w0)
  have HN1 : Hid (n1 < 256) := by show n1 < 256; omega
  clear w0 w1 hb1
  go_enter Try.func5, Try.ntmps5
  go_wp2_with fail
  refine (awake _).mono ?_
  rintro e w1 ⟨rfl, hk1⟩
  have HK1 := Lib.hid hk1
  clear hk1
  by_cases hg0 : 200 < len0
  · have hd0 : decide ((200 : Int) < (len0 : Int)) = true := by rw [decide_eq_true_iff]; omega
    clear hg0
    go_wp2
    go_ret
    exact ⟨rfl, HK1.out.below (Nat.le_refl _) (fun _ h => h.elim)⟩
  have hd0 : decide ((200 : Int) < (len0 : Int)) = false := by rw [decide_eq_false_iff_not]; omega
  have HG0 : Hid (len0 ≤ 200) := by show _ ≤ _; omega
  clear hg0
  obtain ⟨hr0a, hr0b, hr0c, hr0d⟩ := HR0.out
  obtain ⟨xs, hxs⟩ : ∃ xs, z0.take len0 = xs := ⟨_, rfl⟩
  rw [hxs] at hr0a hr0c hr0d
  have HXL := Lib.hid hr0a
  have HXB := Lib.hid hr0d
  have HXC := Lib.hid hr0b
  have HXI := Lib.hid hr0c
  clear hr0a hr0b hr0c hr0d hxs HR0
  obtain ⟨j, hj⟩ : ∃ j, n1 % 5 = j := ⟨_, rfl⟩
  have hjm : j < 5 := by omega
  have hmod : (n1 : Int) % 5 = (j : Int) := by omega
  have hmodt : Int.tmod (n1 : Int) 5 = (j : Int) := by rw [Int.tmod_eq_emod_of_nonneg (by omega)]; exact hmod
  have hwj : IntKind.u8.wrap (j : Int) = (j : Int) := IntWalk.u8_in _ (by omega)
  have hj0 : (0 : Int) ≤ (j : Int) := by omega
  have hj1 : (j : Int) < 5 := by omega
  have HBC : Hid (Blk (w1.alloc (.cells #[.int .u8 1, .int .u8 3, .int .u8 4, .int .u8 5, .int .u8 6] 5)) w1.heap.size 5 #[.int .u8 1, .int .u8 3, .int .u8 4, .int .u8 5, .int .u8 6]) := Blk.new _ _ _
  obtain ⟨x, hxb, hxc⟩ := kinds_cell HBC.out hjm
  have HXX := Lib.hid hxb
  clear hj hjm HN1 hxb
  have e1 : (w1.alloc (.cells #[.int .u8 1, .int .u8 3, .int .u8 4, .int .u8 5, .int .u8 6] 5)).heap.size = w1.heap.size + 1 := by simp
  have HQ : Hid (((w1.alloc (.cells #[.int .u8 1, .int .u8 3, .int .u8 4, .int .u8 5, .int .u8 6] 5)).alloc (.cells #[.int .u8 x] 5)).ownsRow w1.heap.size 5 1 (.slice (some ⟨w1.heap.size + 1, 0, none⟩) 1 1) 1 (bv [x])) := by
    refine Lib.hid (own_cells ?_ rfl (by omega) (by omega))
    rw [← e1]
    exact Blk.new _ _ _
  have HKQ : Hid (Keeps (fun _ => False) w1 ((w1.alloc (.cells #[.int .u8 1, .int .u8 3, .int .u8 4, .int .u8 5, .int .u8 6] 5)).alloc (.cells #[.int .u8 x] 5))) := ((Keeps.refl _ _).alloc _).alloc _
  have HXQ := Lib.hid ((HXI.out.keeps HK1.out (fun _ _ _ => id)).keeps HKQ.out (fun _ _ _ => id))
  clear e1
  go_upto_region 6 with (
    at_builtin
    refine wpList_app rfl (.tmp 24) (.tmp 25) rfl w1.heap.size 1 len0 cap0 (.slice (some ⟨w1.heap.size + 1, 0, none⟩) 1 1) [x] xs a0 rfl HQ.out rfl HXQ.out HXL.out (by have := HG0.out; omega) HKQ.out.size ?_
    intro v3 w3 hown3 hg3 hat3
    obtain ⟨A3, c3, rfl, hc3⟩ := own_form hown3
    have HC3 := Lib.hid hc3
    have HO3 := Lib.hid hown3
    have HK3 : Hid (Keeps (fun _ => False) w w3) := Lib.hid (HK1.out.trans (HKQ.out.grown hg3 (fun k hk => .inr (by simp [Value.ownBlock] at hk; omega))))
    have HS3 : Hid (w1.heap.size ≤ w3.heap.size) := Lib.hid (HKQ.out.grown hg3 (fun k hk => .inr (by simp [Value.ownBlock] at hk; omega))).size
    clear hown3 hg3 hat3 hc3)
  clear hxc HQ HXQ HKQ HBC hmod hmodt hwj hj0 hj1
  obtain ⟨BB, hBB⟩ : ∃ BB, w3.heap.size = BB := ⟨_, rfl⟩
  have HB : Hid (Blk (w3.alloc (.cells #[.slice a0 len0 cap0, .slice A3 (1 + len0) c3] 24)) w3.heap.size 24 #[.slice a0 len0 cap0, .slice A3 (1 + len0) c3]) := Blk.new _ _ _
  have HKB : Hid (Keeps (fun _ => False) w (w3.alloc (.cells #[.slice a0 len0 cap0, .slice A3 (1 + len0) c3] 24))) := Lib.hid (HK3.out.alloc _)
  have HKC : Hid (Keeps (fun _ => False) w3 (w3.alloc (.cells #[.slice a0 len0 cap0, .slice A3 (1 + len0) c3] 24))) := Lib.hid ((Keeps.refl _ _).alloc _)
  generalize w3.alloc (.cells #[.slice a0 len0 cap0, .slice A3 (1 + len0) c3] 24) = WB at HB HKB HKC ⊢
  rw [hBB] at HB ⊢
  have HX : Hid (∀ d, d < 2 → ∃ A n c xs, (#[Value.slice a0 len0 cap0, .slice A3 (1 + len0) c3] : Array Value)[d]? = some (.slice A n c) ∧ xs.length = n ∧ n ≤ c ∧ n ≤ 300 ∧ Lies WB A xs ∧ ∀ x ∈ xs, 0 ≤ x ∧ x < 256) := by
    refine Lib.hid fun d hd => ?_
    match d, hd with
    | 0, _ => exact ⟨a0, len0, cap0, xs, rfl, HXL.out, HXC.out, by have := HG0.out; omega, HXI.out.keeps HKB.out (fun _ _ _ => id), HXB.out⟩
    | 1, _ => exact ⟨A3, 1 + len0, c3, x :: xs, rfl, by simp [HXL.out]; omega, HC3.out, by have := HG0.out; omega, (Lies.of_own HO3.out).keeps HKC.out (fun _ _ _ => id), fun y hy => by
        rcases List.mem_cons.1 hy with rfl | hy
        · exact HXX.out
        · exact HXB.out y hy⟩
  generalize (#[Value.slice a0 len0 cap0, .slice A3 (1 + len0) c3] : Array Value) = CS at HB HX
  clear HK3 HS3 HKC HO3 HC3 HXL HXB HXC HXI HXX HG0 hBB HK1 hd0
  go_loopw [6, 7, 8, 9, 10, 11, 12, 29] (fun _ _ _ _ _ _ _ iv wr => ∃ d : Nat, iv = .int .i64 (d : Int) ∧ d ≤ 2 ∧ Hid (Keeps (fun _ => False) WB wr)) (fun _ _ _ _ _ _ _ iv _ => 2 - (intOf iv).toNat)
  case atStart => exact ⟨0, rfl, by omega, Lib.hid (Keeps.refl _ _)⟩
  case round =>
    obtain ⟨d, rfl, hd, HH⟩ := hrel
    by_cases hlt : d < 2
    · obtain ⟨A, n, c, xs, hcs, hxn, hnc, hnn, hli, hxb⟩ := HX.out d hlt
      have hd0 : (0 : Int) ≤ (d : Int) := by omega
      have hd1 : (d : Int) < 2 := by omega
      have hcd : wr.cell? ⟨BB, d, none⟩ = some (.slice A n c) := by rw [(HB.out.keeps HH.out id).cell, hcs]
      have HLX := Lib.hid hli
      have HXN := Lib.hid hxn
      have HNN := Lib.hid hnn
      have HXB := Lib.hid hxb
      have HNC := Lib.hid hnc
      have HIR := Lib.hid (fun W (k : Keeps (fun _ => False) WB W) => iread A n c xs W hxn (hli.keeps k (fun _ _ _ => id)) (by omega) hxb)
      unfold NewItf rd at HIR
      have HLT := Lib.hid hlt
      clear hcs hxn hnc hnn hli hxb hlt hd
      go_upto_region 9 with (first
        | (have H1 := HIR
           go_at_call 15
           refine (HIR.out _ HH.out).mono ?_
           rintro e w4 ⟨g1, rfl, hr4, hk4⟩
           have HKR : Hid (WB.heap.size ≤ wr.heap.size) := Lib.hid HH.out.size
           have HR4 := Lib.hid hr4
           have HK4 := Lib.hid (HH.out.trans hk4)
           clear hr4 hk4 H1 HH)
        | (go_at_call 15
           refine (HIR.out _ HK4.out).mono ?_
           rintro e w5 ⟨g2, rfl, hr5, hk5⟩
           have HR5 := Lib.hid hr5
           have HR5a := Lib.hid (HR4.out.keeps hk5 (fun _ _ => id))
           have HG12 : Hid (WB.heap.size ≤ g1 ∧ g1 < g2) := by
             have h1 := HR4.out.1; have h2 := hr5.1; have h3 := HR4.out.lt; have h4 := HK4.out.size
             show _ ∧ _
             exact ⟨by have := HKR.out; omega, by omega⟩
           have HK5 := Lib.hid (HK4.out.trans hk5)
           clear hr5 hk5 HK4 HR4))
      obtain ⟨X, hX⟩ : ∃ X, w5.heap.size = X := ⟨_, rfl⟩
      have e1 : (w5.alloc (.cells #[.pointer (some ⟨g1, 0, none⟩)] 46)).heap.size = X + 1 := by rw [← hX]; simp
      have HRD : Hid (Rds wr.heap.size w4.heap.size g1 g2 X ⟨xs, 0, 0⟩ ⟨xs, 0, 0⟩ WB ((w5.alloc (.cells #[.pointer (some ⟨g1, 0, none⟩)] 46)).alloc (.cells #[.pointer (some ⟨g2, 0, none⟩)] 46))) := by
        have k2 : Keeps (fun _ => False) w5 ((w5.alloc (.cells #[.pointer (some ⟨g1, 0, none⟩)] 46)).alloc (.cells #[.pointer (some ⟨g2, 0, none⟩)] 46)) := ((Keeps.refl _ _).alloc _).alloc _
        refine Lib.hid ⟨HR5a.out.keeps k2 (fun _ _ => id), HR5.out.keeps k2 (fun _ _ => id), ?_, ?_, HK5.out.trans k2, HG12.out.1, HG12.out.2, by have := HR5.out.lt; omega⟩
        · rw [← hX]; exact (Blk.new _ _ _).alloc _
        · rw [← e1]; exact Blk.new _ _ _
      have hq1 : w5.heap.size + 1 = X + 1 := by omega
      generalize (w5.alloc (.cells #[.pointer (some ⟨g1, 0, none⟩)] 46)).alloc (.cells #[.pointer (some ⟨g2, 0, none⟩)] 46) = W5 at HRD ⊢
      rw [hX]
      clear hX e1 hq1 HR5 HR5a HK5 HG12 HKR HIR hcd
      have hok : RS.ok ⟨xs, 0, 0⟩ := HRD.out.r1.2.1
      have hti := TI_any hok
      have hta := TA_any hok
      have htx := TA_xs hok
      have HTI := Lib.hid (fun W (h : IsRd wr.heap.size g1 ⟨xs, 0, 0⟩ W) => take_ii g1 ⟨xs, 0, 0⟩ wr.heap.size W h)
      have HTA := Lib.hid (fun W (h : IsRd w4.heap.size g2 ⟨xs, 0, 0⟩ W) => take_aa g2 ⟨xs, 0, 0⟩ w4.heap.size W h)
      generalize TI ⟨xs, 0, 0⟩ = p at hti HTI
      generalize TA ⟨xs, 0, 0⟩ = q at hta htx HTA
      obtain ⟨dd, s2⟩ := p
      obtain ⟨ee, s3⟩ := q
      simp only at hti hta htx
      have HGI := Lib.hid hti
      have HGA := Lib.hid hta
      have HGX := Lib.hid htx
      unfold GotI rd at HTI
      unfold GotA rd at HTA
      simp only at HTI HTA
      clear hti hta htx hok
      have HXS : Hid (X + 1 < W5.heap.size) := Lib.hid HRD.out.v2.lt
      go_upto_region 9 with fail
      go_cut [9, 10] from 37 to 41 (fun v9 v10 wx => ∃ P Q A6 n6 c6 A7 n7 c7, v9 = .pointer (some ⟨P, 0, none⟩) ∧ v10 = .pointer (some ⟨Q, 0, none⟩) ∧ Hid (Rds wr.heap.size w4.heap.size g1 g2 X s2 s3 WB wx ∧ Blk wx P 31 (dv A6 n6 c6 dd) ∧ Blk wx Q 34 (av A7 n7 c7 ee) ∧ Ents wx A6 n6 dd.L ∧ Ents wx A7 n7 ee.d.L))
      case first =>
        have HS0 : Hid (W5.drew.cell? ⟨X, 0, none⟩ = some (.pointer (some ⟨g1, 0, none⟩)) ∧ W5.drew.cell? ⟨X + 1, 0, none⟩ = some (.pointer (some ⟨g2, 0, none⟩))) := Lib.hid ⟨HRD.out.v1.cell 0, HRD.out.v2.cell 0⟩
        refine wp_region_held_drew (S := fun w' => w'.cell? ⟨X, 0, none⟩ = some (.pointer (some ⟨g1, 0, none⟩)) ∧ w'.cell? ⟨X + 1, 0, none⟩ = some (.pointer (some ⟨g2, 0, none⟩))) (by kernel_rfl) HS0.out (fun hHeld => ?_)
        refine wpAnyH_take (i := 0) (v := ?va0) rfl (by kernel_rfl) (by kernel_rfl) (by kernel_rfl) (fun _ _ _ h => h) (Or.inl ⟨by rfl, ?ya0⟩) hHeld ?ra0
        case ya0 => (intro w' hSw; obtain ⟨z7, z8⟩ := hSw; go_simp; try with_reducible rfl)
        simp only [Act.put, List.getElem_toArray, List.getElem_cons_succ, List.getElem_cons_zero, List.setIfInBounds_toArray, List.set_cons_zero, List.set_cons_succ]
        refine wpAnyH_take (i := 2) (v := ?va2) rfl (by kernel_rfl) (by kernel_rfl) (by kernel_rfl) (fun _ _ _ h => h) (Or.inl ⟨by rfl, ?ya2⟩) hHeld ?ra2
        case ya2 => (intro w' hSw; obtain ⟨z7, z8⟩ := hSw; go_simp; try with_reducible rfl)
        simp only [Act.put, List.getElem_toArray, List.getElem_cons_succ, List.getElem_cons_zero, List.setIfInBounds_toArray, List.set_cons_zero, List.set_cons_succ]
        refine Ao.wpAnyH_vals [38, 40, 9, 10] [u38, u40, u9, u10] (fun L vs w' => ∃ s1 s3' s4 s5, vs = [s1, s3', s4, s5] ∧ L 0 = true ∧ L 2 = true ∧ Two dd ee W5.heap.size (fun L w' => Rds wr.heap.size w4.heap.size g1 g2 X (if L 1 = true then s2 else ⟨xs, 0, 0⟩) (if L 3 = true then s3 else ⟨xs, 0, 0⟩) WB w') L s1 s3' s4 s5 w') rfl rfl (by decide) (by kernel_rfl) ?ha0 ?haS ?has ?hae
        case ha0 => exact ⟨_, _, _, _, rfl, rfl, rfl, ⟨HRD.out.still ((Keeps.refl _ _).drewN 1), Nat.le_refl _, fun h => by simp at h, fun h => by simp at h, fun h => by simp at h, fun h => by simp at h, fun h => by simp at h, fun h => by simp at h, fun h => by simp at h, fun h => by simp at h, fun h => by simp at h, fun h => by simp at h⟩⟩
        case haS => exact fun L vs w' ⟨_, _, _, _, _, _, _, h⟩ => ⟨h.x.v1.cell 0, h.x.v2.cell 0⟩
        case has =>
          rintro L vs w' i op ⟨s1, s3', s4, s5, rfl, hL0, hL2, hT⟩ hLi hop hall
          have hi : i < 8 := (Array.getElem?_eq_some_iff.1 hop).1
          have hn0 : i ≠ 0 := fun e => by rw [e, hL0] at hLi; cases hLi
          have hn2 : i ≠ 2 := fun e => by rw [e, hL2] at hLi; cases hLi
          obtain rfl | rfl | rfl | rfl | rfl | rfl : i = 1 ∨ i = 3 ∨ i = 4 ∨ i = 5 ∨ i = 6 ∨ i = 7 := by omega
          all_goals simp only [List.getElem?_toArray, List.getElem?_cons_succ, List.getElem?_cons_zero, Option.some.injEq] at hop
          all_goals subst hop
          all_goals simp [Region.binds] at hall
          all_goals simp only [Ao.puts, Act.put, List.getElem_toArray, List.getElem_cons_succ, List.getElem_cons_zero, List.setIfInBounds_toArray, List.set_cons_zero, List.set_cons_succ]
          · have hx : Rds wr.heap.size w4.heap.size g1 g2 X ⟨xs, 0, 0⟩ (if L 3 = true then s3 else ⟨xs, 0, 0⟩) WB w' := by have h := hT.x; rw [hLi] at h; exact h
            have HX := Lib.hid hx
            clear hx
            refine wpOp_step rfl ?_
            intro K' hK
            have HK := Lib.hid hK
            have HT := Lib.hid hT
            clear hK hT
            go_simp
            go_at_call 20
            refine (HTI.out _ HX.out.r1).mono ?_
            rintro e w6 ⟨A, n', rfl, hE, _, hA, hr, hk⟩
            go_simp
            exact HK.out _ _ ⟨[_, _, _, _], rfl, _, _, _, _, rfl, by simpa using hL0, by simpa using hL2, HT.out.call1 hLi hk (fun j hj e => by have := HX.out.g12; have := HX.out.gx; have := HXS.out; omega) (HX.out.t1 hr hk) hE hA⟩
          · have hx : Rds wr.heap.size w4.heap.size g1 g2 X (if L 1 = true then s2 else ⟨xs, 0, 0⟩) ⟨xs, 0, 0⟩ WB w' := by have h := hT.x; rw [hLi] at h; exact h
            have HX := Lib.hid hx
            clear hx
            refine wpOp_step rfl ?_
            intro K' hK
            have HK := Lib.hid hK
            have HT := Lib.hid hT
            clear hK hT
            go_simp
            go_at_call 22
            refine (HTA.out _ HX.out.r2).mono ?_
            rintro e w6 ⟨A, n', rfl, hE, _, hA, hr, hk⟩
            go_simp
            exact HK.out _ _ ⟨[_, _, _, _], rfl, _, _, _, _, rfl, by simpa using hL0, by simpa using hL2, HT.out.call3 hLi hk (fun j hj e => by have := HX.out.g12; have := HX.out.gx; have := HXS.out; omega) (HX.out.t2 hr hk) hE hA⟩
          · refine wpOp_step rfl ?_
            intro K' hK
            have HK := Lib.hid hK
            have HT := Lib.hid hT
            clear hK hT
            go_simp
            exact HK.out _ _ ⟨[_, _, _, _], rfl, _, _, _, _, rfl, by simpa using hL0, by simpa using hL2, HT.out.new4 hLi (HT.out.x.still ((Keeps.refl _ _).alloc _))⟩
          · refine wpOp_step rfl ?_
            intro K' hK
            have HK := Lib.hid hK
            have HT := Lib.hid hT
            clear hK hT
            go_simp
            exact HK.out _ _ ⟨[_, _, _, _], rfl, _, _, _, _, rfl, by simpa using hL0, by simpa using hL2, HT.out.new5 hLi (HT.out.x.still ((Keeps.refl _ _).alloc _))⟩
          · obtain ⟨A, n', c', e1, _⟩ := hT.i (by simp [hall])
            obtain ⟨p, cs, e2, hp, hb, hz, _⟩ := hT.v (by simp [hall])
            have hz := hz hLi
            subst hz
            have h1 : L 1 = true := by simp [hall]
            have h3 : L 3 = true := by simp [hall]
            have h4 : L 4 = true := by simp [hall]
            have h5 : L 5 = true := by simp [hall]
            subst e1
            subst e2
            have HB := Lib.hid hb
            unfold z5 at hb
            have y0 := hb.cell 0
            have y1 := hb.cell 1
            have y2 := hb.cell 2
            have y3 := hb.cell 3
            have y4 := hb.cell 4
            simp only [List.getElem?_toArray, List.getElem?_cons_zero, List.getElem?_cons_succ] at y0 y1 y2 y3 y4
            have f0 := hb.frozen 0
            have f1 := hb.frozen 1
            have f2 := hb.frozen 2
            have f3 := hb.frozen 3
            have f4 := hb.frozen 4
            refine wpOp_step rfl ?_
            intro K' hK
            have HK := Lib.hid hK
            have HT := Lib.hid hT
            clear hK hT
            clear hb
            unfold dv
            go_simp
            exact HK.out _ _ ⟨[_, _, _, _], rfl, _, _, _, _, rfl, by simpa using hL0, by simpa using hL2, HT.out.put6 h1 h3 h4 h5 rfl rfl (keeps5 _ _ _ _ _ _ _) (put5 HB.out _ _ _ _ _) (HT.out.x.far (keeps5 _ _ _ _ _ _ _) (by have := HXS.out; omega))⟩
          · obtain ⟨A, n', c', e1, _⟩ := hT.e (by simp [hall])
            obtain ⟨p, cs, e2, hp, hb, hz, _⟩ := hT.u (by simp [hall])
            have hz := hz hLi
            subst hz
            have h1 : L 1 = true := by simp [hall]
            have h3 : L 3 = true := by simp [hall]
            have h4 : L 4 = true := by simp [hall]
            have h5 : L 5 = true := by simp [hall]
            subst e1
            subst e2
            have HB := Lib.hid hb
            unfold z8 at hb
            have y0 := hb.cell 0
            have y1 := hb.cell 1
            have y2 := hb.cell 2
            have y3 := hb.cell 3
            have y4 := hb.cell 4
            have y5 := hb.cell 5
            have y6 := hb.cell 6
            have y7 := hb.cell 7
            simp only [List.getElem?_toArray, List.getElem?_cons_zero, List.getElem?_cons_succ] at y0 y1 y2 y3 y4 y5 y6 y7
            have f0 := hb.frozen 0
            have f1 := hb.frozen 1
            have f2 := hb.frozen 2
            have f3 := hb.frozen 3
            have f4 := hb.frozen 4
            have f5 := hb.frozen 5
            have f6 := hb.frozen 6
            have f7 := hb.frozen 7
            refine wpOp_step rfl ?_
            intro K' hK
            have HK := Lib.hid hK
            have HT := Lib.hid hT
            clear hK hT
            clear hb
            unfold av
            go_simp
            exact HK.out _ _ ⟨[_, _, _, _], rfl, _, _, _, _, rfl, by simpa using hL0, by simpa using hL2, HT.out.put7 h1 h3 h4 h5 rfl rfl (keeps8 _ _ _ _ _ _ _ _ _ _) (put8 HB.out _ _ _ _ _ _ _ _) (HT.out.x.far (keeps8 _ _ _ _ _ _ _ _ _ _) (by have := HXS.out; omega))⟩
        case hae =>
          rintro L vs w' ⟨s1, s3', s4, s5, rfl, _, _, hT⟩ hL
          have hx : Rds wr.heap.size w4.heap.size g1 g2 X s2 s3 WB w' := by have h := hT.x; rw [hL 1 (by decide), hL 3 (by decide)] at h; exact h
          have HX := Lib.hid hx
          obtain ⟨P, Q, A6, n6, c6, A7, n7, c7, rfl, rfl, q1, q2, q3, q4, _, _, _, _⟩ := hT.done hL
          clear hx hT
          simp only [Ao.puts, Act.put, List.getElem_toArray, List.getElem_cons_succ, List.getElem_cons_zero, List.setIfInBounds_toArray, List.set_cons_zero, List.set_cons_succ]
          go_wp2_with fail
          go_meet
          exact ⟨P, Q, A6, n6, c6, A7, n7, c7, rfl, rfl, Lib.hid ⟨HX.out, q1, q2, q3, q4⟩⟩
      case rest =>
        obtain ⟨P, Q, A6, n6, c6, A7, n7, c7, rfl, rfl, HW⟩ := hcut
        obtain ⟨W9, hW9⟩ : ∃ W, W = wc := ⟨_, rfl⟩
        rw [← hW9] at HW ⊢
        clear hW9 HRD HTI HTA HXS
        go_upto_region 11 with fail
        obtain ⟨G, hG⟩ : ∃ G, W9.heap.size = G := ⟨_, rfl⟩
        have e1 : (W9.alloc (.cells #[.slice none 0 0] 40)).heap.size = G + 1 := by rw [← hG]; simp
        have HR1 : Hid (IsWr G G (.slice none 0 0) [] ((W9.alloc (.cells #[.slice none 0 0] 40)).alloc (.cells #[.slice none 0 0] 40))) := by
          have h1 := new_of 40 (by decide) W9
          rw [hG] at h1
          exact Lib.hid (h1.keeps ((Keeps.refl (fun _ => False) _).alloc _) (fun _ _ => id))
        have HR2 : Hid (IsWr (G + 1) (G + 1) (.slice none 0 0) [] ((W9.alloc (.cells #[.slice none 0 0] 40)).alloc (.cells #[.slice none 0 0] 40))) := by
          have h1 := new_of 40 (by decide) (W9.alloc (.cells #[.slice none 0 0] 40))
          rw [e1] at h1
          exact Lib.hid h1
        have HK6 : Hid (Keeps (fun _ => False) W9 ((W9.alloc (.cells #[.slice none 0 0] 40)).alloc (.cells #[.slice none 0 0] 40))) := Lib.hid (((Keeps.refl _ _).alloc _).alloc _)
        generalize ((W9.alloc (.cells #[.slice none 0 0] 40)).alloc (.cells #[.slice none 0 0] 40)) = W6 at HR1 HR2 HK6 ⊢
        clear e1
        have HGW : Hid (W9.heap.size = G) := Lib.hid hG
        rw [hG]
        clear hG
        have z7 := (HW.out.1.v1.keeps HK6.out id).cell 0
        simp only [List.getElem?_toArray, List.getElem?_cons_zero, List.getElem?_cons_succ] at z7
        go_upto_if 48 with (
          go_at_call 27
          refine (err g1 s2 wr.heap.size _ (HW.out.1.r1.keeps HK6.out (fun _ _ => id))).mono ?_
          rintro e w7 ⟨rfl, rfl⟩)
        obtain ⟨tt, htt⟩ : ∃ t, (s2.e == 0) = t := ⟨_, rfl⟩
        rw [htt]
        have HTT := Lib.hid htt
        clear htt
        go_cut [] from 49 to 71 (fun wx => Hid (Keeps (fun _ => False) W9 wx ∧ IsWr (G + 1) (G + 1) (.slice none 0 0) [] wx))
        case first =>
          cases tt with
          | true =>
            have he : s2.e = 0 := by have := HTT.out; simpa using this
            obtain ⟨kk, hkk⟩ : ∃ k, s2.k = k := ⟨_, rfl⟩
            obtain ⟨hg1, hg2, hg3, hg4⟩ := HGI.out.2.2.1 he
            have hgx := HGI.out.2.1
            clear he
            have hkl : s2.k ≤ s2.xs.length := HW.out.1.r1.2.1.1
            simp only [List.drop_zero, Nat.sub_zero] at hg4
            rw [hgx, hkk] at hkl
            rw [hkk] at hg4
            have hzl : (xs.take kk).length = kk := by rw [List.length_take]; omega
            obtain ⟨zs, hzs⟩ : ∃ zs, xs.take kk = zs := ⟨_, rfl⟩
            rw [hzs] at hg4 hzl
            have HZS := Lib.hid hzs
            have HZL := Lib.hid hzl
            have HCH := Lib.hid hg1
            have HBY := Lib.hid hg4
            have HKK := Lib.hid hkk
            have hkn : kk ≤ n := by have := HXN.out; omega
            have hkc : kk ≤ c := by have := HNC.out; omega
            have hkb : kk ≤ 300 := by have := HNN.out; omega
            clear hg1 hg2 hg3 hg4 hgx hkl hzl hzs
            have HPU := Lib.hid (fun W h h2 h3 h4 => put_i G G (.slice none 0 0) [] A6 n6 c6 dd W h h2 h3 h4 HCH.out)
            unfold dv at HPU
            have HAT : Hid (∀ W, IsRd wr.heap.size g1 s2 W → Calls Try.prog 28 #[.pointer (some ⟨g1, 0, none⟩)] W fun r w' => r = .returned (.int .i64 (kk : Int)) ∧ w' = W) := fun W h => (at_q g1 s2 wr.heap.size W h).mono fun r w' ⟨h1, h2⟩ => ⟨by rw [h1, HKK.out], h2⟩
            have hcut := fun w => run_cut_to (P := Try.prog) 24 5 A n c kk .i64 Try.underlying24 Try.sizeOf5 hkc w
            have hlc := HLX.out.cutAt c 0 kk (by rw [HXN.out]; have := HNC.out; omega) (by rw [HXN.out]; have := HNC.out; omega)
            rw [List.drop_zero, HZS.out] at hlc
            generalize cutAt A c 0 = AC at hcut hlc
            have HLC := Lib.hid hlc
            obtain ⟨sZ, hsZ⟩ : ∃ s, s = strOfNums zs := ⟨_, rfl⟩
            have HSZ := Lib.hid hsZ
            clear hlc hsZ hkk
            go_upto_region 12 with fail
            refine wp_region_held_drew (S := fun w' => Keeps (fun j => j = G) W6 w') (by kernel_rfl) ((Keeps.refl _ _).drewN 1) (fun hHeld => ?_)
            have HKA : Hid (Keeps (fun _ => False) W9 W6.drew) := Lib.hid (HK6.out.drewN 1)
            have HWA : Hid (IsWr G G (.slice none 0 0) [] W6.drew) := Lib.hid (HR1.out.keeps ((Keeps.refl (fun _ => False) _).drewN 1) (fun _ _ => id))
            have HWB : Hid (IsWr (G + 1) (G + 1) (.slice none 0 0) [] W6.drew) := Lib.hid (HR2.out.keeps ((Keeps.refl (fun _ => False) _).drewN 1) (fun _ _ => id))
            generalize W6.drew = w10 at hHeld HKA HWA HWB ⊢
            refine Ao.wpAnyH_as (S' := fun w' => Keeps (fun j => j = G) w10 w') (fun w' k => hHeld.trans k) _ _ _ _ ?_
            replace hHeld : Keeps (fun j => j = G) w10 w10 := Keeps.refl _ _
            refine wpAnyH_take (i := 0) (v := ?vat0) rfl (by kernel_rfl) (by kernel_rfl) (by kernel_rfl) (fun _ _ _ h => h) (Or.inl ⟨by rfl, ?yat0⟩) hHeld ?rat0
            case yat0 => (intro w' hSw; have hb := HW.out.2.1.keeps (keeps_high HKA.out hSw (by rw [HGW.out]; omega)) id; have i0 := hb.cell 0; have i1 := hb.cell 1; have i2 := hb.cell 2; have i3 := hb.cell 3; have i4 := hb.cell 4; unfold dv at i0 i1 i2 i3 i4; simp only [List.getElem?_toArray, List.getElem?_cons_zero, List.getElem?_cons_succ] at i0 i1 i2 i3 i4; go_simp; try with_reducible rfl)
            simp only [Act.put, List.getElem_toArray, List.getElem_cons_succ, List.getElem_cons_zero, List.setIfInBounds_toArray, List.set_cons_zero, List.set_cons_succ]
            refine wpAnyH_take (i := 1) (v := ?vat1) rfl (by kernel_rfl) (by kernel_rfl) (by kernel_rfl) (fun _ _ _ h => h) (Or.inl ⟨by rfl, ?yat1⟩) hHeld ?rat1
            case yat1 => (intro w' hSw; go_simp; try with_reducible rfl)
            simp only [Act.put, List.getElem_toArray, List.getElem_cons_succ, List.getElem_cons_zero, List.setIfInBounds_toArray, List.set_cons_zero, List.set_cons_succ]
            refine wpAnyH_ready (rs := [2]) (by kernel_rfl) (by simp) ?_
            refine AllReadyH.cons rfl (fun K hK => ?_) AllReadyH.nil
            go_simp
            refine (HPU.out _ HWA.out (HW.out.2.2.2.1.more HKA.out) (ents_far HW.out.2.2.2.1 (by rw [HGW.out]; omega)) (by simp)).mono ?_
            rintro e w11 ⟨rfl, hw⟩
            obtain ⟨⟨v1, h1⟩, h2⟩ := hw.all (Nat.le_refl _) rfl
            rw [List.nil_append, HBY.out] at h1
            have HV1 := Lib.hid h1
            have HKB := Lib.hid (keeps_high HKA.out h2 (by rw [HGW.out]; omega))
            have HWC : Hid (IsWr (G + 1) (G + 1) (.slice none 0 0) [] w11) := Lib.hid (HWB.out.keeps h2 (fun b hb e => by rcases hb with hb | hb; omega; cases hb))
            dsimp only
            refine hK.out _ _ (hHeld.trans h2) (fun hHeld => ?_)
            clear hK K
            try simp only [Act.put, List.getElem_toArray, List.getElem_cons_succ, List.getElem_cons_zero, List.setIfInBounds_toArray, List.set_cons_zero, List.set_cons_succ]
            refine Ao.wpAnyH_as (S' := fun w' => Keeps (fun j => j = G) w11 w') (fun w' k => hHeld.trans k) _ _ _ _ ?_
            replace hHeld : Keeps (fun j => j = G) w11 w11 := Keeps.refl _ _
            clear hw h1 h2 HKA; have HKA := HKB; clear HKB
            refine wpAnyH_take (i := 3) (v := ?vat3) rfl (by kernel_rfl) (by kernel_rfl) (by kernel_rfl) (fun _ _ _ h => h) (Or.inl ⟨by rfl, ?yat3⟩) hHeld ?rat3
            case yat3 => (intro w' hSw; go_simp; try with_reducible rfl)
            simp only [Act.put, List.getElem_toArray, List.getElem_cons_succ, List.getElem_cons_zero, List.setIfInBounds_toArray, List.set_cons_zero, List.set_cons_succ]
            refine wpAnyH_take (i := 4) (v := ?vat4) rfl (by kernel_rfl) (by kernel_rfl) (by kernel_rfl) (fun _ _ _ h => h) (Or.inl ⟨by rfl, ?yat4⟩) hHeld ?rat4
            case yat4 => (intro w' hSw; go_simp; try with_reducible rfl)
            simp only [Act.put, List.getElem_toArray, List.getElem_cons_succ, List.getElem_cons_zero, List.setIfInBounds_toArray, List.set_cons_zero, List.set_cons_succ]
            refine wpAnyH_take (i := 5) (v := ?vat5) rfl (by kernel_rfl) (by kernel_rfl) (by kernel_rfl) (fun _ _ _ h => h) (Or.inl ⟨by rfl, ?yat5⟩) hHeld ?rat5
            case yat5 => (intro w' hSw; go_simp; try with_reducible rfl)
            simp only [Act.put, List.getElem_toArray, List.getElem_cons_succ, List.getElem_cons_zero, List.setIfInBounds_toArray, List.set_cons_zero, List.set_cons_succ]
            refine wpAnyH_take (i := 6) (v := ?vat6) rfl (by kernel_rfl) (by kernel_rfl) (by kernel_rfl) (fun _ _ _ h => h) (Or.inl ⟨by rfl, ?yat6⟩) hHeld ?rat6
            case yat6 => (intro w' hSw; go_simp; try with_reducible rfl)
            simp only [Act.put, List.getElem_toArray, List.getElem_cons_succ, List.getElem_cons_zero, List.setIfInBounds_toArray, List.set_cons_zero, List.set_cons_succ]
            refine wpAnyH_take (i := 7) (v := ?vat7) rfl (by kernel_rfl) (by kernel_rfl) (by kernel_rfl) (fun _ _ _ h => h) (Or.inl ⟨by rfl, ?yat7⟩) hHeld ?rat7
            case yat7 => (intro w' hSw; go_simp; try with_reducible rfl)
            simp only [Act.put, List.getElem_toArray, List.getElem_cons_succ, List.getElem_cons_zero, List.setIfInBounds_toArray, List.set_cons_zero, List.set_cons_succ]
            refine wpAnyH_take (i := 10) (v := ?vat10) rfl (by kernel_rfl) (by kernel_rfl) (by kernel_rfl) (fun _ _ _ h => h) (Or.inl ⟨by rfl, ?yat10⟩) hHeld ?rat10
            case yat10 => (intro w' hSw; go_simp; try with_reducible rfl)
            simp only [Act.put, List.getElem_toArray, List.getElem_cons_succ, List.getElem_cons_zero, List.setIfInBounds_toArray, List.set_cons_zero, List.set_cons_succ]
            refine wpAnyH_take (i := 11) (v := ?vat11) rfl (by kernel_rfl) (by kernel_rfl) (by kernel_rfl) (fun _ _ _ h => h) (Or.inl ⟨by rfl, ?yat11⟩) hHeld ?rat11
            case yat11 => (intro w' hSw; go_simp; try with_reducible rfl)
            simp only [Act.put, List.getElem_toArray, List.getElem_cons_succ, List.getElem_cons_zero, List.setIfInBounds_toArray, List.set_cons_zero, List.set_cons_succ]
            refine wpAnyH_take (i := 12) (v := ?vat12) rfl (by kernel_rfl) (by kernel_rfl) (by kernel_rfl) (fun _ _ _ h => h) (Or.inl ⟨by rfl, ?yat12⟩) hHeld ?rat12
            case yat12 => (intro w' hSw; have hb := HW.out.1.v1.keeps (keeps_high HKA.out hSw (by rw [HGW.out]; omega)) id; have i0 := hb.cell 0; simp only [List.getElem?_toArray, List.getElem?_cons_zero, List.getElem?_cons_succ] at i0; go_simp; try with_reducible rfl)
            simp only [Act.put, List.getElem_toArray, List.getElem_cons_succ, List.getElem_cons_zero, List.setIfInBounds_toArray, List.set_cons_zero, List.set_cons_succ]
            refine wpAnyH_ready (rs := [8]) (by kernel_rfl) (by simp) ?_
            refine AllReadyH.cons rfl (fun K hK => ?_) AllReadyH.nil
            go_simp
            refine (bytes_n G G v1 zs kk _ HZL.out HV1.out).mono ?_
            rintro e w12 ⟨A2, c2, rfl, hv, hk⟩
            have HKB := Lib.hid (HKA.out.trans hk)
            have HO := Lib.hid hv
            have HWG := Lib.hid (HV1.out.keeps hk (fun _ _ => id))
            have HWD := Lib.hid (HWC.out.keeps hk (fun _ _ => id))
            dsimp only
            refine hK.out _ _ (hHeld.trans hk.none_) (fun hHeld => ?_)
            clear hK K
            try simp only [Act.put, List.getElem_toArray, List.getElem_cons_succ, List.getElem_cons_zero, List.setIfInBounds_toArray, List.set_cons_zero, List.set_cons_succ]
            refine Ao.wpAnyH_as (S' := fun w' => Keeps (fun j => j = G) w12 w') (fun w' k => hHeld.trans k) _ _ _ _ ?_
            replace hHeld : Keeps (fun j => j = G) w12 w12 := Keeps.refl _ _
            clear hv hk HKA; have HKA := HKB; clear HKB
            have HC1 : Hid (∀ w', Keeps (fun j => j = G) w12 w' → (convert 24 9 (.slice A2 kk c2)).run Try.prog w' = .ok (.string sZ) w') := by
              intro w' k
              obtain ⟨t, ht, hb⟩ := HWG.out.2.2.2.2.1
              rw [HSZ.out]
              exact (Lies.of_own (own_keeps HO.out k (fun b hb' e => own_ne HO.out hb (Ne.symm ht) (by rw [hb', e])))).str_n (P := Try.prog) kk HZL.out 24 9 5 c2 Try.underlying24 Try.underlying5 Try.underlying9
            have HC2 : Hid (∀ w', Keeps (fun j => j = G) w12 w' → (convert 24 9 (.slice AC kk c)).run Try.prog w' = .ok (.string sZ) w') := by
              intro w' hSw
              rw [HSZ.out]
              exact (HLC.out.keeps (HW.out.1.keeps.trans (keeps_high HKA.out hSw (by rw [HGW.out]; omega))) (fun _ _ _ => id)).str_n (P := Try.prog) kk HZL.out 24 9 5 c Try.underlying24 Try.underlying5 Try.underlying9
            refine wpAnyH_take (i := 9) (v := ?vat9) rfl (by kernel_rfl) (by kernel_rfl) (by kernel_rfl) (fun _ _ _ h => h) (Or.inl ⟨by rfl, ?yat9⟩) hHeld ?rat9
            case yat9 => (intro w' hSw; have hcv := HC1.out w' hSw; go_simp; try with_reducible rfl)
            simp only [Act.put, List.getElem_toArray, List.getElem_cons_succ, List.getElem_cons_zero, List.setIfInBounds_toArray, List.set_cons_zero, List.set_cons_succ]
            refine wpAnyH_ready (rs := [13]) (by kernel_rfl) (by simp) ?_
            refine AllReadyH.cons rfl (fun K hK => ?_) AllReadyH.nil
            go_simp
            refine (HAT.out _ (HW.out.1.r1.keeps HKA.out (fun _ _ => id))).mono ?_
            rintro e w13 ⟨rfl, rfl⟩
            dsimp only
            refine hK.out _ _ hHeld (fun hHeld => ?_)
            clear hK K
            try simp only [Act.put, List.getElem_toArray, List.getElem_cons_succ, List.getElem_cons_zero, List.setIfInBounds_toArray, List.set_cons_zero, List.set_cons_succ]
            refine wpAnyH_take (i := 14) (v := ?vat14) rfl (by kernel_rfl) (by kernel_rfl) (by kernel_rfl) (fun _ _ _ h => h) (Or.inl ⟨by rfl, ?yat14⟩) hHeld ?rat14
            case yat14 => (intro w' hSw; have hcv := hcut w'; go_simp; try with_reducible rfl)
            simp only [Act.put, List.getElem_toArray, List.getElem_cons_succ, List.getElem_cons_zero, List.setIfInBounds_toArray, List.set_cons_zero, List.set_cons_succ]
            refine wpAnyH_take (i := 15) (v := ?vat15) rfl (by kernel_rfl) (by kernel_rfl) (by kernel_rfl) (fun _ _ _ h => h) (Or.inl ⟨by rfl, ?yat15⟩) hHeld ?rat15
            case yat15 => (intro w' hSw; have hcv := HC2.out w' hSw; go_simp; try with_reducible rfl)
            simp only [Act.put, List.getElem_toArray, List.getElem_cons_succ, List.getElem_cons_zero, List.setIfInBounds_toArray, List.set_cons_zero, List.set_cons_succ]
            refine wpAnyH_take (i := 16) (v := ?vat16) rfl (by kernel_rfl) (by kernel_rfl) (by kernel_rfl) (fun _ _ _ h => h) (Or.inl ⟨by rfl, ?yat16⟩) hHeld ?rat16
            case yat16 => (intro w' hSw; go_simp; try with_reducible rfl)
            simp only [Act.put, List.getElem_toArray, List.getElem_cons_succ, List.getElem_cons_zero, List.setIfInBounds_toArray, List.set_cons_zero, List.set_cons_succ]
            refine wpAnyH_take (i := 17) (v := ?vat17) rfl (by kernel_rfl) (by kernel_rfl) (by kernel_rfl) (fun _ _ _ h => h) (Or.inl ⟨by rfl, ?yat17⟩) hHeld ?rat17
            case yat17 => (intro w' hSw; go_simp; try with_reducible rfl)
            simp only [Act.put, List.getElem_toArray, List.getElem_cons_succ, List.getElem_cons_zero, List.setIfInBounds_toArray, List.set_cons_zero, List.set_cons_succ]
            refine wpAnyH_done (by kernel_rfl) ?_ _
            clear hHeld
            go_wp2_with fail
            go_meet
            exact Lib.hid ⟨HKA.out, HWD.out⟩
          | false =>
            have he : s2.e ≠ 0 := by have := HTT.out; simpa using this
            have hdd : dd = D0 := HGI.out.2.2.2 he
            subst hdd
            have HSM : Hid (∀ W, Ents W A6 n6 D0.L → Calls Try.prog 19 #[.agg (dv A6 n6 c6 D0), .agg (dv none 0 0 D0)] W fun r w' => r = .returned (.bool true) ∧ Keeps (fun _ => False) W w') := fun W h => by have := same_i A6 none n6 0 c6 0 D0 D0 W h ⟨.inl rfl, rfl, by omega⟩; rwa [sameI_self] at this
            unfold dv D0 at HSM
            simp only at HSM
            have hb := HW.out.2.1.keeps HK6.out id
            have i0 := hb.cell 0
            have i1 := hb.cell 1
            have i2 := hb.cell 2
            have i3 := hb.cell 3
            have i4 := hb.cell 4
            unfold dv D0 at i0 i1 i2 i3 i4
            simp only [List.getElem?_toArray, List.getElem?_cons_zero, List.getElem?_cons_succ] at i0 i1 i2 i3 i4
            clear hb
            go_wp2_with (
              go_at_call 19
              refine (HSM.out _ (HW.out.2.2.2.1.more HK6.out)).mono ?_
              rintro e w14 ⟨rfl, hk⟩
              have HKZ := Lib.hid (HK6.out.trans hk)
              have HWZ := Lib.hid (HR2.out.keeps hk (fun _ _ => id))
              clear hk)
            go_meet
            exact Lib.hid ⟨HKZ.out, HWZ.out⟩
        case rest =>
          have HCU := Lib.hid hcut.out
          obtain ⟨w20, hw20⟩ : ∃ W, W = wc := ⟨_, rfl⟩
          rw [← hw20] at HCU ⊢
          have HK20 := Lib.hid HCU.out.1
          have HR20 := Lib.hid HCU.out.2
          clear hcut hw20 HCU HR1 HR2 HK6 z7
          have z8 := (HW.out.1.v2.keeps HK20.out id).cell 0
          simp only [List.getElem?_toArray, List.getElem?_cons_zero, List.getElem?_cons_succ] at z8
          go_upto_if 74 with (
            go_at_call 27
            refine (err g2 s3 w4.heap.size _ (HW.out.1.r2.keeps HK20.out (fun _ _ => id))).mono ?_
            rintro e w7 ⟨rfl, rfl⟩)
          clear HTT
          obtain ⟨tt, htt⟩ : ∃ t, (s3.e == 0) = t := ⟨_, rfl⟩
          rw [htt]
          have HTT := Lib.hid htt
          clear htt
          cases tt with
          | true =>
            have he : s3.e = 0 := by have := HTT.out; simpa using this
            obtain ⟨kk, hkk⟩ : ∃ k, s3.k = k := ⟨_, rfl⟩
            obtain ⟨hg1, hg2, hg3, hg4⟩ := HGA.out.1 he
            have hgx := HGX.out he
            clear he
            have hkl : s3.k ≤ s3.xs.length := HW.out.1.r2.2.1.1
            simp only [List.drop_zero, Nat.sub_zero] at hg4
            rw [hgx, hkk] at hkl
            rw [hkk] at hg4
            have hzl : (xs.take kk).length = kk := by rw [List.length_take]; omega
            obtain ⟨zs, hzs⟩ : ∃ zs, xs.take kk = zs := ⟨_, rfl⟩
            rw [hzs] at hg4 hzl
            have HZS := Lib.hid hzs
            have HZL := Lib.hid hzl
            have HCH := Lib.hid hg1
            have HBY := Lib.hid hg4
            have HKK := Lib.hid hkk
            have hkn : kk ≤ n := by have := HXN.out; omega
            have hkc : kk ≤ c := by have := HNC.out; omega
            have hkb : kk ≤ 300 := by have := HNN.out; omega
            clear hg1 hg2 hg3 hg4 hgx hkl hzl hzs
            have HPU := Lib.hid (fun W h h2 h3 h4 => put_a (G + 1) (G + 1) (.slice none 0 0) [] A7 n7 c7 ee W h h2 h3 h4 HCH.out)
            unfold av at HPU
            have HAT : Hid (∀ W, IsRd w4.heap.size g2 s3 W → Calls Try.prog 28 #[.pointer (some ⟨g2, 0, none⟩)] W fun r w' => r = .returned (.int .i64 (kk : Int)) ∧ w' = W) := fun W h => (at_q g2 s3 w4.heap.size W h).mono fun r w' ⟨h1, h2⟩ => ⟨by rw [h1, HKK.out], h2⟩
            have hcut := fun w => run_cut_to (P := Try.prog) 24 5 A n c kk .i64 Try.underlying24 Try.sizeOf5 hkc w
            have hlc := HLX.out.cutAt c 0 kk (by rw [HXN.out]; have := HNC.out; omega) (by rw [HXN.out]; have := HNC.out; omega)
            rw [List.drop_zero, HZS.out] at hlc
            generalize cutAt A c 0 = AC at hcut hlc
            have HLC := Lib.hid hlc
            obtain ⟨sZ, hsZ⟩ : ∃ s, s = strOfNums zs := ⟨_, rfl⟩
            have HSZ := Lib.hid hsZ
            clear hlc hsZ hkk
            go_upto_region 17 with fail
            refine wp_region_held_drew (S := fun w' => Keeps (fun j => j = (G + 1)) w20 w') (by kernel_rfl) ((Keeps.refl _ _).drewN 1) (fun hHeld => ?_)
            have HKA : Hid (Keeps (fun _ => False) W9 w20.drew) := Lib.hid (HK20.out.drewN 1)
            have HWA : Hid (IsWr (G + 1) (G + 1) (.slice none 0 0) [] w20.drew) := Lib.hid (HR20.out.keeps ((Keeps.refl (fun _ => False) _).drewN 1) (fun _ _ => id))
            generalize w20.drew = w10 at hHeld HKA HWA ⊢
            refine Ao.wpAnyH_as (S' := fun w' => Keeps (fun j => j = (G + 1)) w10 w') (fun w' k => hHeld.trans k) _ _ _ _ ?_
            replace hHeld : Keeps (fun j => j = (G + 1)) w10 w10 := Keeps.refl _ _
            refine wpAnyH_take (i := 0) (v := ?vbt0) rfl (by kernel_rfl) (by kernel_rfl) (by kernel_rfl) (fun _ _ _ h => h) (Or.inl ⟨by rfl, ?ybt0⟩) hHeld ?rbt0
            case ybt0 => (intro w' hSw; have hb := HW.out.2.2.1.keeps (keeps_high HKA.out hSw (by rw [HGW.out]; omega)) id; have i0 := hb.cell 0; have i1 := hb.cell 1; have i2 := hb.cell 2; have i3 := hb.cell 3; have i4 := hb.cell 4; have i5 := hb.cell 5; have i6 := hb.cell 6; have i7 := hb.cell 7; unfold av at i0 i1 i2 i3 i4 i5 i6 i7; simp only [List.getElem?_toArray, List.getElem?_cons_zero, List.getElem?_cons_succ] at i0 i1 i2 i3 i4 i5 i6 i7; go_simp; try with_reducible rfl)
            simp only [Act.put, List.getElem_toArray, List.getElem_cons_succ, List.getElem_cons_zero, List.setIfInBounds_toArray, List.set_cons_zero, List.set_cons_succ]
            refine wpAnyH_take (i := 1) (v := ?vbt1) rfl (by kernel_rfl) (by kernel_rfl) (by kernel_rfl) (fun _ _ _ h => h) (Or.inl ⟨by rfl, ?ybt1⟩) hHeld ?rbt1
            case ybt1 => (intro w' hSw; go_simp; try with_reducible rfl)
            simp only [Act.put, List.getElem_toArray, List.getElem_cons_succ, List.getElem_cons_zero, List.setIfInBounds_toArray, List.set_cons_zero, List.set_cons_succ]
            refine wpAnyH_ready (rs := [2]) (by kernel_rfl) (by simp) ?_
            refine AllReadyH.cons rfl (fun K hK => ?_) AllReadyH.nil
            go_simp
            refine (HPU.out _ HWA.out (HW.out.2.2.2.2.more HKA.out) (ents_far HW.out.2.2.2.2 (by rw [HGW.out]; omega)) (by simp)).mono ?_
            rintro e w11 ⟨rfl, hw⟩
            obtain ⟨⟨v1, h1⟩, h2⟩ := hw.all (Nat.le_refl _) rfl
            rw [List.nil_append, HBY.out] at h1
            have HV1 := Lib.hid h1
            have HKB := Lib.hid (keeps_high HKA.out h2 (by rw [HGW.out]; omega))
            dsimp only
            refine hK.out _ _ (hHeld.trans h2) (fun hHeld => ?_)
            clear hK K
            try simp only [Act.put, List.getElem_toArray, List.getElem_cons_succ, List.getElem_cons_zero, List.setIfInBounds_toArray, List.set_cons_zero, List.set_cons_succ]
            refine Ao.wpAnyH_as (S' := fun w' => Keeps (fun j => j = (G + 1)) w11 w') (fun w' k => hHeld.trans k) _ _ _ _ ?_
            replace hHeld : Keeps (fun j => j = (G + 1)) w11 w11 := Keeps.refl _ _
            clear hw h1 h2 HKA; have HKA := HKB; clear HKB
            refine wpAnyH_take (i := 3) (v := ?vbt3) rfl (by kernel_rfl) (by kernel_rfl) (by kernel_rfl) (fun _ _ _ h => h) (Or.inl ⟨by rfl, ?ybt3⟩) hHeld ?rbt3
            case ybt3 => (intro w' hSw; go_simp; try with_reducible rfl)
            simp only [Act.put, List.getElem_toArray, List.getElem_cons_succ, List.getElem_cons_zero, List.setIfInBounds_toArray, List.set_cons_zero, List.set_cons_succ]
            refine wpAnyH_take (i := 4) (v := ?vbt4) rfl (by kernel_rfl) (by kernel_rfl) (by kernel_rfl) (fun _ _ _ h => h) (Or.inl ⟨by rfl, ?ybt4⟩) hHeld ?rbt4
            case ybt4 => (intro w' hSw; go_simp; try with_reducible rfl)
            simp only [Act.put, List.getElem_toArray, List.getElem_cons_succ, List.getElem_cons_zero, List.setIfInBounds_toArray, List.set_cons_zero, List.set_cons_succ]
            refine wpAnyH_take (i := 5) (v := ?vbt5) rfl (by kernel_rfl) (by kernel_rfl) (by kernel_rfl) (fun _ _ _ h => h) (Or.inl ⟨by rfl, ?ybt5⟩) hHeld ?rbt5
            case ybt5 => (intro w' hSw; go_simp; try with_reducible rfl)
            simp only [Act.put, List.getElem_toArray, List.getElem_cons_succ, List.getElem_cons_zero, List.setIfInBounds_toArray, List.set_cons_zero, List.set_cons_succ]
            refine wpAnyH_take (i := 6) (v := ?vbt6) rfl (by kernel_rfl) (by kernel_rfl) (by kernel_rfl) (fun _ _ _ h => h) (Or.inl ⟨by rfl, ?ybt6⟩) hHeld ?rbt6
            case ybt6 => (intro w' hSw; go_simp; try with_reducible rfl)
            simp only [Act.put, List.getElem_toArray, List.getElem_cons_succ, List.getElem_cons_zero, List.setIfInBounds_toArray, List.set_cons_zero, List.set_cons_succ]
            refine wpAnyH_take (i := 7) (v := ?vbt7) rfl (by kernel_rfl) (by kernel_rfl) (by kernel_rfl) (fun _ _ _ h => h) (Or.inl ⟨by rfl, ?ybt7⟩) hHeld ?rbt7
            case ybt7 => (intro w' hSw; go_simp; try with_reducible rfl)
            simp only [Act.put, List.getElem_toArray, List.getElem_cons_succ, List.getElem_cons_zero, List.setIfInBounds_toArray, List.set_cons_zero, List.set_cons_succ]
            refine wpAnyH_take (i := 10) (v := ?vbt10) rfl (by kernel_rfl) (by kernel_rfl) (by kernel_rfl) (fun _ _ _ h => h) (Or.inl ⟨by rfl, ?ybt10⟩) hHeld ?rbt10
            case ybt10 => (intro w' hSw; go_simp; try with_reducible rfl)
            simp only [Act.put, List.getElem_toArray, List.getElem_cons_succ, List.getElem_cons_zero, List.setIfInBounds_toArray, List.set_cons_zero, List.set_cons_succ]
            refine wpAnyH_take (i := 11) (v := ?vbt11) rfl (by kernel_rfl) (by kernel_rfl) (by kernel_rfl) (fun _ _ _ h => h) (Or.inl ⟨by rfl, ?ybt11⟩) hHeld ?rbt11
            case ybt11 => (intro w' hSw; go_simp; try with_reducible rfl)
            simp only [Act.put, List.getElem_toArray, List.getElem_cons_succ, List.getElem_cons_zero, List.setIfInBounds_toArray, List.set_cons_zero, List.set_cons_succ]
            refine wpAnyH_take (i := 12) (v := ?vbt12) rfl (by kernel_rfl) (by kernel_rfl) (by kernel_rfl) (fun _ _ _ h => h) (Or.inl ⟨by rfl, ?ybt12⟩) hHeld ?rbt12
            case ybt12 => (intro w' hSw; have hb := HW.out.1.v2.keeps (keeps_high HKA.out hSw (by rw [HGW.out]; omega)) id; have i0 := hb.cell 0; simp only [List.getElem?_toArray, List.getElem?_cons_zero, List.getElem?_cons_succ] at i0; go_simp; try with_reducible rfl)
            simp only [Act.put, List.getElem_toArray, List.getElem_cons_succ, List.getElem_cons_zero, List.setIfInBounds_toArray, List.set_cons_zero, List.set_cons_succ]
            refine wpAnyH_ready (rs := [8]) (by kernel_rfl) (by simp) ?_
            refine AllReadyH.cons rfl (fun K hK => ?_) AllReadyH.nil
            go_simp
            refine (bytes_n (G + 1) (G + 1) v1 zs kk _ HZL.out HV1.out).mono ?_
            rintro e w12 ⟨A2, c2, rfl, hv, hk⟩
            have HKB := Lib.hid (HKA.out.trans hk)
            have HO := Lib.hid hv
            have HWG := Lib.hid (HV1.out.keeps hk (fun _ _ => id))
            dsimp only
            refine hK.out _ _ (hHeld.trans hk.none_) (fun hHeld => ?_)
            clear hK K
            try simp only [Act.put, List.getElem_toArray, List.getElem_cons_succ, List.getElem_cons_zero, List.setIfInBounds_toArray, List.set_cons_zero, List.set_cons_succ]
            refine Ao.wpAnyH_as (S' := fun w' => Keeps (fun j => j = (G + 1)) w12 w') (fun w' k => hHeld.trans k) _ _ _ _ ?_
            replace hHeld : Keeps (fun j => j = (G + 1)) w12 w12 := Keeps.refl _ _
            clear hv hk HKA; have HKA := HKB; clear HKB
            have HC1 : Hid (∀ w', Keeps (fun j => j = (G + 1)) w12 w' → (convert 24 9 (.slice A2 kk c2)).run Try.prog w' = .ok (.string sZ) w') := by
              intro w' k
              obtain ⟨t, ht, hb⟩ := HWG.out.2.2.2.2.1
              rw [HSZ.out]
              exact (Lies.of_own (own_keeps HO.out k (fun b hb' e => own_ne HO.out hb (Ne.symm ht) (by rw [hb', e])))).str_n (P := Try.prog) kk HZL.out 24 9 5 c2 Try.underlying24 Try.underlying5 Try.underlying9
            have HC2 : Hid (∀ w', Keeps (fun j => j = (G + 1)) w12 w' → (convert 24 9 (.slice AC kk c)).run Try.prog w' = .ok (.string sZ) w') := by
              intro w' hSw
              rw [HSZ.out]
              exact (HLC.out.keeps (HW.out.1.keeps.trans (keeps_high HKA.out hSw (by rw [HGW.out]; omega))) (fun _ _ _ => id)).str_n (P := Try.prog) kk HZL.out 24 9 5 c Try.underlying24 Try.underlying5 Try.underlying9
            refine wpAnyH_take (i := 9) (v := ?vbt9) rfl (by kernel_rfl) (by kernel_rfl) (by kernel_rfl) (fun _ _ _ h => h) (Or.inl ⟨by rfl, ?ybt9⟩) hHeld ?rbt9
            case ybt9 => (intro w' hSw; have hcv := HC1.out w' hSw; go_simp; try with_reducible rfl)
            simp only [Act.put, List.getElem_toArray, List.getElem_cons_succ, List.getElem_cons_zero, List.setIfInBounds_toArray, List.set_cons_zero, List.set_cons_succ]
            refine wpAnyH_ready (rs := [13]) (by kernel_rfl) (by simp) ?_
            refine AllReadyH.cons rfl (fun K hK => ?_) AllReadyH.nil
            go_simp
            refine (HAT.out _ (HW.out.1.r2.keeps HKA.out (fun _ _ => id))).mono ?_
            rintro e w13 ⟨rfl, rfl⟩
            dsimp only
            refine hK.out _ _ hHeld (fun hHeld => ?_)
            clear hK K
            try simp only [Act.put, List.getElem_toArray, List.getElem_cons_succ, List.getElem_cons_zero, List.setIfInBounds_toArray, List.set_cons_zero, List.set_cons_succ]
            refine wpAnyH_take (i := 14) (v := ?vbt14) rfl (by kernel_rfl) (by kernel_rfl) (by kernel_rfl) (fun _ _ _ h => h) (Or.inl ⟨by rfl, ?ybt14⟩) hHeld ?rbt14
            case ybt14 => (intro w' hSw; have hcv := hcut w'; go_simp; try with_reducible rfl)
            simp only [Act.put, List.getElem_toArray, List.getElem_cons_succ, List.getElem_cons_zero, List.setIfInBounds_toArray, List.set_cons_zero, List.set_cons_succ]
            refine wpAnyH_take (i := 15) (v := ?vbt15) rfl (by kernel_rfl) (by kernel_rfl) (by kernel_rfl) (fun _ _ _ h => h) (Or.inl ⟨by rfl, ?ybt15⟩) hHeld ?rbt15
            case ybt15 => (intro w' hSw; have hcv := HC2.out w' hSw; go_simp; try with_reducible rfl)
            simp only [Act.put, List.getElem_toArray, List.getElem_cons_succ, List.getElem_cons_zero, List.setIfInBounds_toArray, List.set_cons_zero, List.set_cons_succ]
            refine wpAnyH_take (i := 16) (v := ?vbt16) rfl (by kernel_rfl) (by kernel_rfl) (by kernel_rfl) (fun _ _ _ h => h) (Or.inl ⟨by rfl, ?ybt16⟩) hHeld ?rbt16
            case ybt16 => (intro w' hSw; go_simp; try with_reducible rfl)
            simp only [Act.put, List.getElem_toArray, List.getElem_cons_succ, List.getElem_cons_zero, List.setIfInBounds_toArray, List.set_cons_zero, List.set_cons_succ]
            refine wpAnyH_take (i := 17) (v := ?vbt17) rfl (by kernel_rfl) (by kernel_rfl) (by kernel_rfl) (fun _ _ _ h => h) (Or.inl ⟨by rfl, ?ybt17⟩) hHeld ?rbt17
            case ybt17 => (intro w' hSw; go_simp; try with_reducible rfl)
            simp only [Act.put, List.getElem_toArray, List.getElem_cons_succ, List.getElem_cons_zero, List.setIfInBounds_toArray, List.set_cons_zero, List.set_cons_succ]
            refine wpAnyH_done (by kernel_rfl) ?_ _
            clear hHeld
            go_wp2_with fail
            exact ⟨⟨d + 1, by go_num, by have := HLT.out; omega, Lib.hid (HW.out.1.keeps.trans HKA.out)⟩, by simp [intOf]; have := HLT.out; omega⟩
          | false =>
            have he : s3.e ≠ 0 := by have := HTT.out; simpa using this
            have hee : ee = E0 := HGA.out.2 he
            subst hee
            have HSM : Hid (∀ W, Ents W A7 n7 E0.d.L → Calls Try.prog 21 #[.agg (av A7 n7 c7 E0), .agg (av none 0 0 E0)] W fun r w' => r = .returned (.bool true) ∧ Keeps (fun _ => False) W w') := fun W h => by have := same_a A7 none n7 0 c7 0 E0 E0 W h ⟨.inl rfl, rfl, by omega⟩; rwa [sameA_self] at this
            unfold av E0 D0 at HSM
            simp only at HSM
            have hb := HW.out.2.2.1.keeps HK20.out id
            have i0 := hb.cell 0
            have i1 := hb.cell 1
            have i2 := hb.cell 2
            have i3 := hb.cell 3
            have i4 := hb.cell 4
            have i5 := hb.cell 5
            have i6 := hb.cell 6
            have i7 := hb.cell 7
            unfold av E0 D0 at i0 i1 i2 i3 i4 i5 i6 i7
            simp only [List.getElem?_toArray, List.getElem?_cons_zero, List.getElem?_cons_succ] at i0 i1 i2 i3 i4 i5 i6 i7
            clear hb
            go_wp2_with (
              go_at_call 21
              refine (HSM.out _ (HW.out.2.2.2.2.more HK20.out)).mono ?_
              rintro e w14 ⟨rfl, hk⟩
              have HKZ := Lib.hid (HK20.out.trans hk)
              clear hk)
            exact ⟨⟨d + 1, by go_num, by have := HLT.out; omega, Lib.hid (HW.out.1.keeps.trans HKZ.out)⟩, by simp [intOf]; have := HLT.out; omega⟩
    · obtain rfl : d = 2 := by omega
      have hge : ¬ ((2 : Int) < 2) := by omega
      go_wp2_with fail
      go_ret
      exact ⟨rfl, (HKB.out.trans HH.out).below (Nat.le_refl _) (fun _ h => h.elim)⟩

set_option maxRecDepth 100000 in
theorem lifted (os : Os) (started : os.Started) (H : Type) (enc : TypeId × Value → H) :
    ReturnsInHanded {} Try.checked os 5 .any (Rows.descAnySpec.pre6 enc Try.prog Try.f5 Rows.descAnyRow.domain false) (Rows.descAnySpec.post enc Try.prog Try.f5 false true false false) := by
  refine returnsInHanded_of_change (C := Try.checked) own started (by kernel_rfl) Try.func5
    (ChangeSpec.witness6 (enc := enc) (C := Try.checked) false ⟨#[], #[.slice none 0 0, .int .u8 0], []⟩ 8 (by kernel_rfl) (by kernel_rfl) (by kernel_rfl) (by kernel_rfl)) ?_
  intro W base args ds gs before hval0 hW hcnd _
  have hval : ∀ (j : Nat) t v, Try.f5.params[j]? = some t → args[j]? = some v → Value.okWide Try.prog W .any base t v := hval0
  have hW' := hW
  obtain ⟨p, q, hA0, hV, rfl, hfz, hnd⟩ := hW
  have hA : DataW.TrodAll enc Try.prog W 0 (fun _ => true) true Try.f5.params.toList args.toList ds p := hA0
  rw [Try.params5] at hA hval
  obtain ⟨v0, vs0, d0, ds0, p0, q0, hargs, rfl, rfl, h0, r0⟩ := trodAll_cons hA
  obtain ⟨v1, vs1, d1, ds1, p1, q1, rfl, rfl, rfl, h1, r1⟩ := trodAll_cons r0
  obtain ⟨rfl, rfl, rfl⟩ := trodAll_nil r1
  obtain rfl : args = #[v0, v1] := by cases args; simp_all
  obtain ⟨rfl, rfl⟩ := trodVars_none hV
  obtain ⟨a0, len0, cap0, rfl⟩ := okWide_slice Try.underlying24 (hval 0 24 v0 rfl rfl)
  have k0 := h0
  have lt0 : ∀ x ∈ p0, x.block < W.heap.size := by obtain ⟨m, hm⟩ := k0; exact DataW.trod_lt m _ _ _ hm
  obtain ⟨z0, w0⟩ : ∃ zs, IsRow .u8 W a0 len0 cap0 zs := by
    obtain ⟨fuel, hf⟩ := h0
    rcases open_ints Try.underlying24 Try.underlying5 (by kernel_rfl) hf with ⟨hcs, _⟩ | ⟨x, l, c, zs, hcs, _, hl, hm, hz, _, hcell, hwz⟩
    · simp [Value.cells] at hcs
      obtain ⟨rfl, rfl, rfl⟩ := hcs
      exact ⟨[], .inl ⟨rfl, rfl, rfl, rfl⟩⟩
    · simp [Value.cells] at hcs
      obtain ⟨rfl, rfl, rfl⟩ := hcs
      exact ⟨zs, .inr ⟨_, rfl, hl, hm, by simpa using hz, hcell, hwz⟩⟩
  obtain ⟨a1, rfl, rfl, rfl, w1⟩ := open_int Try.underlying5 (hval 1 5 v1 rfl rfl) h1
  clear hA0 hval0
  refine (walk a0 len0 cap0 z0 a1 W w0 w1).mono fun e W' ⟨he, bel⟩ => ?_
  subst he
  exact ⟨_, rfl, _, _, _, [], _, [], hW', trodAll_mk1 (shut_bool Try.underlying4 _), (trodAll_cons_mk (Below.trod laidOut (by kernel_rfl) (of_decide_eq_true (by kernel_rfl)) k0 bel lt0) (trodAll_cons_mk (shut_int Try.underlying5 w1) trodAll_mk0)), rfl, bel.frame _, fun h => by cases h⟩

theorem over : Rows.descAnyRow.holds Try.pinned (OpenSpec.ofChange Rows.descAnySpec) :=
  OpenClaim.holds_of_wide 5 Try.f5 rfl rfl rfl rfl rfl rfl rfl ⟨rfl, rfl, rfl, rfl, rfl⟩ rfl rfl rfl rfl rfl (by kernel_rfl) Try.func5 (by kernel_rfl)
    (of_decide_eq_true (by kernel_rfl)) (by unfold Func.isWrapper; first | (rw [if_pos (by decide +kernel)]; kernel_rfl) | (rw [if_neg (by decide +kernel)]; exact ⟨rfl, rfl⟩))
    (fun os started H enc _ => lifted os started H enc)

/-- The statement, as given. -/
theorem proved : Rows.DescAnySaid := over
end Go.Proofs.Ytankkadfaokaoaa.descAny
namespace Go.Proofs.Ytankkadfaokaoaa
/-- The statement, as given. -/
theorem descAny_holds : Rows.DescAnySaid := descAny.proved
#print axioms descAny_holds
end Go.Proofs.Ytankkadfaokaoaa

/- The statement ChainAny (P1, P8.1: any bytes, and packed ones with one changed, cut, or with more behind: what is taken makes them, or an error) holds for every input: the Go function answers true, and its arguments read as before. No conditions beyond the row's own. -/
import Derived.Test.YtnanmenoemajfaaRows
import Derived.WalkKit
import Derived.ProofKit
import Derived.OpenShut
import Derived.ShutString
import Derived.ChangeOld
import Derived.Below
import Derived.Test.YtnanmenoemajfaaAwake8
import Derived.Test.YtnanmenoemajfaaAnyApp
import Derived.Outline
import Derived.RegionTactic
import Derived.BigQuiet
import Derived.Lib.Strings
namespace Go.Proofs.Ytnanmenoemajfaa.chainAny
open Go.ChangeShapes Go.WideShapes Go.ChangeAt Go.RowKit
open Go.ChangeMaps (open_string shut_string)
open Go.Proofs.Ytnanmenoemajfaa.Gen Go.Proofs.Ytnanmenoemajfaa.Wr Go.Proofs.Ytnanmenoemajfaa.It Go.Proofs.Ytnanmenoemajfaa.Ir Go.Proofs.Ytnanmenoemajfaa.Ib Go.Proofs.Ytnanmenoemajfaa.Fq Go.Proofs.Ytnanmenoemajfaa.Fb Go.Proofs.Ytnanmenoemajfaa.Rp Go.Proofs.Ytnanmenoemajfaa.Cp Go.Proofs.Ytnanmenoemajfaa.Ap Go.Proofs.Ytnanmenoemajfaa.Aw8
set_option linter.unusedVariables false

theorem own : ownKnob Try.prog.godebug = none := by kernel_rfl
theorem laidOut : laidOutB Try.prog = true := by kernel_rfl

/-- WHAT THE WALK IS TOLD OF A SLICE OF INTEGERS THAT CAME IN: it is nil; or it leads to a row of 'cap' cells, the numbers 'zs' (the first 'len' are its elements, the rest its spare room), each fitting its kind. -/
def IsRow (k : IntKind) (w : World) (a : Option Addr) (len cap : Nat) (zs : List Int) : Prop :=
  (a = none ∧ len = 0 ∧ cap = 0 ∧ zs = []) ∨
  ∃ x, a = some x ∧ len ≤ cap ∧ cap ≤ maxLen ∧ zs.length = cap ∧ (∀ i, i < zs.length → w.cell? (x.add i) = some (.int k (zs.getD i 0))) ∧ ∀ n ∈ zs, (Lit.int k n).wf = true


set_option maxHeartbeats 8000000 in
set_option maxRecDepth 100000 in
theorem walk (a0 : Option Addr) (len0 cap0 : Nat) (z0 : List Int) (a1 : Option Addr) (len1 cap1 : Nat) (z1 : List Int) (a2 : Int) (a3 : Int) (a4 : Option Addr) (len4 cap4 : Nat) (z4 : List Int) (w : World) (w0 : IsRow .u8 w a0 len0 cap0 z0) (w1 : IsRow .u8 w a1 len1 cap1 z1) (w2 : (Lit.int .u16 a2).wf = true) (w3 : (Lit.int .u8 a3).wf = true) (w4 : IsRow .u8 w a4 len4 cap4 z4) :
    Calls Try.prog 3 #[.slice a0 len0 cap0, .slice a1 len1 cap1, .int .u16 a2, .int .u8 a3, .slice a4 len4 cap4] w fun e w' => e = .returned (.bool true) ∧ Below w.heap.size w w' := by
  have hb2 := bounds_u16 w2
  have hb3 := bounds_u8 w3
  obtain ⟨n2, rfl⟩ : ∃ n : Nat, a2 = (n : Int) := ⟨a2.toNat, by omega⟩
  obtain ⟨n3, rfl⟩ : ∃ n : Nat, a3 = (n : Int) := ⟨a3.toNat, by omega⟩
  have HR0 := Lib.hid (row_lies w0)
  have HR1 := Lib.hid (row_lies w1)
  have HR4 := Lib.hid (row_lies w4)
  have HN2 : Hid (n2 < 65536) := by show n2 < 65536; omega
  have HN3 : Hid (n3 < 256) := by show n3 < 256; omega
  clear w0 w1 w2 w3 w4 hb2 hb3
  go_enter Try.func3, Try.ntmps3
  go_wp2_with fail
  refine (awake_ _).mono ?_
  rintro e w1 ⟨rfl, hk1⟩
  have HK1 := Lib.hid hk1
  clear hk1
  by_cases hg0 : 200 < len0
  · have hd0 : decide ((200 : Int) < (len0 : Int)) = true := by rw [decide_eq_true_iff]; omega
    clear hg0
    go_wp2
    go_ret
    exact ⟨rfl, HK1.out.below (Nat.le_refl _) (fun _ h => h.elim)⟩
  have hd0 : decide ((200 : Int) < (len0 : Int)) = false := by rw [decide_eq_false_iff_not]; omega
  have HG0 := Lib.hid hg0
  clear hg0
  by_cases hg1 : 100 < len1
  · have hd1 : decide ((100 : Int) < (len1 : Int)) = true := by rw [decide_eq_true_iff]; omega
    clear hg1
    go_wp2
    go_ret
    exact ⟨rfl, HK1.out.below (Nat.le_refl _) (fun _ h => h.elim)⟩
  have hd1 : decide ((100 : Int) < (len1 : Int)) = false := by rw [decide_eq_false_iff_not]; omega
  have HG1 := Lib.hid hg1
  clear hg1
  by_cases hg4 : 20 < len4
  · have hd4 : decide ((20 : Int) < (len4 : Int)) = true := by rw [decide_eq_true_iff]; omega
    clear hg4
    go_wp2
    go_ret
    exact ⟨rfl, HK1.out.below (Nat.le_refl _) (fun _ h => h.elim)⟩
  have hd4 : decide ((20 : Int) < (len4 : Int)) = false := by rw [decide_eq_false_iff_not]; omega
  have HG4 := Lib.hid hg4
  clear hg4
  obtain ⟨hr1a, hr1b, hr1c, hr1d⟩ := HR1.out
  obtain ⟨ls, hls⟩ : ∃ ls, z1.take len1 = ls := ⟨_, rfl⟩
  rw [hls] at hr1a hr1c hr1d
  obtain ⟨G, hG⟩ : ∃ G, Ch.pk ls = G := ⟨_, rfl⟩
  obtain ⟨m, hm⟩ : ∃ m, G.length = m := ⟨_, rfl⟩
  have hm1 : 1 ≤ m := by rw [← hm, ← hG]; exact Ch.pk_some ls
  have hmB : m ≤ 660000 := by
    have h1 := Ch.pk_len hr1d (by have := HG1.out; omega)
    have h2 := HG1.out
    rw [hG, hm] at h1
    omega
  have hGB : ∀ x ∈ G, 0 ≤ x ∧ x < 256 := by rw [← hG]; exact Ch.pk_byte hr1d (by have := HG1.out; omega)
  have HPU := Lib.hid (put_ a1 len1 cap1 m ls w1 (hr1c.keeps HK1.out (fun _ _ _ => id)) hr1a hr1b (by have := HG1.out; omega) hr1d (by rw [hG]; exact hm))
  rw [hG] at HPU
  have HM := Lib.hid hm
  have HM1 := Lib.hid hm1
  have HMB := Lib.hid hmB
  have HGB := Lib.hid hGB
  clear hr1a hr1b hr1c hr1d hls hG hm hm1 hmB hGB HR1
  go_upto_region 6 with (
    go_at_call 7
    refine HPU.out.mono ?_
    rintro e w5 ⟨A5, c5, rfl, ho5, hk5⟩
    have HO5 := Lib.hid ho5
    have HK5 := Lib.hid (HK1.out.trans hk5)
    clear ho5 hk5 HPU)
  have HL5a : Hid (Lies (w5.alloc (.cells #[] 5)) A5 G) := Lib.hid ((Lies.of_own HO5.out).keeps (S := fun _ => False) ((Keeps.refl _ _).alloc _) (fun _ _ _ => id))
  have HK5a : Hid (Keeps (fun _ => False) w5 (w5.alloc (.cells #[] 5))) := (Keeps.refl _ _).alloc _
  have HE5 : Hid ((w5.alloc (.cells #[] 5)).ownsRow w5.heap.size 5 1 (.slice (some ⟨w5.heap.size, 0, none⟩) 0 0) 0 (bv [])) := own_empty w5 _ (Nat.le_refl _)
  have HS5 : Hid (w5.heap.size ≤ (w5.alloc (.cells #[] 5)).heap.size) := by show _ ≤ _; simp
  go_upto_region 7 with (
    at_builtin
    refine wpList_app rfl (.tmp 34) (.tmp 35) rfl w5.heap.size 0 m c5 (.slice (some ⟨w5.heap.size, 0, none⟩) 0 0) [] G A5 rfl HE5.out rfl HL5a.out HM.out (by have := HMB.out; omega) HS5.out ?_
    intro v6 w6 hown6 hg6 hat6
    have HO6a := Lib.hid hown6
    have HK6a : Hid (Keeps (fun _ => False) w5 w6) := Lib.hid (HK5a.out.grown hg6 (fun k hk => .inr (by simp [Value.ownBlock] at hk; omega)))
    clear hown6 hg6 hat6)
  have ho6 := HO6a.out
  rw [List.nil_append, Nat.zero_add] at ho6
  obtain ⟨A6, c6, rfl, hc6⟩ := own_form ho6
  obtain ⟨j, hj⟩ : ∃ j, n2 % m = j := ⟨_, rfl⟩
  have hjm : j < m := by rw [← hj]; exact Nat.mod_lt _ HM1.out
  obtain ⟨g6, rfl, hcell, hfz, hgb, hgl⟩ := own_cell ho6 hjm
  have hxb := HGB.out _ (getD_mem (l := G) (d := j) (by rw [HM.out]; exact hjm))
  obtain ⟨x, hx⟩ : ∃ x : Nat, G.getD j 0 = (x : Int) := ⟨(G.getD j 0).toNat, by omega⟩
  obtain ⟨y, hy⟩ : ∃ y : Nat, x ^^^ n3 = y := ⟨_, rfl⟩
  have hxor : bits .xor .u8 (x : Int) (n3 : Int) = (y : Int) := by rw [u8_xor_nat x n3 (by omega) HN3.out, hy]
  have hyb : y < 256 := by rw [← hy]; exact Nat.xor_lt_two_pow (n := 8) (by omega) HN3.out
  have hwn2 : IntKind.i64.wrap (n2 : Int) = (n2 : Int) := IntWalk.i64_in _ (by have := HN2.out; omega)
  have hmod : (n2 : Int) % (m : Int) = (j : Int) := by rw [← hj]; simp
  have hmodt : Int.tmod (n2 : Int) (m : Int) = (j : Int) := by rw [Int.tmod_eq_emod_of_nonneg (by omega)]; exact hmod
  have hmz : ¬ ((m : Int) = 0) := by have := HM1.out; omega
  have hmz2 : ¬ (m = 0) := by have := HM1.out; omega
  have hj0 : (0 : Int) ≤ (j : Int) := by omega
  have hj1 : (j : Int) < (m : Int) := by omega
  have HJM := Lib.hid hjm
  have HYB := Lib.hid hyb
  rw [hx] at hcell
  have HO7 := Lib.hid (own_set ho6 (j := j) (y : Int))
  have HK7 : Hid (Keeps (fun _ => False) w5 (w6.setCell ⟨g6, j, none⟩ (.int .u8 (y : Int)))) := Lib.hid (HK6a.out.setCell (p := ⟨g6, j, none⟩) (.inr hgb) _)
  have HC6 := Lib.hid hc6
  clear HO6a ho6 hc6 hj hjm hgb hgl hxb hx hy hyb HN2 HN3 HL5a HK5a HE5 HS5
  go_upto_region 8 with fail
  generalize w6.setCell ⟨g6, j, none⟩ (.int .u8 (y : Int)) = W7 at HO7 HK7 ⊢
  have HL7 := Lib.hid ((Lies.of_own HO5.out).keeps HK7.out (fun _ _ _ => id))
  have HKW : Hid (Keeps (fun _ => False) w W7) := Lib.hid (HK5.out.trans HK7.out)
  obtain ⟨T, hT⟩ : ∃ T, G.set j (y : Int) = T := ⟨_, rfl⟩
  rw [hT] at HO7
  have HTL : Hid (T.length = m) := by show _ = _; rw [← hT, List.length_set]; exact HM.out
  have HTB : Hid (∀ x ∈ T, 0 ≤ x ∧ x < 256) := by
    show ∀ x ∈ T, 0 ≤ x ∧ x < 256
    rw [← hT]
    intro z hz
    rcases List.mem_or_eq_of_mem_set hz with hz | rfl
    · exact HGB.out z hz
    · have := HYB.out; omega
  obtain ⟨hr4a, hr4b, hr4c, hr4d⟩ := HR4.out
  obtain ⟨ms, hms⟩ : ∃ ms, z4.take len4 = ms := ⟨_, rfl⟩
  rw [hms] at hr4a hr4c hr4d
  have HMS := Lib.hid hr4a
  have HMSB := Lib.hid hr4d
  have HL4 := Lib.hid (hr4c.keeps HKW.out (fun _ _ _ => id))
  have HOE : Hid ((W7.drew.alloc (.cells #[] 5)).ownsRow W7.heap.size 5 1 (.slice (some ⟨W7.heap.size, 0, none⟩) 0 0) 0 (bv [])) := own_empty W7.drew _ (Nat.le_refl _)
  have HKE : Hid (Keeps (fun _ => False) W7 (W7.drew.alloc (.cells #[] 5))) := Lib.hid (((Keeps.refl (fun _ => False) W7).drewN 1).alloc _)
  have hjc0 : j ≤ c5 := by
    obtain ⟨_, _, he, hle⟩ := own_form HO5.out
    injection he with _ _ hcc
    have := HJM.out
    omega
  have hjc : (j : Int) ≤ (c5 : Int) := by omega
  clear hT hr4a hr4b hr4c hr4d hms HR4 HYB hcell hfz hxor hj1 hjc0
  go_region_law (first
    | (have H1 := HOE
       refine step_app (by rfl) _ _ (by rfl) W7.heap.size 0 m c5 (.slice (some ⟨W7.heap.size, 0, none⟩) 0 0) [] G A5 (by rfl) (by exact HOE.out) (by rfl) (by exact HL7.out.keeps HKE.out (fun _ _ _ => id)) HM.out (by have := HMB.out; omega) (by exact HKE.out.size) ?_
       intro v8 w8 hown8 hg8 hat8
       rw [List.nil_append, Nat.zero_add] at hown8
       have HO8 := Lib.hid hown8
       have HK8 : Hid (Keeps (fun _ => False) W7 w8) := Lib.hid (HKE.out.grown hg8 (fun k hk => .inr (by simp [Value.ownBlock] at hk; omega)))
       clear hown8 hg8 hat8 HOE H1)
    | (have H1 := HO8
       refine step_app (by rfl) _ _ (by rfl) W7.heap.size m len4 cap4 v8 G ms a4 (by rfl) (by exact HO8.out) (by rfl) (by exact HL4.out.keeps HK8.out (fun _ _ _ => id)) HMS.out (by have := HMB.out; have := HG4.out; omega) (by exact HK8.out.size) ?_
       intro v9 w9 hown9 hg9 hat9
       obtain ⟨A9, c9, rfl, hc9⟩ := own_form hown9
       have HC9 := Lib.hid hc9
       have HO9 := Lib.hid hown9
       have HK9 : Hid (Keeps (fun _ => False) W7 w9) := Lib.hid (HK8.out.grown hg9 (fun k hk => .inr (by have := (HO8.out.lt k hk).1; omega)))
       clear hown9 hg9 hat9 hc9 H1))
  simp only [Act.put, List.getElem_toArray, List.getElem_cons_succ, List.getElem_cons_zero, List.setIfInBounds_toArray, List.set_cons_zero, List.set_cons_succ]
  go_wp2_with fail
  obtain ⟨GG, hGG⟩ : ∃ GG, w9.heap.size = GG := ⟨_, rfl⟩
  have HB : Hid (Blk (w9.alloc (.cells #[.slice a0 len0 cap0, .slice (some ⟨g6, 0, none⟩) m c6, .slice A5 j c5, .slice A9 (m + len4) c9] 22)) w9.heap.size 22 #[.slice a0 len0 cap0, .slice (some ⟨g6, 0, none⟩) m c6, .slice A5 j c5, .slice A9 (m + len4) c9]) := Blk.new _ _ _
  have HKB : Hid (Keeps (fun _ => False) W7 (w9.alloc (.cells #[.slice a0 len0 cap0, .slice (some ⟨g6, 0, none⟩) m c6, .slice A5 j c5, .slice A9 (m + len4) c9] 22))) := HK9.out.alloc _
  have HK9a : Hid (Keeps (fun _ => False) w9 (w9.alloc (.cells #[.slice a0 len0 cap0, .slice (some ⟨g6, 0, none⟩) m c6, .slice A5 j c5, .slice A9 (m + len4) c9] 22))) := (Keeps.refl _ _).alloc _
  generalize w9.alloc (.cells #[.slice a0 len0 cap0, .slice (some ⟨g6, 0, none⟩) m c6, .slice A5 j c5, .slice A9 (m + len4) c9] 22) = WB at HB HKB HK9a ⊢
  rw [hGG] at HB
  have HKT : Hid (Keeps (fun _ => False) w WB) := Lib.hid (HKW.out.trans HKB.out)
  have HX : Hid (∀ d, d < 4 → ∃ A n c xs, (#[Value.slice a0 len0 cap0, .slice (some ⟨g6, 0, none⟩) m c6, .slice A5 j c5, .slice A9 (m + len4) c9] : Array Value)[d]? = some (.slice A n c) ∧ xs.length = n ∧ n ≤ 700000 ∧ Lies WB A xs ∧ ∀ x ∈ xs, 0 ≤ x ∧ x < 256) := by
    refine Lib.hid fun d hd => ?_
    obtain ⟨hr0a, hr0b, hr0c, hr0d⟩ := HR0.out
    match d, hd with
    | 0, _ => exact ⟨a0, len0, cap0, _, rfl, hr0a, by have := HG0.out; omega, hr0c.keeps HKT.out (fun _ _ _ => id), hr0d⟩
    | 1, _ => exact ⟨_, m, c6, T, rfl, HTL.out, by have := HMB.out; omega, (Lies.of_own HO7.out).keeps HKB.out (fun _ _ _ => id), HTB.out⟩
    | 2, _ => exact ⟨A5, j, c5, G.take j, rfl, by rw [List.length_take, HM.out]; have := HJM.out; omega, by have := HJM.out; have := HMB.out; omega, lies_take (HL7.out.keeps HKB.out (fun _ _ _ => id)) j, fun x hx => HGB.out x (List.mem_of_mem_take hx)⟩
    | 3, _ => exact ⟨A9, m + len4, c9, G ++ ms, rfl, by rw [List.length_append, HM.out, HMS.out], by have := HG4.out; have := HMB.out; omega, (Lies.of_own HO9.out).keeps HK9a.out (fun _ _ _ => id), fun x hx => by
        rcases List.mem_append.1 hx with hx | hx
        · exact HGB.out x hx
        · exact HMSB.out x hx⟩
  generalize (#[Value.slice a0 len0 cap0, .slice (some ⟨g6, 0, none⟩) m c6, .slice A5 j c5, .slice A9 (m + len4) c9] : Array Value) = CS at HB HX
  clear HKB HK9a HKW HR0 HL7 HL4 HTL HTB HO7 HO9 HK9 HK8 HO8 HKE HO5 HK5 HK7 HM HM1 HMB HGB HMS HMSB HG0 HG1 HG4 HJM HC6 HC9 HK1
  rw [hGG]
  go_loopw [14, 15, 16, 64] (fun _ _ _ iv wr => ∃ d : Nat, iv = .int .i64 (d : Int) ∧ d ≤ 4 ∧ Hid (Keeps (fun _ => False) WB wr)) (fun _ _ _ iv _ => 4 - (intOf iv).toNat)
  case atStart => exact ⟨0, rfl, by omega, Lib.hid (Keeps.refl _ _)⟩
  case round =>
    obtain ⟨d, rfl, hd, HH⟩ := hrel
    by_cases hlt : d < 4
    · obtain ⟨A, n, c, xs, hcs, hxn, hnn, hli, hxb⟩ := HX.out d hlt
      have hd0 : (0 : Int) ≤ (d : Int) := by omega
      have hd1 : (d : Int) < 4 := by omega
      have hcd : wr.cell? ⟨GG, d, none⟩ = some (.slice A n c) := by rw [(HB.out.keeps HH.out id).cell, hcs]
      obtain ⟨ys, e0, hT⟩ : ∃ ys e0, Ch.tk xs 100000 = (ys, e0) := ⟨_, _, rfl⟩
      have HTK := Lib.hid (take_ A n c xs 100000 100000 wr hxn (hli.keeps HH.out (fun _ _ _ => id)) (by omega) hxb (by decide) (by decide))
      rw [hT] at HTK
      have HLX := Lib.hid hli
      have HXN := Lib.hid hxn
      by_cases he : e0 = 0
      · subst he
        obtain ⟨hp1, hp2, hp3⟩ := Ch.tk_all hxb (by omega) hT
        obtain ⟨sx, hsx⟩ : ∃ sx, strOfNums xs = sx := ⟨_, rfl⟩
        have HSX := Lib.hid hsx
        have HP1 := Lib.hid hp1
        have HP2 := Lib.hid hp2
        have HP3 := Lib.hid hp3
        clear hcs hxn hnn hli hxb hT hp1 hp2 hp3 hsx hlt hd
        go_upto_region 15 with (
          go_at_call 8
          refine HTK.out.mono ?_
          rintro e w8 ⟨A8, k8, c8, rfl, hl8, hkc8, hli8, hk8⟩
          have HL8 := Lib.hid hl8
          have HKC8 := Lib.hid hkc8
          have HLI8 := Lib.hid hli8
          have HK8 := Lib.hid (HH.out.trans hk8)
          clear hl8 hli8 hk8 hkc8 HTK)
        have hl8 := HL8.out
        have hli8 := HLI8.out
        have HY8 := Lib.hid hl8
        have HYL := Lib.hid hli8
        clear hl8 hli8 HL8 HLI8
        have hcvx := fun (W : World) (k : Keeps (fun _ => False) WB W) => (HLX.out.keeps k (fun _ _ _ => id)).str_n (P := Try.prog) n HXN.out 22 9 5 c Try.underlying22 Try.underlying5 Try.underlying9
        simp only [HSX.out] at hcvx
        have HCV := Lib.hid hcvx
        have hS0 := HCV.out w8.drew (HK8.out.drewN 1)
        clear hcvx
        go_region_with (
          go_at_call 7
          refine (put_ A8 k8 c8 n ys _ (by exact HYL.out) HY8.out HKC8.out (by have := HP3.out; have := HY8.out; omega) HP2.out (by rw [HP1.out]; exact HXN.out)).mono ?_
          rintro e w10 ⟨A10, c10, rfl, ho10, hk10⟩
          rw [HP1.out] at ho10
          have HK10 : Hid (Keeps (fun _ => False) WB w10) := Lib.hid (HK8.out.trans hk10.of_drew)
          have hS2 := HCV.out w10 HK10.out
          have hT2 := (Lies.of_own ho10).str_n (P := Try.prog) n HXN.out 22 9 5 c10 Try.underlying22 Try.underlying5 Try.underlying9
          rw [HSX.out] at hT2
          clear ho10 hk10)
        all_goals
          clear hS0 hS2 hT2
          simp only [Act.put, List.getElem_toArray, List.getElem_cons_succ, List.getElem_cons_zero, List.setIfInBounds_toArray, List.set_cons_zero, List.set_cons_succ]
          go_wp2_with fail
          exact ⟨⟨d + 1, by go_num, by omega, HK10⟩, by simp [intOf]; omega⟩
      · have hys := Ch.tk_none hT he
        have hne : (e0 != 0) = true := by simpa using he
        subst hys
        clear hcs hxn hnn hli hxb hT he hlt hd HLX HXN
        go_upto_region 12 with (
          go_at_call 8
          refine HTK.out.mono ?_
          rintro e w8 ⟨A8, k8, c8, rfl, hl8, hkc8, hli8, hk8⟩
          have HK8 := Lib.hid (HH.out.trans hk8)
          simp only [List.length_nil] at hl8
          subst hl8
          clear hli8 hk8 HTK)
        go_wp2_with fail
        exact ⟨⟨d + 1, by go_num, by omega, HK8⟩, by simp [intOf]; omega⟩
    · obtain rfl : d = 4 := by omega
      have hge : ¬ ((4 : Int) < 4) := by omega
      go_wp2_with fail
      go_ret
      exact ⟨rfl, (HKT.out.trans HH.out).below (Nat.le_refl _) (fun _ h => h.elim)⟩

set_option maxRecDepth 100000 in
theorem lifted (os : Os) (started : os.Started) (H : Type) (enc : TypeId × Value → H) :
    ReturnsInHanded {} Try.checked os 3 .any (Rows.chainAnySpec.pre6 enc Try.prog Try.f3 Rows.chainAnyRow.domain false) (Rows.chainAnySpec.post enc Try.prog Try.f3 false true false false) := by
  refine returnsInHanded_of_change (C := Try.checked) own started (by kernel_rfl) Try.func3
    (ChangeSpec.witness6 (enc := enc) (C := Try.checked) false ⟨#[], #[.slice none 0 0, .slice none 0 0, .int .u16 0, .int .u8 0, .slice none 0 0], []⟩ 8 (by kernel_rfl) (by kernel_rfl) (by kernel_rfl) (by kernel_rfl)) ?_
  intro W base args ds gs before hval0 hW hcnd _
  have hval : ∀ (j : Nat) t v, Try.f3.params[j]? = some t → args[j]? = some v → Value.okWide Try.prog W .any base t v := hval0
  have hW' := hW
  obtain ⟨p, q, hA0, hV, rfl, hfz, hnd⟩ := hW
  have hA : DataW.TrodAll enc Try.prog W 0 (fun _ => true) true Try.f3.params.toList args.toList ds p := hA0
  rw [Try.params3] at hA hval
  obtain ⟨v0, vs0, d0, ds0, p0, q0, hargs, rfl, rfl, h0, r0⟩ := trodAll_cons hA
  obtain ⟨v1, vs1, d1, ds1, p1, q1, rfl, rfl, rfl, h1, r1⟩ := trodAll_cons r0
  obtain ⟨v2, vs2, d2, ds2, p2, q2, rfl, rfl, rfl, h2, r2⟩ := trodAll_cons r1
  obtain ⟨v3, vs3, d3, ds3, p3, q3, rfl, rfl, rfl, h3, r3⟩ := trodAll_cons r2
  obtain ⟨v4, vs4, d4, ds4, p4, q4, rfl, rfl, rfl, h4, r4⟩ := trodAll_cons r3
  obtain ⟨rfl, rfl, rfl⟩ := trodAll_nil r4
  obtain rfl : args = #[v0, v1, v2, v3, v4] := by cases args; simp_all
  obtain ⟨rfl, rfl⟩ := trodVars_none hV
  obtain ⟨a0, len0, cap0, rfl⟩ := okWide_slice Try.underlying22 (hval 0 22 v0 rfl rfl)
  have k0 := h0
  have lt0 : ∀ x ∈ p0, x.block < W.heap.size := by obtain ⟨m, hm⟩ := k0; exact DataW.trod_lt m _ _ _ hm
  obtain ⟨z0, w0⟩ : ∃ zs, IsRow .u8 W a0 len0 cap0 zs := by
    obtain ⟨fuel, hf⟩ := h0
    rcases open_ints Try.underlying22 Try.underlying5 (by kernel_rfl) hf with ⟨hcs, _⟩ | ⟨x, l, c, zs, hcs, _, hl, hm, hz, _, hcell, hwz⟩
    · simp [Value.cells] at hcs
      obtain ⟨rfl, rfl, rfl⟩ := hcs
      exact ⟨[], .inl ⟨rfl, rfl, rfl, rfl⟩⟩
    · simp [Value.cells] at hcs
      obtain ⟨rfl, rfl, rfl⟩ := hcs
      exact ⟨zs, .inr ⟨_, rfl, hl, hm, by simpa using hz, hcell, hwz⟩⟩
  obtain ⟨a1, len1, cap1, rfl⟩ := okWide_slice Try.underlying22 (hval 1 22 v1 rfl rfl)
  have k1 := h1
  have lt1 : ∀ x ∈ p1, x.block < W.heap.size := by obtain ⟨m, hm⟩ := k1; exact DataW.trod_lt m _ _ _ hm
  obtain ⟨z1, w1⟩ : ∃ zs, IsRow .u8 W a1 len1 cap1 zs := by
    obtain ⟨fuel, hf⟩ := h1
    rcases open_ints Try.underlying22 Try.underlying5 (by kernel_rfl) hf with ⟨hcs, _⟩ | ⟨x, l, c, zs, hcs, _, hl, hm, hz, _, hcell, hwz⟩
    · simp [Value.cells] at hcs
      obtain ⟨rfl, rfl, rfl⟩ := hcs
      exact ⟨[], .inl ⟨rfl, rfl, rfl, rfl⟩⟩
    · simp [Value.cells] at hcs
      obtain ⟨rfl, rfl, rfl⟩ := hcs
      exact ⟨zs, .inr ⟨_, rfl, hl, hm, by simpa using hz, hcell, hwz⟩⟩
  obtain ⟨a2, rfl, rfl, rfl, w2⟩ := open_int Try.underlying23 (hval 2 23 v2 rfl rfl) h2
  obtain ⟨a3, rfl, rfl, rfl, w3⟩ := open_int Try.underlying5 (hval 3 5 v3 rfl rfl) h3
  obtain ⟨a4, len4, cap4, rfl⟩ := okWide_slice Try.underlying22 (hval 4 22 v4 rfl rfl)
  have k4 := h4
  have lt4 : ∀ x ∈ p4, x.block < W.heap.size := by obtain ⟨m, hm⟩ := k4; exact DataW.trod_lt m _ _ _ hm
  obtain ⟨z4, w4⟩ : ∃ zs, IsRow .u8 W a4 len4 cap4 zs := by
    obtain ⟨fuel, hf⟩ := h4
    rcases open_ints Try.underlying22 Try.underlying5 (by kernel_rfl) hf with ⟨hcs, _⟩ | ⟨x, l, c, zs, hcs, _, hl, hm, hz, _, hcell, hwz⟩
    · simp [Value.cells] at hcs
      obtain ⟨rfl, rfl, rfl⟩ := hcs
      exact ⟨[], .inl ⟨rfl, rfl, rfl, rfl⟩⟩
    · simp [Value.cells] at hcs
      obtain ⟨rfl, rfl, rfl⟩ := hcs
      exact ⟨zs, .inr ⟨_, rfl, hl, hm, by simpa using hz, hcell, hwz⟩⟩
  clear hA0 hval0
  refine (walk a0 len0 cap0 z0 a1 len1 cap1 z1 a2 a3 a4 len4 cap4 z4 W w0 w1 w2 w3 w4).mono fun e W' ⟨he, bel⟩ => ?_
  subst he
  exact ⟨_, rfl, _, _, _, [], _, [], hW', trodAll_mk1 (shut_bool Try.underlying4 _), (trodAll_cons_mk (Below.trod laidOut (by kernel_rfl) (of_decide_eq_true (by kernel_rfl)) k0 bel lt0) (trodAll_cons_mk (Below.trod laidOut (by kernel_rfl) (of_decide_eq_true (by kernel_rfl)) k1 bel lt1) (trodAll_cons_mk (shut_int Try.underlying23 w2) (trodAll_cons_mk (shut_int Try.underlying5 w3) (trodAll_cons_mk (Below.trod laidOut (by kernel_rfl) (of_decide_eq_true (by kernel_rfl)) k4 bel lt4) trodAll_mk0))))), rfl, bel.frame _, fun h => by cases h⟩

theorem over : Rows.chainAnyRow.holds Try.pinned (OpenSpec.ofChange Rows.chainAnySpec) :=
  OpenClaim.holds_of_wide 3 Try.f3 rfl rfl rfl rfl rfl rfl rfl ⟨rfl, rfl, rfl, rfl, rfl⟩ rfl rfl rfl rfl rfl (by kernel_rfl) Try.func3 (by kernel_rfl)
    (of_decide_eq_true (by kernel_rfl)) (by unfold Func.isWrapper; first | (rw [if_pos (by decide +kernel)]; kernel_rfl) | (rw [if_neg (by decide +kernel)]; exact ⟨rfl, rfl⟩))
    (fun os started H enc _ => lifted os started H enc)

/-- The statement, as given. -/
theorem proved : Rows.ChainAnySaid := over
end Go.Proofs.Ytnanmenoemajfaa.chainAny
namespace Go.Proofs.Ytnanmenoemajfaa
/-- The statement, as given. -/
theorem chainAny_holds : Rows.ChainAnySaid := chainAny.proved
#print axioms chainAny_holds
end Go.Proofs.Ytnanmenoemajfaa

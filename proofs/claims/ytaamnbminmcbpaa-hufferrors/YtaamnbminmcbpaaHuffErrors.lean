/- The statement HuffErrors (P5.1: counts that may not be) holds for every input: the Go function answers true, and its arguments read as before. No conditions beyond the row's own. -/
import Derived.Test.YtaamnbminmcbpaaRows
import Derived.WalkKit
import Derived.Below
import Derived.Test.YtaamnbminmcbpaaAwake5
import Derived.Outline
import Derived.RegionTactic
import Derived.ChangeAlike
import Derived.ProofKit
import Derived.OpenShut
import Derived.ShutString
namespace Go.Proofs.Ytaamnbminmcbpaa.huffErrors
open Go.ChangeShapes Go.WideShapes Go.ChangeAt Go.RowKit
open Go.ChangeMaps (open_string shut_string)
open Go.Proofs.Ytaamnbminmcbpaa.Gen Go.Proofs.Ytaamnbminmcbpaa.Mp Go.Proofs.Ytaamnbminmcbpaa.Hr Go.Proofs.Ytaamnbminmcbpaa.Hp Go.Proofs.Ytaamnbminmcbpaa.Hm Go.Proofs.Ytaamnbminmcbpaa.Hg Go.Proofs.Ytaamnbminmcbpaa.So Go.Proofs.Ytaamnbminmcbpaa.Hs Go.Proofs.Ytaamnbminmcbpaa.Hf Go.Proofs.Ytaamnbminmcbpaa.Hz Go.Proofs.Ytaamnbminmcbpaa.Ha
set_option linter.unusedVariables false

theorem own : ownKnob Try.prog.godebug = none := by kernel_rfl

theorem upd_mi (m : List (Int × Int)) (k v : Int) (hk : WideAt.IsKeyLit (Lit.int .i64 k)) (h : k ∉ m.map (·.1)) : upd (mi m) (.int .i64 k) (.int .i64 v) = mi (m ++ [(k, v)]) := by
  rw [upd_new hk, mi_app]
  · rfl
  · intro hm
    simp only [mi, List.map_map, List.mem_map] at hm
    obtain ⟨p, hp, e⟩ := hm
    simp only [Function.comp_def] at e
    injection e with _ e
    exact h (e ▸ List.mem_map_of_mem hp)
def mm (d : Nat) : List (Int × Int) := (List.range d).map fun i : Nat => ((i : Int), 1 + (i : Int))
theorem mm_more (d : Nat) : mm d ++ [((d : Int), 1 + (d : Int))] = mm (d + 1) := by simp [mm, List.range_succ]
theorem mm_new (d : Nat) : (d : Int) ∉ (mm d).map (·.1) := by
  simp only [mm, List.map_map, List.mem_map, List.mem_range, not_exists, not_and, Function.comp_def]
  intro i hi e
  omega
theorem mm_len2 (d : Nat) : (mi (mm d)).length = d := by rw [mi_len]; simp [mm]
theorem mm_len (d : Nat) : (mm d).length = d := by simp [mm]
theorem mm_good {d : Nat} (h : d ≤ 300) : ∀ p ∈ mm d, Hz.Good p := by
  intro p hp
  simp only [mm, List.mem_map, List.mem_range] at hp
  obtain ⟨i, hi, rfl⟩ := hp
  unfold Hz.Good
  simp only
  omega
theorem one_sizes : sizes [4] = [0] := by decide +kernel
theorem example9 {L : List (Int × Nat)} (h : SizesAre [(9, 4)] L) : L = [(9, 0)] := by
  obtain ⟨N, h1, h2, h3⟩ := h.ex
  have hN : N = [9] := by simpa using h1
  subst hN
  have c : cnt [(9, 4)] 9 = 4 := by decide
  simp only [List.map_cons, List.map_nil, c, one_sizes] at h3
  simpa using h3
theorem in_map {w : World} {b : Nat} {n c : Int} (h : IsM Try.prog 3 w b (upd (mi [(7, 3)]) (.int .i64 n) (.int .i64 c))) : ∃ (k : Nat) (m : List (Int × Int)), 1 ≤ k ∧ k ≤ 2 ∧ m.length = k ∧ IsM Try.prog 3 w b (mi m) ∧ ((∀ p ∈ m, Hz.Good p) ↔ Hz.Good (n, c)) := by
  by_cases hn : n = 7
  · subst hn
    refine ⟨1, [(7, c)], by omega, by omega, rfl, ?_, by simp⟩
    have e : upd (mi [(7, 3)]) (.int .i64 7) (.int .i64 c) = mi [(7, c)] := by simp [upd, mi, Lit.sameKey]
    rw [← e]
    exact h
  · refine ⟨2, [(7, 3), (n, c)], by omega, by omega, rfl, ?_, ?_⟩
    · have e := upd_mi [(7, 3)] n c trivial (by simpa using hn)
      rw [e] at h
      exact h
    · have h7 : Hz.Good (7, 3) := by unfold Hz.Good; simp
      simp [h7]
/-- What Sizes answers of one number, or two. -/
theorem few {w w' : World} {k : Nat} {m : List (Int × Int)} {r : Ending} (h : Answer w w' k m r) (h1 : 1 ≤ k) (h2 : k ≤ 2) {good : Bool} (hg : (∀ p ∈ m, Hz.Good p) ↔ good = true) :
    ∃ A, r = .returned (.tuple #[.slice A (if good then k else 0) (if good then k else 0), .int .i64 (if good then 0 else 2)]) := by
  rcases h with ⟨h, _⟩ | ⟨_, ⟨p, hp, hb⟩, hr⟩ | ⟨_, hall, g, L, hr, _⟩
  · omega
  · have : good = false := by
      cases good with
      | false => rfl
      | true => exact absurd (hg.2 rfl p hp) hb
    subst this
    exact ⟨none, by rw [hr]; rfl⟩
  · have : good = true := hg.1 hall
    subst this
    exact ⟨_, by rw [hr]; rfl⟩
theorem many {w w' : World} {k : Nat} {r : Ending} (h : Answer w w' k (mm k) r) (h1 : 200 ≤ k) (h2 : k ≤ 300) :
    ∃ A, r = .returned (.tuple #[.slice A (if k ≤ 256 then k else 0) (if k ≤ 256 then k else 0), .int .i64 (if k ≤ 256 then 0 else 7)]) := by
  rcases h with ⟨h, hr⟩ | ⟨_, ⟨p, hp, hb⟩, hr⟩ | ⟨hk, hall, g, L, hr, _⟩
  · have hk : ¬ k ≤ 256 := by omega
    simp only [hk, if_false]
    exact ⟨none, hr⟩
  · exact absurd (mm_good h2 p hp) hb
  · have hk : k ≤ 256 := by omega
    simp only [hk, if_true]
    exact ⟨_, hr⟩
set_option maxHeartbeats 4000000 in
set_option maxRecDepth 100000 in
theorem walk (a0 : Int) (a1 : Int) (a2 : Int) (w0 : (Lit.int .i64 a0).wf = true) (w1 : (Lit.int .i64 a1).wf = true) (w2 : (Lit.int .u16 a2).wf = true) (w : World) :
    Calls Try.prog 6 #[.int .i64 a0, .int .i64 a1, .int .u16 a2] w fun e w' => e = .returned (.bool true) ∧ Below w.heap.size w w' := by
  have hmm := @run_makeMap Try.prog
  have hb2 := bounds_u16 w2
  obtain ⟨mn, rfl⟩ := Int.eq_ofNat_of_zero_le hb2.1
  obtain ⟨K, hK⟩ : ∃ K, K = 200 + mn % 100 := ⟨_, rfl⟩
  have hK1 : 200 ≤ K := by omega
  have hK2 : K < 300 := by omega
  have hKi : IntKind.i64.wrap ((200 : Int) + (mn : Int) % 100) = (K : Int) := by simp [IntKind.wrap, IntKind.bits, IntKind.signed]; omega
  have HKK := Lib.hid hK
  clear hK
  have HW0 := Lib.hid w0
  clear w0 w1 w2 hb2
  go_enter Try.func6, Try.ntmps6
  go_wp2_with fail
  refine (awake_ _).mono ?_
  rintro e w1 ⟨rfl, hk1⟩
  have HK1 := Lib.hid hk1
  have HM1 := Lib.hid (IsM.new Try.prog 3 w1)
  have HK1a := Lib.hid (hk1.alloc (.map #[] 0))
  have hb1 : w.heap.size ≤ w1.heap.size := hk1.size
  clear hk1
  go_wp2_with (first
    | (refine wpList_insert_m _ rfl (.tmp 19) (.const (.int .i64 7)) (.const (.int .i64 3)) _ rfl 3 3 int_key Try.underlying24 w1.heap.size [] rfl HM1.out (by simp) (.int .i64 7) (.int .i64 3) _ rfl rfl (key_i 7 (by decide)) ?_
       intro w2 h2 k2
       have HM2 := Lib.hid h2
       have HK2 := Lib.hid (keeps_low HK1a.out k2 (fun y hy => by omega))
       clear h2 k2)
    | (at_mapUpdate
       refine wpList_update_m _ rfl (.tmp 21) (.tmp 22) (.tmp 23) _ rfl 3 3 int_key Try.underlying24 w1.heap.size (mi [(7, 3)]) rfl HM2.out (by simp [mi]) (.int .i64 a0) (.int .i64 a1) _ rfl rfl (key_i a0 HW0.out) ?_
       intro w3 h3 k3
       obtain ⟨k, m, hk1, hk2, hml, him, hgd⟩ := in_map h3
       have HM3 := Lib.hid him
       have HML := Lib.hid hml
       have HGD := Lib.hid hgd
       have HK3 := Lib.hid (keeps_low HK2.out k3 (fun y hy => by omega))
       clear h3 k3 him hml hgd))
  refine (sizes_ w1.heap.size k m w3 HM3.out HML.out (by omega)).mono ?_
  rintro e w4 ⟨ha, hk4⟩
  have HK4 := Lib.hid (HK3.out.trans hk4)
  obtain ⟨good, hgood⟩ : ∃ good : Bool, good = decide ((1 ≤ a1 ∧ a1 ≤ 2147483647) ∧ -2147483647 ≤ a0 ∧ a0 ≤ 2147483647) := ⟨_, rfl⟩
  obtain ⟨A1, rfl⟩ := few ha hk1 hk2 (good := good) (by rw [HGD.out, hgood, decide_eq_true_eq]; rfl)
  clear ha hk4 HM3 HML HGD HM2 HK2 HK3 HM1 HK1 HK1a
  have hor : (decide (a0 < -2147483647) || decide (2147483647 < a0) || decide (a1 < 1) || decide (2147483647 < a1)) = !good := by
    rw [hgood, Bool.eq_iff_iff]
    simp
    omega
  have HGO := Lib.hid hgood
  obtain ⟨n1, hn1⟩ : ∃ n1, n1 = if good then k else 0 := ⟨_, rfl⟩
  obtain ⟨e1, he1⟩ : ∃ e1 : Int, e1 = if good then 0 else 2 := ⟨_, rfl⟩
  rw [← hn1, ← he1]
  have HN1 := Lib.hid hn1
  have HE1 := Lib.hid he1
  clear hgood hn1 he1
  obtain ⟨ng, hng⟩ : ∃ ng, ng = !good := ⟨_, rfl⟩
  rw [← hng] at hor
  have HNG := Lib.hid hng
  have HOR := Lib.hid hor
  clear hor hng
  go_upto_region 7 with fail
  go_cut [42] from 29 to 42 (fun v wx => v = .bool ng ∧ wx = w4)
  case first =>
    clear HN1 HE1 HGO hmm
    go_wp2
    all_goals
      go_meet
      refine ⟨?_, rfl⟩
      rw [← HOR.out]
      try simp [*]
  case rest =>
    obtain ⟨rfl, hwc⟩ := hcut
    rw [hwc]
    clear hwc
    cases good with
    | true =>
      obtain rfl : ng = false := HNG.out
      obtain rfl : e1 = 0 := HE1.out
      obtain rfl : n1 = k := HN1.out
      have hn1i : ¬ ((n1 : Int) = 0) := by omega
      have HM5 := Lib.hid (IsM.new Try.prog 3 w4)
      have HK5 := Lib.hid (HK4.out.alloc (.map #[] 0))
      have hb4 : w.heap.size ≤ w4.heap.size := HK4.out.size
      go_wp2_with fail
      generalize w4.heap.size = b2 at *
      go_loopw [48] (fun i wr => ∃ d : Nat, d ≤ K ∧ i = .int .i64 (d : Int) ∧ IsM Try.prog 3 wr b2 (mi (mm d)) ∧ Keeps (fun _ => False) w wr) (fun i _ => K - (intOf i).toNat)
      case atStart => exact ⟨0, by omega, rfl, HM5.out, HK5.out⟩
      case round =>
        clear HM5 HK5
        obtain ⟨d, hd, rfl, hm6, hk6⟩ := hrel
        have HM6 := Lib.hid hm6
        have HK6 := Lib.hid hk6
        clear hm6 hk6
        by_cases hlt : d < K
        · have hwd : (Lit.int .i64 (d : Int)).wf = true := wf_of (by omega)
          have HKD := Lib.hid (key_i (d : Int) hwd)
          have hdi : (d : Int) < (K : Int) := by omega
          clear hwd hlt
          go_wp2_with (
            at_mapUpdate
            refine wpList_update_m _ rfl (.tmp 51) (.tmp 52) (.tmp 54) _ rfl 3 3 int_key Try.underlying24 b2 (mi (mm d)) rfl HM6.out (by rw [mi_len, mm_len]; omega) (.int .i64 (d : Int)) (.int .i64 (1 + (d : Int))) _ rfl rfl HKD.out ?_
            intro w7 h7 k7
            have HM7 := Lib.hid h7
            rw [upd_mi _ _ _ trivial (mm_new d), mm_more] at HM7
            have HK7 := Lib.hid (keeps_low HK6.out k7 (fun y hy => by omega))
            clear h7 k7)
          refine ⟨⟨d + 1, by omega, by go_num, HM7.out, HK7.out⟩, by simp [intOf]; omega⟩
        · obtain rfl : d = K := by omega
          have hdi : ¬ ((d : Int) < (d : Int)) := by omega
          clear hlt
          go_wp2_with fail
          refine (sizes_ b2 d (mm d) wr HM6.out (mm_len d) (by omega)).mono ?_
          rintro e w8 ⟨ha8, hk8⟩
          obtain ⟨A8, rfl⟩ := many ha8 hK1 (by omega)
          obtain ⟨nx, hnx⟩ : ∃ nx, nx = if d ≤ 256 then d else 0 := ⟨_, rfl⟩
          obtain ⟨ex, hex⟩ : ∃ ex : Int, ex = if d ≤ 256 then 0 else 7 := ⟨_, rfl⟩
          rw [← hnx, ← hex]
          have HNX := Lib.hid hnx
          have HEX := Lib.hid hex
          clear hnx hex
          have HM8 := Lib.hid (HM6.out.keeps hk8 id)
          have HK8 := Lib.hid (HK6.out.trans hk8)
          have HM9 := Lib.hid (IsM.new Try.prog 3 w8)
          have HK9 := Lib.hid (HK8.out.alloc (.map #[] 0))
          have hb8 : w.heap.size ≤ w8.heap.size := HK8.out.size
          have HBB := Lib.hid HM8.out.lt
          clear ha8 hk8 HM6 HK6
          go_wp2_with (
            refine wpList_insert_m _ rfl (.tmp 62) (.const (.int .i64 9)) (.const (.int .i64 4)) _ rfl 3 3 int_key Try.underlying24 w8.heap.size [] rfl HM9.out (by simp) (.int .i64 9) (.int .i64 4) _ rfl rfl (key_i 9 (by decide)) ?_
            intro w10 h10 k10
            have e9 : upd [] (.int .i64 9) (.int .i64 4) = mi [(9, 4)] := by simp [upd, mi]
            rw [e9] at h10
            have HM10 := Lib.hid h10
            have HM8b := Lib.hid ((HM8.out.keeps ((Keeps.refl (fun _ => False) w8).alloc (.map #[] 0)) id).keeps k10 (by have := HBB.out; omega))
            have HK10 := Lib.hid (keeps_low HK9.out k10 (fun y hy => by omega))
            clear h10 k10 e9)
          refine (sizes_ w8.heap.size 1 [(9, 4)] w10 HM10.out rfl (by omega)).mono ?_
          rintro e w11 ⟨ha11, hk11⟩
          have hg9 : ∀ p ∈ ([(9, 4)] : List (Int × Int)), Hz.Good p := by
            intro p hp
            simp at hp
            subst hp
            unfold Hz.Good
            simp
          rcases ha11 with ⟨h, _⟩ | ⟨_, ⟨p, hp, hb⟩, _⟩ | ⟨_, _, g, L, rfl, hbl, _, _, hs⟩
          · omega
          · exact absurd (hg9 p hp) hb
          have hL := example9 (L := L) hs
          subst hL
          have HK11 := Lib.hid (HK10.out.trans hk11)
          have a9 : w11.cell? ⟨g, 0, none⟩ = some (.int .i64 9) := hbl.cell 0
          have a10 : w11.cell? ⟨g, 1, none⟩ = some (.int .i64 0) := hbl.cell 1
          have hlen := IsM.len_run w11 (HM8b.out.keeps hk11 id) Try.underlying24 (mm_len2 d)
          clear hk11 hg9 hbl hs HM10 HM8 HM8b HM9 HK9 HK10 HK8
          by_cases h256 : d ≤ 256
          · have h256i : (d : Int) ≤ 256 := by omega
            have hwm : IntKind.i64.wrap ((d : Int) * (d : Int)) = (d : Int) * (d : Int) := by
              have h1 : (d : Int) * (d : Int) ≤ 300 * 300 := Int.mul_le_mul (by omega) (by omega) (by omega) (by omega)
              have h2 : 0 ≤ (d : Int) * (d : Int) := Int.mul_nonneg (by omega) (by omega)
              generalize (d : Int) * (d : Int) = z at *
              simp [IntKind.wrap, IntKind.bits, IntKind.signed]
              omega
            obtain rfl : nx = d := by rw [HNX.out, if_pos h256]
            obtain rfl : ex = 0 := by rw [HEX.out, if_pos h256]
            clear h256
            go_wp2
            go_ret
            exact ⟨by simp <;> omega, HK11.out.below (Nat.le_refl _) (fun _ h => h.elim)⟩
          · have h256i : ¬ (d : Int) ≤ 256 := by omega
            obtain rfl : nx = 0 := by rw [HNX.out, if_neg h256]
            obtain rfl : ex = 7 := by rw [HEX.out, if_neg h256]
            clear h256
            go_wp2
            go_ret
            exact ⟨by simp <;> omega, HK11.out.below (Nat.le_refl _) (fun _ h => h.elim)⟩
    | false =>
      obtain rfl : ng = true := HNG.out
      obtain rfl : e1 = 2 := HE1.out
      obtain rfl : n1 = 0 := HN1.out
      have HM5 := Lib.hid (IsM.new Try.prog 3 w4)
      have HK5 := Lib.hid (HK4.out.alloc (.map #[] 0))
      have hb4 : w.heap.size ≤ w4.heap.size := HK4.out.size
      go_wp2_with fail
      generalize w4.heap.size = b2 at *
      go_loopw [48] (fun i wr => ∃ d : Nat, d ≤ K ∧ i = .int .i64 (d : Int) ∧ IsM Try.prog 3 wr b2 (mi (mm d)) ∧ Keeps (fun _ => False) w wr) (fun i _ => K - (intOf i).toNat)
      case atStart => exact ⟨0, by omega, rfl, HM5.out, HK5.out⟩
      case round =>
        clear HM5 HK5
        obtain ⟨d, hd, rfl, hm6, hk6⟩ := hrel
        have HM6 := Lib.hid hm6
        have HK6 := Lib.hid hk6
        clear hm6 hk6
        by_cases hlt : d < K
        · have hwd : (Lit.int .i64 (d : Int)).wf = true := wf_of (by omega)
          have HKD := Lib.hid (key_i (d : Int) hwd)
          have hdi : (d : Int) < (K : Int) := by omega
          clear hwd hlt
          go_wp2_with (
            at_mapUpdate
            refine wpList_update_m _ rfl (.tmp 51) (.tmp 52) (.tmp 54) _ rfl 3 3 int_key Try.underlying24 b2 (mi (mm d)) rfl HM6.out (by rw [mi_len, mm_len]; omega) (.int .i64 (d : Int)) (.int .i64 (1 + (d : Int))) _ rfl rfl HKD.out ?_
            intro w7 h7 k7
            have HM7 := Lib.hid h7
            rw [upd_mi _ _ _ trivial (mm_new d), mm_more] at HM7
            have HK7 := Lib.hid (keeps_low HK6.out k7 (fun y hy => by omega))
            clear h7 k7)
          refine ⟨⟨d + 1, by omega, by go_num, HM7.out, HK7.out⟩, by simp [intOf]; omega⟩
        · obtain rfl : d = K := by omega
          have hdi : ¬ ((d : Int) < (d : Int)) := by omega
          clear hlt
          go_wp2_with fail
          refine (sizes_ b2 d (mm d) wr HM6.out (mm_len d) (by omega)).mono ?_
          rintro e w8 ⟨ha8, hk8⟩
          obtain ⟨A8, rfl⟩ := many ha8 hK1 (by omega)
          obtain ⟨nx, hnx⟩ : ∃ nx, nx = if d ≤ 256 then d else 0 := ⟨_, rfl⟩
          obtain ⟨ex, hex⟩ : ∃ ex : Int, ex = if d ≤ 256 then 0 else 7 := ⟨_, rfl⟩
          rw [← hnx, ← hex]
          have HNX := Lib.hid hnx
          have HEX := Lib.hid hex
          clear hnx hex
          have HM8 := Lib.hid (HM6.out.keeps hk8 id)
          have HK8 := Lib.hid (HK6.out.trans hk8)
          have HM9 := Lib.hid (IsM.new Try.prog 3 w8)
          have HK9 := Lib.hid (HK8.out.alloc (.map #[] 0))
          have hb8 : w.heap.size ≤ w8.heap.size := HK8.out.size
          have HBB := Lib.hid HM8.out.lt
          clear ha8 hk8 HM6 HK6
          go_wp2_with (
            refine wpList_insert_m _ rfl (.tmp 62) (.const (.int .i64 9)) (.const (.int .i64 4)) _ rfl 3 3 int_key Try.underlying24 w8.heap.size [] rfl HM9.out (by simp) (.int .i64 9) (.int .i64 4) _ rfl rfl (key_i 9 (by decide)) ?_
            intro w10 h10 k10
            have e9 : upd [] (.int .i64 9) (.int .i64 4) = mi [(9, 4)] := by simp [upd, mi]
            rw [e9] at h10
            have HM10 := Lib.hid h10
            have HM8b := Lib.hid ((HM8.out.keeps ((Keeps.refl (fun _ => False) w8).alloc (.map #[] 0)) id).keeps k10 (by have := HBB.out; omega))
            have HK10 := Lib.hid (keeps_low HK9.out k10 (fun y hy => by omega))
            clear h10 k10 e9)
          refine (sizes_ w8.heap.size 1 [(9, 4)] w10 HM10.out rfl (by omega)).mono ?_
          rintro e w11 ⟨ha11, hk11⟩
          have hg9 : ∀ p ∈ ([(9, 4)] : List (Int × Int)), Hz.Good p := by
            intro p hp
            simp at hp
            subst hp
            unfold Hz.Good
            simp
          rcases ha11 with ⟨h, _⟩ | ⟨_, ⟨p, hp, hb⟩, _⟩ | ⟨_, _, g, L, rfl, hbl, _, _, hs⟩
          · omega
          · exact absurd (hg9 p hp) hb
          have hL := example9 (L := L) hs
          subst hL
          have HK11 := Lib.hid (HK10.out.trans hk11)
          have a9 : w11.cell? ⟨g, 0, none⟩ = some (.int .i64 9) := hbl.cell 0
          have a10 : w11.cell? ⟨g, 1, none⟩ = some (.int .i64 0) := hbl.cell 1
          have hlen := IsM.len_run w11 (HM8b.out.keeps hk11 id) Try.underlying24 (mm_len2 d)
          clear hk11 hg9 hbl hs HM10 HM8 HM8b HM9 HK9 HK10 HK8
          by_cases h256 : d ≤ 256
          · have h256i : (d : Int) ≤ 256 := by omega
            have hwm : IntKind.i64.wrap ((d : Int) * (d : Int)) = (d : Int) * (d : Int) := by
              have h1 : (d : Int) * (d : Int) ≤ 300 * 300 := Int.mul_le_mul (by omega) (by omega) (by omega) (by omega)
              have h2 : 0 ≤ (d : Int) * (d : Int) := Int.mul_nonneg (by omega) (by omega)
              generalize (d : Int) * (d : Int) = z at *
              simp [IntKind.wrap, IntKind.bits, IntKind.signed]
              omega
            obtain rfl : nx = d := by rw [HNX.out, if_pos h256]
            obtain rfl : ex = 0 := by rw [HEX.out, if_pos h256]
            clear h256
            go_wp2
            go_ret
            exact ⟨by simp <;> omega, HK11.out.below (Nat.le_refl _) (fun _ h => h.elim)⟩
          · have h256i : ¬ (d : Int) ≤ 256 := by omega
            obtain rfl : nx = 0 := by rw [HNX.out, if_neg h256]
            obtain rfl : ex = 7 := by rw [HEX.out, if_neg h256]
            clear h256
            go_wp2
            go_ret
            exact ⟨by simp <;> omega, HK11.out.below (Nat.le_refl _) (fun _ h => h.elim)⟩
  -- go_enter Try.func6, Try.ntmps6
  -- go_wp2
  -- go_ret
  -- exact ⟨rfl, by repeat (first | exact Grown.refl _ | apply Grown.drew | apply Grown.alloc)⟩

set_option maxRecDepth 100000 in
theorem lifted (os : Os) (started : os.Started) (H : Type) (enc : TypeId × Value → H) :
    ReturnsInHanded {} Try.checked os 6 .any (Rows.huffErrorsSpec.pre6 enc Try.prog Try.f6 Rows.huffErrorsRow.domain false) (Rows.huffErrorsSpec.post enc Try.prog Try.f6 false true false false) := by
  refine returnsInHanded_of_change (C := Try.checked) own started (by kernel_rfl) Try.func6
    (ChangeSpec.witness6 (enc := enc) (C := Try.checked) false ⟨#[], #[.int .i64 0, .int .i64 0, .int .u16 0], []⟩ 8 (by kernel_rfl) (by kernel_rfl) (by kernel_rfl) (by kernel_rfl)) ?_
  intro W base args ds gs before hval0 hW hcnd _
  have hval : ∀ (j : Nat) t v, Try.f6.params[j]? = some t → args[j]? = some v → Value.okWide Try.prog W .any base t v := hval0
  have hW' := hW
  obtain ⟨p, q, hA0, hV, rfl, hfz, hnd⟩ := hW
  have hA : DataW.TrodAll enc Try.prog W 0 (fun _ => true) true Try.f6.params.toList args.toList ds p := hA0
  rw [Try.params6] at hA hval
  obtain ⟨v0, vs0, d0, ds0, p0, q0, hargs, rfl, rfl, h0, r0⟩ := trodAll_cons hA
  obtain ⟨v1, vs1, d1, ds1, p1, q1, rfl, rfl, rfl, h1, r1⟩ := trodAll_cons r0
  obtain ⟨v2, vs2, d2, ds2, p2, q2, rfl, rfl, rfl, h2, r2⟩ := trodAll_cons r1
  obtain ⟨rfl, rfl, rfl⟩ := trodAll_nil r2
  obtain rfl : args = #[v0, v1, v2] := by cases args; simp_all
  obtain ⟨rfl, rfl⟩ := trodVars_none hV
  obtain ⟨a0, rfl, rfl, rfl, w0⟩ := open_int Try.underlying3 (hval 0 3 v0 rfl rfl) h0
  obtain ⟨a1, rfl, rfl, rfl, w1⟩ := open_int Try.underlying3 (hval 1 3 v1 rfl rfl) h1
  obtain ⟨a2, rfl, rfl, rfl, w2⟩ := open_int Try.underlying59 (hval 2 59 v2 rfl rfl) h2
  clear hA0 hval0
  refine (walk a0 a1 a2 w0 w1 w2 W).mono fun e W' ⟨he, bel⟩ => ?_
  subst he
  exact ⟨_, rfl, _, _, _, [], _, [], hW', trodAll_mk1 (shut_bool Try.underlying4 _), (trodAll_cons_mk (shut_int Try.underlying3 w0) (trodAll_cons_mk (shut_int Try.underlying3 w1) (trodAll_cons_mk (shut_int Try.underlying59 w2) trodAll_mk0))), rfl, bel.frame _, fun h => by cases h⟩

theorem over : Rows.huffErrorsRow.holds Try.pinned (OpenSpec.ofChange Rows.huffErrorsSpec) :=
  OpenClaim.holds_of_wide 6 Try.f6 rfl rfl rfl rfl rfl rfl rfl ⟨rfl, rfl, rfl, rfl, rfl⟩ rfl rfl rfl rfl rfl (by kernel_rfl) Try.func6 (by kernel_rfl)
    (of_decide_eq_true (by kernel_rfl)) (by unfold Func.isWrapper; first | (rw [if_pos (by decide +kernel)]; kernel_rfl) | (rw [if_neg (by decide +kernel)]; exact ⟨rfl, rfl⟩))
    (fun os started H enc _ => lifted os started H enc)

/-- The statement, as given. -/
theorem proved : Rows.HuffErrorsSaid :=
  over
end Go.Proofs.Ytaamnbminmcbpaa.huffErrors
namespace Go.Proofs.Ytaamnbminmcbpaa
/-- The statement, as given. -/
theorem huffErrors_holds : Rows.HuffErrorsSaid := huffErrors.proved
#print axioms huffErrors_holds
end Go.Proofs.Ytaamnbminmcbpaa

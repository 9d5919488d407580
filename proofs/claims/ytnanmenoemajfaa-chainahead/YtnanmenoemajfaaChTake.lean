/- Bytes, unpacked by the one ahead (chain.Take): whatever they are. -/
import Derived.Test.YtnanmenoemajfaaChUnX
import Derived.Test.YtnanmenoemajfaaChTT
import Derived.Test.YtnanmenoemajfaaChEq
import Derived.Test.YtnanmenoemajfaaChTO
import Derived.Test.YtnanmenoemajfaaRnTurn
import Derived.Test.YtnanmenoemajfaaRnStart
import Derived.Laws.StructEq
namespace Go.Proofs.Ytnanmenoemajfaa.Cp
open Go.RowKit Go.Proofs.Ytnanmenoemajfaa.Gen Go.Proofs.Ytnanmenoemajfaa.Wr Go.Proofs.Ytnanmenoemajfaa.It Go.Proofs.Ytnanmenoemajfaa.Ir Go.Proofs.Ytnanmenoemajfaa.Ib Go.Proofs.Ytnanmenoemajfaa.Fq Go.Proofs.Ytnanmenoemajfaa.Fb Go.Proofs.Ytnanmenoemajfaa.Rp Go.Proofs.Ytnanmenoemajfaa.Rs Go.Proofs.Ytnanmenoemajfaa.Cm Go.Proofs.Ytnanmenoemajfaa.Ck Go.Proofs.Ytnanmenoemajfaa.Cq

theorem run_mini {P : Program} (ts : Array TypeId) (t : TypeId) (a b m : Int) (h : min a b = m) (w : World) : (Builtin.min_ ts t #[.int .i64 a, .int .i64 b]).run P w = .ok (.int .i64 m) w := by
  rw [run_min_int2, ← h]
  congr 2
  split <;> omega
theorem start_ok {s : RS} (h : s.ok) : (startF s).2.ok := by
  have h4 := (wds_ok h 4).1
  rw [startF]
  split
  · exact h4
  · exact fail_ok h4 2
/-- What Take answers. -/
def TkAns (T : List Int × Int) (w : World) (r : Ending) (w' : World) : Prop :=
  ∃ A k c, r = .returned (.tuple #[.slice A k c, .int .i64 T.2]) ∧ T.1.length = k ∧ k ≤ c ∧ Lies w' A T.1 ∧ Keeps (fun _ => False) w w'
theorem start_st {s : RS} (hs : s.ok) : (startF s).1.length = 4 ∧ ((startF s).2.e = 0 → St (startF s).1) := by
  by_cases he : s.e = 0
  · have e : s = ⟨s.xs, s.k, 0⟩ := rs_eq_ he
    rcases start_any (xs := s.xs) (k := s.k) hs.2.2 hs.1 with ⟨h1, h2⟩ | ⟨f, h1, h2, _⟩
    · rw [← e] at h1 h2; exact ⟨by rw [h2]; rfl, fun h => absurd h h1⟩
    · rw [← e] at h1; rw [h1]; exact ⟨h2.1, fun _ => h2⟩
  · have hw : ∀ n, wds n s = (List.replicate n 0, s) := by
      intro n
      induction n with
      | zero => rfl
      | succ n ih => rw [wds, ih]; simp only; rw [word_bad he, List.replicate_succ']; rfl
    have : ¬ (wds 4 s).1.all Inb = true := by rw [hw]; simp [Inb]
    rw [startF, if_neg this]
    refine ⟨rfl, fun h => ?_⟩
    rw [hw] at h
    simp only [RS.fail, if_neg he] at h
    exact absurd h he
theorem wf_st {s : RS} (h1 : (startF s).2.e = 0) (hs : s.ok) : s.e = 0 := by
  by_cases he : s.e = 0
  · exact he
  · have hw : ∀ n, wds n s = (List.replicate n 0, s) := by
      intro n
      induction n with
      | zero => rfl
      | succ n ih => rw [wds, ih]; simp only; rw [word_bad he, List.replicate_succ']; rfl
    rw [startF] at h1
    split at h1
    · rw [hw] at h1; exact h1
    · rw [hw] at h1
      simp only [RS.fail, if_neg he] at h1
      exact absurd h1 he
/-- Two rows of four are the same if their numbers are. -/
theorem run_part4 (l : List Nat) {i : Nat} (h : i < l.length) (w : World) : (part 42 (us l) i).run Try.prog w = .ok (.int .u32 ((l.getD i 0 : Nat) : Int)) w := by
  have hag : (isAgg 42).run Try.prog w = .ok false w := by simp [isAgg, Try.underlying42, go_sem]
  simp [part, hag, us_get h]
theorem run_items4 (d : Nat) (a b : List Nat) (w : World) : ∀ (is : List Nat), (∀ i ∈ is, i < a.length ∧ i < b.length) →
    (Op.eqItems (d + 1) 42 1 (us a) (us b) is).run Try.prog w = .ok (is.all fun i => ((a.getD i 0 : Nat) : Int) == ((b.getD i 0 : Nat) : Int)) w
  | [], _ => by simp [Op.eqItems]
  | i :: is, h => by
    have h1 := h i (by simp)
    have ih := run_items4 d a b w is fun j hj => h j (by simp [hj])
    simp only [Op.eqItems, Nat.mul_one, Sem.run_bind, run_part4 a h1.1, run_part4 b h1.2, Result.andThen_ok]
    rw [run_equalIn_int w d 42 .u32 .u32 _ _ Try.underlying42]
    simp only [Result.andThen_ok, List.all_cons]
    cases he : (((a.getD i 0 : Nat) : Int) == ((b.getD i 0 : Nat) : Int))
    · simp
    · simp only [Bool.not_true, Bool.false_eq_true, if_false, Bool.true_and]
      exact ih
theorem all_same4 {a b : List Nat} {n : Nat} (ha : a.length = n) (hb : b.length = n) : ((List.range n).all fun i => ((a.getD i 0 : Nat) : Int) == ((b.getD i 0 : Nat) : Int)) = decide (a = b) := by
  by_cases h : a = b
  · subst h; simp
  · rw [decide_eq_false h]
    rw [Bool.eq_false_iff]
    intro hall
    apply h
    simp only [List.all_eq_true, List.mem_range, beq_iff_eq] at hall
    apply List.ext_getElem (by omega)
    intro i h1 h2
    have := hall i (by omega)
    rw [List.getD, List.getD, List.getElem?_eq_getElem h1, List.getElem?_eq_getElem h2] at this
    simp only [Option.getD_some] at this
    omega
theorem run_eq4 (a b : List Nat) (v u : Array Value) (r : Bool) (hv : us a = v) (hu : us b = u) (ha : a.length = 4) (hb : b.length = 4) (hr : decide (a = b) = r) (w : World) :
    (Op.equalIn 10000 44 (.agg v) (.agg u)).run Try.prog w = .ok r w := by
  have hc : Try.prog.cellsOf 42 = 1 := by kernel_rfl
  obtain ⟨i, hi⟩ : ∃ i, Try.prog.info? 42 = some i := Option.isSome_iff_exists.1 (by kernel_rfl)
  rw [← hv, ← hu, run_equalIn_array w 9999 _ _ Try.underlying44 hi, hc, run_items4 9998 a b w _ (fun i hi => by simp only [List.mem_range] at hi; omega), all_same4 ha hb, hr]

theorem unpC_len {tb : Nat → Option (List Int)} {n : Nat} : ∀ (k t : Nat) (all : List Int) (f : List Nat) (r : RS), f.length = 4 → (Ch.unpC tb n k t all f r).2.1.length = 4
  | 0, _, _, _, _, h => h
  | k + 1, t, all, f, r, h => by
    rw [Ch.unpC]
    split
    · split
      · rfl
      · split
        · rfl
        · exact unpC_len k _ _ _ _ (by rw [List.length_set]; exact h)
    · exact unpC_len k _ _ _ _ h
theorem unU_len {tb : Nat → Option (List Int)} {n : Nat} {f : List Nat} {s : RS} (h : f.length = 4) : (unU tb n f s).2.1.length = 4 := by
  unfold unU
  split
  · rfl
  · exact unpC_len _ _ _ _ _ h
theorem unU_good {tb : Nat → Option (List Int)} {n : Nat} {f : List Nat} {s : RS} (hs : s.ok) (hok : s.e = 0 → (∀ a l, tb a = some l → Tb l) ∧ St f) (h0 : (unU tb n f s).2.2.e = 0) : (unU tb n f s).1.length = n ∧ ∀ c ∈ (unU tb n f s).1, 0 ≤ c ∧ c < 256 := by
  by_cases he : s.e = 0
  · obtain ⟨h1, h2⟩ := hok he
    have e : s = ⟨s.xs, s.k, 0⟩ := rs_eq_ he
    unfold unU at h0 ⊢
    rw [if_neg (by omega)] at h0 ⊢
    rw [e] at h0 ⊢
    obtain ⟨B, F, j, g1, _, _, g4, g5, _⟩ := Ch.unpC_any h1 hs.2.2 _ 0 s.k (List.replicate n 0) f hs.1 h2 (by simp) (fun x hx => by have := List.eq_of_mem_replicate hx; omega) h0
    rw [g1]
    exact ⟨g4, g5⟩
  · unfold unU at h0
    rw [if_pos he] at h0
    exact absurd h0 he
theorem take_tabs {s : RS} (hs : s.ok) (h0 : (Ch.takeTs s).2.e = 0) : ∀ a l, (Ch.takeTs s).1 a = some l → Tb l := by
  by_cases he : s.e = 0
  · have e : s = ⟨s.xs, s.k, 0⟩ := rs_eq_ he
    rw [e] at h0 ⊢
    rcases Ch.takeTs_any hs.2.2 hs.1 hs.2.1 with h | ⟨tb, j, g1, _, _, g4, _⟩
    · exact absurd h0 h
    · rw [g1]
      exact g4
  · exact absurd h0 (Ch.takeTs_bad he)
theorem lies_or {w w' : World} {A : Option Addr} {xs : List Int} {R : Nat} (h : Lies w A xs) (k : Keeps (· = R) w w') (ha : xs = [] ∨ ∀ b o, A = some ⟨b, o, none⟩ → b ≠ R) : Lies w' A xs := by
  rcases ha with ha | ha
  · exact .inl ha
  · exact h.keeps k fun b o hA e => ha b o hA e

set_option maxHeartbeats 8000000 in
set_option maxRecDepth 100000 in
theorem take_ (B : Option Addr) (n cb : Nat) (xs : List Int) (most : Int) (M : Int) (w : World) (hx : xs.length = n) (hl : Lies w B xs) (hn : n ≤ 1000000) (hb : ∀ x ∈ xs, 0 ≤ x ∧ x < 256) (hM : min (max most 0) 8388608 = M) (hM1 : M ≤ 400000) :
    Calls Try.prog 8 #[.slice B n cb, .int .i64 most] w (TkAns (Ch.tk xs M) w) := by
  obtain ⟨m1, hm1⟩ : ∃ m1, max most 0 = m1 := ⟨_, rfl⟩
  rw [hm1] at hM
  have hmx := fun (ts : Array TypeId) (t : TypeId) (w : World) => run_maxi (P := Try.prog) ts t most 0 m1 hm1 w
  have hmi := fun (ts : Array TypeId) (t : TypeId) (w : World) => run_mini (P := Try.prog) ts t m1 8388608 M hM w
  have hM0 : 0 ≤ M := by omega
  obtain ⟨⟨cn, s1⟩, hcn⟩ : ∃ q, RS.count ⟨xs, 0, 0⟩ M = q := ⟨_, rfl⟩
  have hok0 : (⟨xs, 0, 0⟩ : RS).ok := ⟨Nat.zero_le _, by simp only; omega, hb⟩
  have hin := int_in hok0
  have hcnb : 0 ≤ cn ∧ cn ≤ 400000 := by
    rw [RS.count] at hcn
    split at hcn
    · have := (Prod.mk.inj hcn).1; omega
    · next h => rw [hcn] at h hin; simp only at h hin; omega
  obtain ⟨N, rfl⟩ : ∃ N : Nat, cn = (N : Int) := ⟨cn.toNat, by omega⟩
  have HTK : Hid (Ch.tk xs M = if (N : Int) = 0 then ([], s1.fin) else Ch.tkB N s1) := by
    show Ch.tk xs M = _
    rw [Ch.tk, hcn]
    rfl
  have HX := Lib.hid hx
  have HLI := Lib.hid hl
  have HN := Lib.hid hn
  have HBY := Lib.hid hb
  have HNB : Hid (N ≤ 400000) := by show N ≤ _; omega
  have HCN := Lib.hid (fun g base W (h : IsRd base g ⟨xs, 0, 0⟩ W) => Ir.count g ⟨xs, 0, 0⟩ base M W h)
  rw [hcn] at HCN
  have hz4 : ∀ w, (zeroValue 44).run Try.prog w = .ok (.agg (us no4)) w := four_zero
  generalize hZ4 : us no4 = Z4 at hz4
  have HZ4 := Lib.hid hZ4
  clear hx hl hn hb hM hm1 hcn hok0 hin hcnb hZ4 hM1 hM0
  unfold rd at HCN
  go_enter Try.func8, Try.ntmps8
  go_wp2_with fail
  refine (iread B n cb xs _ HX.out HLI.out HN.out HBY.out).mono ?_
  rintro e w1 ⟨g, rfl, hr1, hk1⟩
  have HR1 := Lib.hid hr1
  have HK1 := Lib.hid hk1
  have HGB : Hid (w.heap.size ≤ g) := hr1.1
  clear hr1 hk1
  unfold rd
  go_upto_region 2 with fail
  obtain ⟨R6, hR6⟩ : ∃ R6, w1.heap.size = R6 := ⟨_, rfl⟩
  have HB2 : Hid (Blk (w1.alloc (.cells #[.pointer (some ⟨g, 0, none⟩)] 54)) w1.heap.size 54 #[.pointer (some ⟨g, 0, none⟩)]) := Blk.new _ _ _
  have HKa : Hid (Keeps (fun _ => False) w1 (w1.alloc (.cells #[.pointer (some ⟨g, 0, none⟩)] 54))) := (Keeps.refl _ _).alloc _
  generalize w1.alloc (.cells #[.pointer (some ⟨g, 0, none⟩)] 54) = W2 at HB2 HKa ⊢
  rw [hR6] at HB2 ⊢
  have HGR : Hid (g < R6) := by show g < R6; rw [← hR6]; exact HR1.out.lt
  have HR2 := Lib.hid (HR1.out.keeps HKa.out (fun _ _ => id))
  have HK2 := Lib.hid (HK1.out.trans HKa.out)
  have hb2 : W2.cell? ⟨R6, 0, none⟩ = some (.pointer (some ⟨g, 0, none⟩)) := HB2.out.cell 0
  clear hR6 HR1 HK1 HKa
  go_upto_region 3 with (
    go_at_call 19
    refine (HCN.out g w.heap.size W2 HR2.out).mono ?_
    rintro e w3 ⟨rfl, hr3, hk3⟩
    have HR3 := Lib.hid hr3
    have HB3 := Lib.hid (HB2.out.keeps hk3 (fun e => by have := HGR.out; omega))
    have HK3 := Lib.hid (Rt.keeps_low HK2.out hk3 (fun y hy => by rw [hy]; exact HGB.out))
    clear hr3 hk3 HB2 HK2 HR2 hb2)
  have hb3 : w3.cell? ⟨R6, 0, none⟩ = some (.pointer (some ⟨g, 0, none⟩)) := HB3.out.cell 0
  by_cases hN0 : N = 0
  · subst hN0
    have HEN := Lib.hid (Wr.end_ g s1 w.heap.size w3 HR3.out)
    go_wp2_with (
      go_at_call 20
      refine HEN.out.mono ?_
      rintro e w4 ⟨rfl, q4, rfl⟩)
    go_ret2
    rw [HTK.out]
    exact ⟨none, 0, 0, rfl, rfl, Nat.le_refl _, .inl rfl, HK3.out.drewN q4⟩
  have HN0 := Lib.hid hN0
  have hNe : ((N : Int) == 0) = false := by simpa using hN0
  have HTTC := Lib.hid (takeTables_ g w.heap.size s1 w3 HR3.out)
  unfold rd at HTTC
  have hTT := take_tabs HR3.out.2.1
  obtain ⟨tb, s2, hts⟩ : ∃ tb s2, Ch.takeTs s1 = (tb, s2) := ⟨_, _, rfl⟩
  rw [hts] at HTTC hTT
  simp only at HTTC hTT
  have HTT := Lib.hid hTT
  have HTS := Lib.hid hts
  clear hts hN0 hTT
  go_upto_region 6 with (
    go_at_call 21
    refine HTTC.out.mono ?_
    rintro e W5 ⟨bT, rfl, hf4, hr4, hs4, hk4⟩
    have HT5 := Lib.hid hf4
    have HR5 : Hid (IsRd w.heap.size g s2 W5) := hr4
    have HK4 := Lib.hid hk4
    have HG8 : Hid (g < bT) := by have := HR3.out.lt; show _ < _; omega
    clear hf4 hr4 hs4 hk4 hb3)
  have HB5 := Lib.hid (HB3.out.keeps HK4.out (fun e => by have := HGR.out; omega))
  have HK5 := Lib.hid (Rt.keeps_low HK3.out HK4.out (fun y hy => by rw [hy]; exact HGB.out))
  have hb5 : W5.cell? ⟨R6, 0, none⟩ = some (.pointer (some ⟨g, 0, none⟩)) := HB5.out.cell 0
  obtain ⟨f, s3, hfs⟩ : ∃ f s3, startF s2 = (f, s3) := ⟨_, _, rfl⟩
  obtain ⟨all, F, s4, hun⟩ : ∃ all F s4, unU tb N f s3 = (all, F, s4) := ⟨_, _, _, rfl⟩
  have hst := start_st HR5.out.2.1
  rw [hfs] at hst
  have HOK : Hid (s3.e = 0 → (∀ a l, tb a = some l → Tb l) ∧ St f) := fun h0 => ⟨HTT.out (wf_st (by rw [hfs]; exact h0) HR5.out.2.1), hst.2 h0⟩
  have HF4 : Hid (f.length = 4) := hst.1
  have HST := Lib.hid (fun W (h : IsRd w.heap.size g s2 W) => Rs.start g w.heap.size s2 W h)
  rw [hfs] at HST
  simp only at HST
  have HUN := Lib.hid (fun W (h : IsRd w.heap.size g s3 W) (hm : IsF Try.prog 5 256 bkl W bT (tabV tb)) => unpacked_ bT g w.heap.size N f s3 tb W hm h (by have := HN0.out; omega) HNB.out HF4.out HOK.out)
  rw [hun] at HUN
  unfold UnAns rd at HUN
  unfold rd at HST
  simp only at HUN
  have hFl : F.length = 4 := by have := unU_len (tb := tb) (n := N) (s := s3) HF4.out; rw [hun] at this; exact this
  have HFL := Lib.hid hFl
  have HFI := Lib.hid (four_size hFl)
  have HFZ : Hid (Z4.size = (us F).size) := by show _ = _; rw [← HZ4.out, us_size, us_size, hFl]; rfl
  have HUG : Hid (s3.ok → s4.e = 0 → all.length = N ∧ ∀ c ∈ all, 0 ≤ c ∧ c < 256) := fun h1 h2 => by have := unU_good h1 HOK.out (n := N) (by rw [hun]; exact h2); rw [hun] at this; exact this
  have HTKB : Hid (Ch.tk xs M = if s4.fin ≠ 0 then ([], s4.fin) else if F ≠ low4 then ([], 4) else if ¬ Ch.SameT (Ch.tabs all) tb then ([], 4) else (all, 0)) := by
    show Ch.tk xs M = _
    have hA : Ch.unpA N s1 = (all, F, s4) := by
      rw [← hun, Ch.unpA, HTS.out]
      simp only
      rw [hfs]
      rfl
    rw [HTK.out, if_neg (by have := HN0.out; omega), Ch.tkB, HTS.out, hA]
  have HT5q : Hid (∀ q, Keeps (· = g) W5 q → IsF Try.prog 5 256 bkl q bT (tabV tb)) := fun q k => HT5.out.keeps k (fun e => by have := HG8.out; omega)
  have HB5q : Hid (∀ q, Keeps (· = g) W5 q → q.cell? ⟨R6, 0, none⟩ = some (.pointer (some ⟨g, 0, none⟩))) := fun q k => (HB5.out.keeps k (fun e => by have := HGR.out; omega)).cell 0
  have HOK3 : Hid s3.ok := by have := (start_ok HR5.out.2.1); rw [hfs] at this; exact this
  have HS2E : Hid (s4.e = 0 → ∀ a l, tb a = some l → Tb l) := by
    refine Lib.hid fun h4 => ?_
    by_cases h3 : s3.e = 0
    · exact (HOK.out h3).1
    · exfalso
      have : s4 = s3 := by
        have h := hun
        unfold unU at h
        rw [if_pos h3] at h
        exact (Prod.mk.inj (Prod.mk.inj h).2).2.symm
      rw [this] at h4
      exact h3 h4
  clear HK4 HB3 HK3 hfs hun hst HTTC hFl
  -- region 6
  go_cut [9, 10] from 26 to 35 (fun av rv wx => ∃ (A7 : Option Addr) (c7 m7 R10 : Nat), av = .slice A7 m7 c7 ∧ rv = .pointer (some ⟨R10, 0, none⟩) ∧ Hid (all.length = m7 ∧ Lies wx A7 all ∧ IsRd w.heap.size g s4 wx ∧ Blk wx R10 44 (us F) ∧ Keeps (· = g) W5 wx ∧ g < R10 ∧ W5.heap.size ≤ R10 ∧ m7 ≤ c7))
  case first =>
    refine wp_region_held_drew (S := fun w' => Keeps (· = g) W5 w') (by kernel_rfl) ((Keeps.refl _ _).drewN 1) (fun hHeld => ?_)
    have HRA : Hid (IsRd w.heap.size g s2 W5.drew) := HR5.out.drewN 1
    generalize W5.drew = w11 at hHeld HRA ⊢
    refine wpAnyH_take (i := 0) (v := ?v10) rfl (by kernel_rfl) (by kernel_rfl) (by kernel_rfl) (fun _ _ _ h => h) (Or.inl ⟨by rfl, ?y10⟩) hHeld ?r10
    case y10 => (intro w hSw; go_simp; try with_reducible rfl)
    try simp only [Act.put, List.getElem_toArray, List.getElem_cons_succ, List.getElem_cons_zero, List.setIfInBounds_toArray, List.set_cons_zero, List.set_cons_succ]
    refine wpAnyH_take (i := 1) (v := ?v11) rfl (by kernel_rfl) (by kernel_rfl) (by kernel_rfl) (fun _ _ _ h => h) (Or.inl ⟨by rfl, ?y11⟩) hHeld ?r11
    case y11 => (intro w hSw; go_simp; try with_reducible rfl)
    try simp only [Act.put, List.getElem_toArray, List.getElem_cons_succ, List.getElem_cons_zero, List.setIfInBounds_toArray, List.set_cons_zero, List.set_cons_succ]
    refine wpAnyH_take (i := 2) (v := ?v12) rfl (by kernel_rfl) (by kernel_rfl) (by kernel_rfl) (fun _ _ _ h => h) (Or.inl ⟨by rfl, ?y12⟩) hHeld ?r12
    case y12 => (intro w hSw; have hb5 := HB5q.out w hSw; go_simp; try with_reducible rfl)
    try simp only [Act.put, List.getElem_toArray, List.getElem_cons_succ, List.getElem_cons_zero, List.setIfInBounds_toArray, List.set_cons_zero, List.set_cons_succ]
    refine wpAnyH_take (i := 4) (v := ?v13) rfl (by kernel_rfl) (by kernel_rfl) (by kernel_rfl) (fun _ _ _ h => h) (Or.inl ⟨by rfl, ?y13⟩) hHeld ?r13
    case y13 => (intro w hSw; have hb5 := HB5q.out w hSw; go_simp; try with_reducible rfl)
    try simp only [Act.put, List.getElem_toArray, List.getElem_cons_succ, List.getElem_cons_zero, List.setIfInBounds_toArray, List.set_cons_zero, List.set_cons_succ]
    refine wpAnyH_ready (rs := [3, 9]) (by kernel_rfl) (by simp) ?_
    refine AllReadyH.cons rfl (fun K hK => ?_) (AllReadyH.cons rfl (fun K hK => ?_) AllReadyH.nil)
    · go_simp
      refine (HST.out _ HRA.out).mono ?_
      rintro e w6 ⟨rfl, hr6, hk6⟩
      dsimp only
      have HR6 := Lib.hid hr6
      have hH6 := hHeld.trans hk6
      clear hr6 hk6
      refine hK.out _ _ hH6 (fun hHeld => ?_)
      clear hK K
      try simp only [Act.put, List.getElem_toArray, List.getElem_cons_succ, List.getElem_cons_zero, List.setIfInBounds_toArray, List.set_cons_zero, List.set_cons_succ]
      refine wpAnyH_ready (rs := [5, 9]) (by kernel_rfl) (by simp) ?_
      refine AllReadyH.cons rfl (fun K hK => ?_) (AllReadyH.cons rfl (fun K hK => ?_) AllReadyH.nil)
      · go_simp
        refine (HUN.out _ HR6.out (HT5q.out _ hHeld)).mono ?_
        rintro e w7 ⟨A7, m7, c7, rfl, hl7, hmc7, hf7, ho7, hn7, hr7, hk7⟩
        dsimp only
        have HR7 := Lib.hid hr7
        have HL7 := Lib.hid hl7
        have HO7 := Lib.hid ho7
        have HMC := Lib.hid hmc7
        have HP7 : Hid (all = [] ∨ ∀ b o, A7 = some ⟨b, o, none⟩ → b < w7.heap.size) := Lib.hid (by
          rcases ho7 with h | ⟨b, o, rfl, hb, _⟩; exact .inl h; exact .inr fun b2 o2 hA => by injection hA with hA; injection hA with hA; omega)
        have hH7 := hHeld.trans hk7
        clear hl7 ho7 hr7 hk7 hmc7 hf7 hn7
        refine hK.out _ _ hH7 (fun hHeld => ?_)
        clear hK K
        try simp only [Act.put, List.getElem_toArray, List.getElem_cons_succ, List.getElem_cons_zero, List.setIfInBounds_toArray, List.set_cons_zero, List.set_cons_succ]
        refine wpAnyH_take (i := 6) (v := ?v1) rfl (by kernel_rfl) (by kernel_rfl) (by kernel_rfl) (fun _ _ _ h => h) (Or.inl ⟨by rfl, ?y1⟩) hHeld ?r1
        case y1 => (intro w hSw; go_simp; try with_reducible rfl)
        try simp only [Act.put, List.getElem_toArray, List.getElem_cons_succ, List.getElem_cons_zero, List.setIfInBounds_toArray, List.set_cons_zero, List.set_cons_succ]
        refine wpAnyH_take (i := 7) (v := ?v2) rfl (by kernel_rfl) (by kernel_rfl) (by kernel_rfl) (fun _ _ _ h => h) (Or.inl ⟨by rfl, ?y2⟩) hHeld ?r2
        case y2 => (intro w hSw; go_simp; try with_reducible rfl)
        try simp only [Act.put, List.getElem_toArray, List.getElem_cons_succ, List.getElem_cons_zero, List.setIfInBounds_toArray, List.set_cons_zero, List.set_cons_succ]
        refine wpAnyH_take (i := 8) (v := ?v3) rfl (by kernel_rfl) (by kernel_rfl) (by kernel_rfl) (fun _ _ _ h => h) (Or.inl ⟨by rfl, ?y3⟩) hHeld ?r3
        case y3 => (intro w hSw; go_simp; try with_reducible rfl)
        try simp only [Act.put, List.getElem_toArray, List.getElem_cons_succ, List.getElem_cons_zero, List.setIfInBounds_toArray, List.set_cons_zero, List.set_cons_succ]
        refine wpAnyH_ready (rs := [9]) (by kernel_rfl) (by simp) ?_
        refine AllReadyH.cons rfl (fun K hK => ?_) AllReadyH.nil
        go_simp
        obtain ⟨R10, hR10⟩ : ∃ R10, (w7).heap.size = R10 := ⟨_, rfl⟩
        have HBR : Hid (Blk ((w7).alloc (.cells Z4 44)) R10 44 Z4) := by show Blk _ _ _ _; rw [← hR10]; exact Blk.new _ _ _
        have HRG : Hid (g < R10) := by show g < R10; rw [← hR10]; exact (HR7).out.lt
        have HR10W : Hid (W5.heap.size ≤ R10) := by show W5.heap.size ≤ R10; rw [← hR10]; exact hHeld.size
        have hka : Keeps (fun _ => False) (w7) ((w7).alloc (.cells Z4 44)) := (Keeps.refl _ _).alloc _
        have HR7 := Lib.hid (HR7.out.keeps hka (fun _ _ => id))
        have HO7 := Lib.hid (HO7.out.keeps hka (fun _ _ _ => id))
        have HA7 : Hid (all = [] ∨ ∀ b o, A7 = some ⟨b, o, none⟩ → b ≠ R10) := Lib.hid (by rcases HP7.out with h | h; exact .inl h; exact .inr fun b o hA => by have := h b o hA; omega)
        have hHa := hHeld.trans hka.none_
        generalize (w7).alloc (.cells Z4 44) = wal at HBR hHa HR7 HO7 ⊢
        rw [hR10]
        clear hR10 hka
        refine hK.out _ _ hHa (fun hHeld => ?_)
        clear hK K
        try simp only [Act.put, List.getElem_toArray, List.getElem_cons_succ, List.getElem_cons_zero, List.setIfInBounds_toArray, List.set_cons_zero, List.set_cons_succ]
        refine wpAnyH_take (i := 10) (v := ?v114) rfl (by kernel_rfl) (by kernel_rfl) (by kernel_rfl) (fun _ _ _ h => h) (Or.inl ⟨by rfl, ?y114⟩) hHeld ?r114
        case y114 => (intro w hSw; go_simp; try with_reducible rfl)
        try simp only [Act.put, List.getElem_toArray, List.getElem_cons_succ, List.getElem_cons_zero, List.setIfInBounds_toArray, List.set_cons_zero, List.set_cons_succ]
        refine wpAnyH_ready (rs := [11]) (by kernel_rfl) (by simp) ?_
        refine AllReadyH.cons rfl (fun K hK => ?_) AllReadyH.nil
        refine wp_store_row 44 (.tmp 10) (.tmp 34) rfl R10 (us F) rfl rfl 44 Z4 HBR.out HFI.out HFZ.out (us_one F) ?_
        refine hK.out _ _ (Keeps.setRow hHeld (.inr HR10W.out) _) (fun hHeld => ?_)
        clear hK K
        try simp only [Act.put, List.getElem_toArray, List.getElem_cons_succ, List.getElem_cons_zero, List.setIfInBounds_toArray, List.set_cons_zero, List.set_cons_succ]
        refine wpAnyH_done (by kernel_rfl) ?_ _
        have HFin := Lib.hid hHeld
        clear hHeld
        have HKR := fun wq : World => Keeps.setRow (Keeps.refl (· = R10) wq) (g := R10) (.inl rfl) (us F)
        have HEND := Lib.hid (⟨HL7.out, lies_or HO7.out (HKR _) HA7.out, HR7.out.low (HKR _) (fun b _ hb e => by have := HRG.out; omega), Blk.setRow HBR.out (us F), HFin.out, HRG.out, HR10W.out, HMC.out⟩ : _ ∧ _ ∧ _ ∧ _ ∧ _ ∧ _ ∧ _ ∧ _)
        go_wp2_with fail
        go_meet
        case rel => exact ⟨A7, c7, m7, R10, rfl, rfl, HEND⟩
      · go_simp
        obtain ⟨R10, hR10⟩ : ∃ R10, (w6).heap.size = R10 := ⟨_, rfl⟩
        have HBR : Hid (Blk ((w6).alloc (.cells Z4 44)) R10 44 Z4) := by show Blk _ _ _ _; rw [← hR10]; exact Blk.new _ _ _
        have HRG : Hid (g < R10) := by show g < R10; rw [← hR10]; exact (HR6).out.lt
        have HR10W : Hid (W5.heap.size ≤ R10) := by show W5.heap.size ≤ R10; rw [← hR10]; exact hHeld.size
        have hka : Keeps (fun _ => False) (w6) ((w6).alloc (.cells Z4 44)) := (Keeps.refl _ _).alloc _
        have HR6 := Lib.hid (HR6.out.keeps hka (fun _ _ => id))
        have hHa := hHeld.trans hka.none_
        generalize (w6).alloc (.cells Z4 44) = wal at HBR hHa HR6 ⊢
        rw [hR10]
        clear hR10 hka
        refine hK.out _ _ hHa (fun hHeld => ?_)
        clear hK K
        try simp only [Act.put, List.getElem_toArray, List.getElem_cons_succ, List.getElem_cons_zero, List.setIfInBounds_toArray, List.set_cons_zero, List.set_cons_succ]
        refine wpAnyH_ready (rs := [5]) (by kernel_rfl) (by simp) ?_
        refine AllReadyH.cons rfl (fun K hK => ?_) AllReadyH.nil
        go_simp
        refine (HUN.out _ HR6.out (HT5q.out _ hHeld)).mono ?_
        rintro e w7 ⟨A7, m7, c7, rfl, hl7, hmc7, hf7, ho7, hn7, hr7, hk7⟩
        dsimp only
        have HR7 := Lib.hid hr7
        have HL7 := Lib.hid hl7
        have HO7 := Lib.hid ho7
        have HMC := Lib.hid hmc7
        have HP7 : Hid (all = [] ∨ ∀ b o, A7 = some ⟨b, o, none⟩ → b ≠ R10) := Lib.hid (by
          exact .inr fun b o hA => by have := hn7 b o hA; have := HBR.out.lt; omega)
        have hH7 := hHeld.trans hk7
        have HBR := Lib.hid (HBR.out.keeps hk7 (fun e => by have := HRG.out; omega))
        clear hl7 ho7 hr7 hk7 hmc7 hf7 hn7
        refine hK.out _ _ hH7 (fun hHeld => ?_)
        clear hK K
        try simp only [Act.put, List.getElem_toArray, List.getElem_cons_succ, List.getElem_cons_zero, List.setIfInBounds_toArray, List.set_cons_zero, List.set_cons_succ]
        refine wpAnyH_take (i := 6) (v := ?v4) rfl (by kernel_rfl) (by kernel_rfl) (by kernel_rfl) (fun _ _ _ h => h) (Or.inl ⟨by rfl, ?y4⟩) hHeld ?r4
        case y4 => (intro w hSw; go_simp; try with_reducible rfl)
        try simp only [Act.put, List.getElem_toArray, List.getElem_cons_succ, List.getElem_cons_zero, List.setIfInBounds_toArray, List.set_cons_zero, List.set_cons_succ]
        refine wpAnyH_take (i := 7) (v := ?v5) rfl (by kernel_rfl) (by kernel_rfl) (by kernel_rfl) (fun _ _ _ h => h) (Or.inl ⟨by rfl, ?y5⟩) hHeld ?r5
        case y5 => (intro w hSw; go_simp; try with_reducible rfl)
        try simp only [Act.put, List.getElem_toArray, List.getElem_cons_succ, List.getElem_cons_zero, List.setIfInBounds_toArray, List.set_cons_zero, List.set_cons_succ]
        refine wpAnyH_take (i := 8) (v := ?v6) rfl (by kernel_rfl) (by kernel_rfl) (by kernel_rfl) (fun _ _ _ h => h) (Or.inl ⟨by rfl, ?y6⟩) hHeld ?r6
        case y6 => (intro w hSw; go_simp; try with_reducible rfl)
        try simp only [Act.put, List.getElem_toArray, List.getElem_cons_succ, List.getElem_cons_zero, List.setIfInBounds_toArray, List.set_cons_zero, List.set_cons_succ]
        have HA7 : Hid (all = [] ∨ ∀ b o, A7 = some ⟨b, o, none⟩ → b ≠ R10) := HP7.out
        refine wpAnyH_take (i := 10) (v := ?v115) rfl (by kernel_rfl) (by kernel_rfl) (by kernel_rfl) (fun _ _ _ h => h) (Or.inl ⟨by rfl, ?y115⟩) hHeld ?r115
        case y115 => (intro w hSw; go_simp; try with_reducible rfl)
        try simp only [Act.put, List.getElem_toArray, List.getElem_cons_succ, List.getElem_cons_zero, List.setIfInBounds_toArray, List.set_cons_zero, List.set_cons_succ]
        refine wpAnyH_ready (rs := [11]) (by kernel_rfl) (by simp) ?_
        refine AllReadyH.cons rfl (fun K hK => ?_) AllReadyH.nil
        refine wp_store_row 44 (.tmp 10) (.tmp 34) rfl R10 (us F) rfl rfl 44 Z4 HBR.out HFI.out HFZ.out (us_one F) ?_
        refine hK.out _ _ (Keeps.setRow hHeld (.inr HR10W.out) _) (fun hHeld => ?_)
        clear hK K
        try simp only [Act.put, List.getElem_toArray, List.getElem_cons_succ, List.getElem_cons_zero, List.setIfInBounds_toArray, List.set_cons_zero, List.set_cons_succ]
        refine wpAnyH_done (by kernel_rfl) ?_ _
        have HFin := Lib.hid hHeld
        clear hHeld
        have HKR := fun wq : World => Keeps.setRow (Keeps.refl (· = R10) wq) (g := R10) (.inl rfl) (us F)
        have HEND := Lib.hid (⟨HL7.out, lies_or HO7.out (HKR _) HA7.out, HR7.out.low (HKR _) (fun b _ hb e => by have := HRG.out; omega), Blk.setRow HBR.out (us F), HFin.out, HRG.out, HR10W.out, HMC.out⟩ : _ ∧ _ ∧ _ ∧ _ ∧ _ ∧ _ ∧ _ ∧ _)
        go_wp2_with fail
        go_meet
        case rel => exact ⟨A7, c7, m7, R10, rfl, rfl, HEND⟩
    · go_simp
      obtain ⟨R10, hR10⟩ : ∃ R10, (w11).heap.size = R10 := ⟨_, rfl⟩
      have HBR : Hid (Blk ((w11).alloc (.cells Z4 44)) R10 44 Z4) := by show Blk _ _ _ _; rw [← hR10]; exact Blk.new _ _ _
      have HRG : Hid (g < R10) := by show g < R10; rw [← hR10]; exact (HRA).out.lt
      have HR10W : Hid (W5.heap.size ≤ R10) := by show W5.heap.size ≤ R10; rw [← hR10]; exact hHeld.size
      have hka : Keeps (fun _ => False) (w11) ((w11).alloc (.cells Z4 44)) := (Keeps.refl _ _).alloc _
      have HRA := Lib.hid (HRA.out.keeps hka (fun _ _ => id))
      have hHa := hHeld.trans hka.none_
      generalize (w11).alloc (.cells Z4 44) = wal at HBR hHa HRA ⊢
      rw [hR10]
      clear hR10 hka
      refine hK.out _ _ hHa (fun hHeld => ?_)
      clear hK K
      try simp only [Act.put, List.getElem_toArray, List.getElem_cons_succ, List.getElem_cons_zero, List.setIfInBounds_toArray, List.set_cons_zero, List.set_cons_succ]
      refine wpAnyH_ready (rs := [3]) (by kernel_rfl) (by simp) ?_
      refine AllReadyH.cons rfl (fun K hK => ?_) AllReadyH.nil
      go_simp
      refine (HST.out _ HRA.out).mono ?_
      rintro e w6 ⟨rfl, hr6, hk6⟩
      dsimp only
      have HR6 := Lib.hid hr6
      have hH6 := hHeld.trans hk6
      have HBR := Lib.hid (HBR.out.keeps hk6 (fun e => by have := HRG.out; omega))
      clear hr6 hk6
      refine hK.out _ _ hH6 (fun hHeld => ?_)
      clear hK K
      try simp only [Act.put, List.getElem_toArray, List.getElem_cons_succ, List.getElem_cons_zero, List.setIfInBounds_toArray, List.set_cons_zero, List.set_cons_succ]
      refine wpAnyH_ready (rs := [5]) (by kernel_rfl) (by simp) ?_
      refine AllReadyH.cons rfl (fun K hK => ?_) AllReadyH.nil
      go_simp
      refine (HUN.out _ HR6.out (HT5q.out _ hHeld)).mono ?_
      rintro e w7 ⟨A7, m7, c7, rfl, hl7, hmc7, hf7, ho7, hn7, hr7, hk7⟩
      dsimp only
      have HR7 := Lib.hid hr7
      have HL7 := Lib.hid hl7
      have HO7 := Lib.hid ho7
      have HMC := Lib.hid hmc7
      have HP7 : Hid (all = [] ∨ ∀ b o, A7 = some ⟨b, o, none⟩ → b ≠ R10) := Lib.hid (by
        exact .inr fun b o hA => by have := hn7 b o hA; have := HBR.out.lt; omega)
      have hH7 := hHeld.trans hk7
      have HBR := Lib.hid (HBR.out.keeps hk7 (fun e => by have := HRG.out; omega))
      clear hl7 ho7 hr7 hk7 hmc7 hf7 hn7
      refine hK.out _ _ hH7 (fun hHeld => ?_)
      clear hK K
      try simp only [Act.put, List.getElem_toArray, List.getElem_cons_succ, List.getElem_cons_zero, List.setIfInBounds_toArray, List.set_cons_zero, List.set_cons_succ]
      refine wpAnyH_take (i := 6) (v := ?v7) rfl (by kernel_rfl) (by kernel_rfl) (by kernel_rfl) (fun _ _ _ h => h) (Or.inl ⟨by rfl, ?y7⟩) hHeld ?r7
      case y7 => (intro w hSw; go_simp; try with_reducible rfl)
      try simp only [Act.put, List.getElem_toArray, List.getElem_cons_succ, List.getElem_cons_zero, List.setIfInBounds_toArray, List.set_cons_zero, List.set_cons_succ]
      refine wpAnyH_take (i := 7) (v := ?v8) rfl (by kernel_rfl) (by kernel_rfl) (by kernel_rfl) (fun _ _ _ h => h) (Or.inl ⟨by rfl, ?y8⟩) hHeld ?r8
      case y8 => (intro w hSw; go_simp; try with_reducible rfl)
      try simp only [Act.put, List.getElem_toArray, List.getElem_cons_succ, List.getElem_cons_zero, List.setIfInBounds_toArray, List.set_cons_zero, List.set_cons_succ]
      refine wpAnyH_take (i := 8) (v := ?v9) rfl (by kernel_rfl) (by kernel_rfl) (by kernel_rfl) (fun _ _ _ h => h) (Or.inl ⟨by rfl, ?y9⟩) hHeld ?r9
      case y9 => (intro w hSw; go_simp; try with_reducible rfl)
      try simp only [Act.put, List.getElem_toArray, List.getElem_cons_succ, List.getElem_cons_zero, List.setIfInBounds_toArray, List.set_cons_zero, List.set_cons_succ]
      have HA7 : Hid (all = [] ∨ ∀ b o, A7 = some ⟨b, o, none⟩ → b ≠ R10) := HP7.out
      refine wpAnyH_take (i := 10) (v := ?v116) rfl (by kernel_rfl) (by kernel_rfl) (by kernel_rfl) (fun _ _ _ h => h) (Or.inl ⟨by rfl, ?y116⟩) hHeld ?r116
      case y116 => (intro w hSw; go_simp; try with_reducible rfl)
      try simp only [Act.put, List.getElem_toArray, List.getElem_cons_succ, List.getElem_cons_zero, List.setIfInBounds_toArray, List.set_cons_zero, List.set_cons_succ]
      refine wpAnyH_ready (rs := [11]) (by kernel_rfl) (by simp) ?_
      refine AllReadyH.cons rfl (fun K hK => ?_) AllReadyH.nil
      refine wp_store_row 44 (.tmp 10) (.tmp 34) rfl R10 (us F) rfl rfl 44 Z4 HBR.out HFI.out HFZ.out (us_one F) ?_
      refine hK.out _ _ (Keeps.setRow hHeld (.inr HR10W.out) _) (fun hHeld => ?_)
      clear hK K
      try simp only [Act.put, List.getElem_toArray, List.getElem_cons_succ, List.getElem_cons_zero, List.setIfInBounds_toArray, List.set_cons_zero, List.set_cons_succ]
      refine wpAnyH_done (by kernel_rfl) ?_ _
      have HFin := Lib.hid hHeld
      clear hHeld
      have HKR := fun wq : World => Keeps.setRow (Keeps.refl (· = R10) wq) (g := R10) (.inl rfl) (us F)
      have HEND := Lib.hid (⟨HL7.out, lies_or HO7.out (HKR _) HA7.out, HR7.out.low (HKR _) (fun b _ hb e => by have := HRG.out; omega), Blk.setRow HBR.out (us F), HFin.out, HRG.out, HR10W.out, HMC.out⟩ : _ ∧ _ ∧ _ ∧ _ ∧ _ ∧ _ ∧ _ ∧ _)
      go_wp2_with fail
      go_meet
      case rel => exact ⟨A7, c7, m7, R10, rfl, rfl, HEND⟩
  case rest =>
    obtain ⟨A7, c7, m7, R10, rfl, rfl, HE⟩ := hcut
    have HL7 := Lib.hid HE.out.1
    have HO7 := Lib.hid HE.out.2.1
    have HR7 := Lib.hid HE.out.2.2.1
    have HB7 := Lib.hid HE.out.2.2.2.1
    have HK7 := Lib.hid HE.out.2.2.2.2.1
    have HMC := Lib.hid HE.out.2.2.2.2.2.2.2
    have HKw := Lib.hid (Rt.keeps_low HK5.out HK7.out (fun y hy => by rw [hy]; exact HGB.out))
    have HT7 := Lib.hid (HT5q.out wc HK7.out)
    have hb7 := HB5q.out wc HK7.out
    have HEN := Lib.hid (Wr.end_ g s4 w.heap.size wc HR7.out)
    obtain ⟨fi, hfi⟩ : ∃ fi, s4.fin = fi := ⟨_, rfl⟩
    rw [hfi] at HEN HTKB
    have HFN := Lib.hid hfi
    clear HE hfi HST HUN HR5 HT5 HB5 hb5
    go_upto_region 8 with (
      go_at_call 20
      refine HEN.out.mono ?_
      rintro e w8 ⟨rfl, q8, rfl⟩)
    have HKq : Hid (Keeps (fun _ => False) wc (wc.drewN q8)) := (Keeps.refl _ _).drewN q8
    generalize wc.drewN q8 = w8 at HKq ⊢
    have HK8 := Lib.hid (HKw.out.trans HKq.out)
    have HT8 := Lib.hid (HT7.out.keeps HKq.out id)
    have HB8 := Lib.hid (HB7.out.keeps HKq.out id)
    have HO8 := Lib.hid (HO7.out.keeps HKq.out (fun _ _ _ => id))
    clear HKq HEN hb7 HKw HT7 HB7 HO7
    by_cases hf0 : fi = 0
    case neg =>
      have hne : (fi != 0) = true := by simpa using hf0
      go_wp2_with fail
      go_ret2
      rw [HTKB.out, if_pos hf0]
      exact ⟨none, 0, 0, rfl, rfl, Nat.le_refl _, .inl rfl, HK8.out⟩
    subst hf0
    have hs4 : s4.e = 0 := by
      have h1 := HFN.out
      unfold RS.fin at h1
      split at h1
      · omega
      · exact h1
    obtain ⟨hal, hab⟩ := HUG.out HOK3.out hs4
    have HAL := Lib.hid hal
    have HAB := Lib.hid hab
    have HTBS := Lib.hid (HS2E.out hs4)
    have HNEW := Lib.hid new4
    obtain ⟨L4, hL4⟩ : ∃ L4, us low4 = L4 := ⟨_, rfl⟩
    rw [hL4] at HNEW
    by_cases hF : F = low4
    case neg =>
      have HQ4 := Lib.hid (fun w => run_eq4 F low4 (us F) L4 false rfl hL4 HFL.out rfl (by simpa using hF) w)
      have HF0 := Lib.hid hF
      clear hs4 hal hab hL4 HUG hF
      obtain ⟨fa, fb, fc, fd, rfl⟩ := four HFL.out
      have hq4 := HQ4.out
      simp only [us, List.map_cons, List.map_nil] at hq4
      have hnq : ∀ w, (binOp .neq 44 (.agg #[Value.int .u32 (fa : Int), .int .u32 (fb : Int), .int .u32 (fc : Int), .int .u32 (fd : Int)]) (.agg L4)).run Try.prog w = .ok (.bool true) w := fun w => by rw [run_neq_struct, hq4]; rfl
      clear hq4
      have HCq : Hid (∀ q, Keeps (fun _ => False) w8 q → q.cell? ⟨R10, 0, none⟩ = some (.int .u32 (fa : Int)) ∧ q.cell? ⟨R10, 1, none⟩ = some (.int .u32 (fb : Int)) ∧ q.cell? ⟨R10, 2, none⟩ = some (.int .u32 (fc : Int)) ∧ q.cell? ⟨R10, 3, none⟩ = some (.int .u32 (fd : Int))) := fun q k => ⟨(HB8.out.keeps k id).cell 0, (HB8.out.keeps k id).cell 1, (HB8.out.keeps k id).cell 2, (HB8.out.keeps k id).cell 3⟩
      obtain ⟨hc0, hc1, hc2, hc3⟩ := HCq.out w8 (Keeps.refl _ _)
      go_upto_region 10 with fail
      refine wp_region_held_drew (S := fun w' => Keeps (fun _ => False) w8 w') (by kernel_rfl) ((Keeps.refl _ _).drewN 1) (fun hHeld => ?_)
      generalize w8.drew = wa at hHeld ⊢
      refine wpAnyH_take (i := 0) (v := ?v501) rfl (by kernel_rfl) (by kernel_rfl) (by kernel_rfl) (fun _ _ _ h => h) (Or.inl ⟨by rfl, ?y501⟩) hHeld ?r501
      case y501 => (intro w hSw; obtain ⟨hd0, hd1, hd2, hd3⟩ := HCq.out w hSw; go_simp; try with_reducible rfl)
      try simp only [Act.put, List.getElem_toArray, List.getElem_cons_succ, List.getElem_cons_zero, List.setIfInBounds_toArray, List.set_cons_zero, List.set_cons_succ]
      refine wpAnyH_ready (rs := [1]) (by kernel_rfl) (by simp) ?_
      refine AllReadyH.cons rfl (fun K hK => ?_) AllReadyH.nil
      go_simp
      refine (HNEW.out _).mono ?_
      rintro r9 w9 ⟨rfl, hk9⟩
      dsimp only
      have hH := hHeld.trans hk9
      clear hk9
      refine hK.out _ _ hH (fun hHeld => ?_)
      clear hK K
      try simp only [Act.put, List.getElem_toArray, List.getElem_cons_succ, List.getElem_cons_zero, List.setIfInBounds_toArray, List.set_cons_zero, List.set_cons_succ]
      refine wpAnyH_take (i := 2) (v := ?v502) rfl (by kernel_rfl) (by kernel_rfl) (by kernel_rfl) (fun _ _ _ h => h) (Or.inl ⟨by rfl, ?y502⟩) hHeld ?r502
      case y502 => (intro w hSw; go_simp; try with_reducible rfl)
      try simp only [Act.put, List.getElem_toArray, List.getElem_cons_succ, List.getElem_cons_zero, List.setIfInBounds_toArray, List.set_cons_zero, List.set_cons_succ]
      refine wpAnyH_take (i := 3) (v := ?v503) rfl (by kernel_rfl) (by kernel_rfl) (by kernel_rfl) (fun _ _ _ h => h) (Or.inl ⟨by rfl, ?y503⟩) hHeld ?r503
      case y503 => (intro w hSw; go_simp; try with_reducible rfl)
      try simp only [Act.put, List.getElem_toArray, List.getElem_cons_succ, List.getElem_cons_zero, List.setIfInBounds_toArray, List.set_cons_zero, List.set_cons_succ]
      refine wpAnyH_take (i := 4) (v := undef) rfl (by kernel_rfl) (by kernel_rfl) (by kernel_rfl) (fun _ _ _ h => h) (Or.inr ⟨by rfl, rfl⟩) hHeld ?_
      try simp only [Act.put, List.getElem_toArray, List.getElem_cons_succ, List.getElem_cons_zero, List.setIfInBounds_toArray, List.set_cons_zero, List.set_cons_succ]
      refine wpAnyH_take (i := 5) (v := undef) rfl (by kernel_rfl) (by kernel_rfl) (by kernel_rfl) (fun _ _ _ h => h) (Or.inr ⟨by rfl, rfl⟩) hHeld ?_
      try simp only [Act.put, List.getElem_toArray, List.getElem_cons_succ, List.getElem_cons_zero, List.setIfInBounds_toArray, List.set_cons_zero, List.set_cons_succ]
      refine wpAnyH_take (i := 6) (v := undef) rfl (by kernel_rfl) (by kernel_rfl) (by kernel_rfl) (fun _ _ _ h => h) (Or.inr ⟨by rfl, rfl⟩) hHeld ?_
      try simp only [Act.put, List.getElem_toArray, List.getElem_cons_succ, List.getElem_cons_zero, List.setIfInBounds_toArray, List.set_cons_zero, List.set_cons_succ]
      refine wpAnyH_take (i := 7) (v := undef) rfl (by kernel_rfl) (by kernel_rfl) (by kernel_rfl) (fun _ _ _ h => h) (Or.inr ⟨by rfl, rfl⟩) hHeld ?_
      try simp only [Act.put, List.getElem_toArray, List.getElem_cons_succ, List.getElem_cons_zero, List.setIfInBounds_toArray, List.set_cons_zero, List.set_cons_succ]
      refine wpAnyH_take (i := 8) (v := undef) rfl (by kernel_rfl) (by kernel_rfl) (by kernel_rfl) (fun _ _ _ h => h) (Or.inr ⟨by rfl, rfl⟩) hHeld ?_
      try simp only [Act.put, List.getElem_toArray, List.getElem_cons_succ, List.getElem_cons_zero, List.setIfInBounds_toArray, List.set_cons_zero, List.set_cons_succ]
      refine wpAnyH_take (i := 9) (v := ?v504) rfl (by kernel_rfl) (by kernel_rfl) (by kernel_rfl) (fun _ _ _ h => h) (Or.inl ⟨by rfl, ?y504⟩) hHeld ?r504
      case y504 => (intro w hSw; go_simp; try with_reducible rfl)
      try simp only [Act.put, List.getElem_toArray, List.getElem_cons_succ, List.getElem_cons_zero, List.setIfInBounds_toArray, List.set_cons_zero, List.set_cons_succ]
      refine wpAnyH_done (by kernel_rfl) ?_ _
      have HKZ := Lib.hid (HK8.out.trans hHeld)
      clear hHeld hnq
      go_wp2_with fail
      go_ret2
      rw [HTKB.out, if_neg (by simp), if_pos HF0.out]
      exact ⟨none, 0, 0, rfl, rfl, Nat.le_refl _, .inl rfl, HKZ.out⟩
    case pos =>
      have HQ4 := Lib.hid (fun w => run_eq4 F low4 (us F) L4 true rfl hL4 HFL.out rfl (by simpa using hF) w)
      have HF0 := Lib.hid hF
      clear hs4 hal hab hL4 HUG hF
      obtain ⟨fa, fb, fc, fd, rfl⟩ := four HFL.out
      have hq4 := HQ4.out
      simp only [us, List.map_cons, List.map_nil] at hq4
      have hnq : ∀ w, (binOp .neq 44 (.agg #[Value.int .u32 (fa : Int), .int .u32 (fb : Int), .int .u32 (fc : Int), .int .u32 (fd : Int)]) (.agg L4)).run Try.prog w = .ok (.bool false) w := fun w => by rw [run_neq_struct, hq4]; rfl
      clear hq4
      have HCq : Hid (∀ q, Keeps (fun _ => False) w8 q → q.cell? ⟨R10, 0, none⟩ = some (.int .u32 (fa : Int)) ∧ q.cell? ⟨R10, 1, none⟩ = some (.int .u32 (fb : Int)) ∧ q.cell? ⟨R10, 2, none⟩ = some (.int .u32 (fc : Int)) ∧ q.cell? ⟨R10, 3, none⟩ = some (.int .u32 (fd : Int))) := fun q k => ⟨(HB8.out.keeps k id).cell 0, (HB8.out.keeps k id).cell 1, (HB8.out.keeps k id).cell 2, (HB8.out.keeps k id).cell 3⟩
      obtain ⟨hc0, hc1, hc2, hc3⟩ := HCq.out w8 (Keeps.refl _ _)
      have hlb : all.length ≤ 1000000 := by have := HAL.out; have := HNB.out; omega
      have HTO := Lib.hid (fun W (k : Keeps (fun _ => False) w8 W) => tablesOf_ A7 m7 c7 all W HL7.out (HO8.out.keeps k (fun _ _ _ => id)) HMC.out (by have := HL7.out; omega) HAB.out)
      obtain ⟨bt, hbt⟩ : ∃ bt, decide (Ch.SameT (Ch.tabs all) tb) = bt := ⟨_, rfl⟩
      have HTQ := Lib.hid (fun b1 W (k : Keeps (fun _ => False) w8 W) (h : IsF Try.prog 5 256 bkl W b1 (tabV (Ch.tabs all))) => teq_ b1 bT (Ch.tabs all) tb bt W h (HT8.out.keeps k id) (fun a l h => ((Ch.tabs_ok hlb).1 a l h).len) (fun a l h => (HTBS.out a l h).len) hbt)
      have HBT := Lib.hid hbt
      clear hlb hbt
      go_upto_region 10 with fail
      cases bt with
      | false =>
        refine wp_region_held_drew (S := fun w' => Keeps (fun _ => False) w8 w') (by kernel_rfl) ((Keeps.refl _ _).drewN 1) (fun hHeld => ?_)
        generalize w8.drew = wa at hHeld ⊢
        refine wpAnyH_take (i := 0) (v := ?v505) rfl (by kernel_rfl) (by kernel_rfl) (by kernel_rfl) (fun _ _ _ h => h) (Or.inl ⟨by rfl, ?y505⟩) hHeld ?r505
        case y505 => (intro w hSw; obtain ⟨hd0, hd1, hd2, hd3⟩ := HCq.out w hSw; go_simp; try with_reducible rfl)
        try simp only [Act.put, List.getElem_toArray, List.getElem_cons_succ, List.getElem_cons_zero, List.setIfInBounds_toArray, List.set_cons_zero, List.set_cons_succ]
        refine wpAnyH_ready (rs := [1]) (by kernel_rfl) (by simp) ?_
        refine AllReadyH.cons rfl (fun K hK => ?_) AllReadyH.nil
        go_simp
        refine (HNEW.out _).mono ?_
        rintro r9 w9 ⟨rfl, hk9⟩
        dsimp only
        have hH := hHeld.trans hk9
        clear hk9
        refine hK.out _ _ hH (fun hHeld => ?_)
        clear hK K
        try simp only [Act.put, List.getElem_toArray, List.getElem_cons_succ, List.getElem_cons_zero, List.setIfInBounds_toArray, List.set_cons_zero, List.set_cons_succ]
        refine wpAnyH_take (i := 2) (v := ?v506) rfl (by kernel_rfl) (by kernel_rfl) (by kernel_rfl) (fun _ _ _ h => h) (Or.inl ⟨by rfl, ?y506⟩) hHeld ?r506
        case y506 => (intro w hSw; go_simp; try with_reducible rfl)
        try simp only [Act.put, List.getElem_toArray, List.getElem_cons_succ, List.getElem_cons_zero, List.setIfInBounds_toArray, List.set_cons_zero, List.set_cons_succ]
        refine wpAnyH_take (i := 3) (v := ?v507) rfl (by kernel_rfl) (by kernel_rfl) (by kernel_rfl) (fun _ _ _ h => h) (Or.inl ⟨by rfl, ?y507⟩) hHeld ?r507
        case y507 => (intro w hSw; go_simp; try with_reducible rfl)
        try simp only [Act.put, List.getElem_toArray, List.getElem_cons_succ, List.getElem_cons_zero, List.setIfInBounds_toArray, List.set_cons_zero, List.set_cons_succ]
        refine wpAnyH_take (i := 4) (v := ?v508) rfl (by kernel_rfl) (by kernel_rfl) (by kernel_rfl) (fun _ _ _ h => h) (Or.inl ⟨by rfl, ?y508⟩) hHeld ?r508
        case y508 => (intro w hSw; go_simp; try with_reducible rfl)
        try simp only [Act.put, List.getElem_toArray, List.getElem_cons_succ, List.getElem_cons_zero, List.setIfInBounds_toArray, List.set_cons_zero, List.set_cons_succ]
        refine wpAnyH_take (i := 6) (v := ?v509) rfl (by kernel_rfl) (by kernel_rfl) (by kernel_rfl) (fun _ _ _ h => h) (Or.inl ⟨by rfl, ?y509⟩) hHeld ?r509
        case y509 => (intro w hSw; go_simp; try with_reducible rfl)
        try simp only [Act.put, List.getElem_toArray, List.getElem_cons_succ, List.getElem_cons_zero, List.setIfInBounds_toArray, List.set_cons_zero, List.set_cons_succ]
        refine wpAnyH_ready (rs := [5]) (by kernel_rfl) (by simp) ?_
        refine AllReadyH.cons rfl (fun K hK => ?_) AllReadyH.nil
        go_simp
        refine (HTO.out _ hHeld).mono ?_
        rintro r10 w10 ⟨b1, rfl, hf10, _, hk10⟩
        dsimp only
        have HF10 := Lib.hid hf10
        have hH := hHeld.trans hk10
        clear hk10 hf10
        refine hK.out _ _ hH (fun hHeld => ?_)
        clear hK K
        try simp only [Act.put, List.getElem_toArray, List.getElem_cons_succ, List.getElem_cons_zero, List.setIfInBounds_toArray, List.set_cons_zero, List.set_cons_succ]
        refine wpAnyH_ready (rs := [7]) (by kernel_rfl) (by simp) ?_
        refine AllReadyH.cons rfl (fun K hK => ?_) AllReadyH.nil
        go_simp
        refine (HTQ.out b1 _ hHeld HF10.out).mono ?_
        rintro r11 w11 ⟨rfl, hk11⟩
        dsimp only
        have hH := hHeld.trans hk11
        clear hk11
        refine hK.out _ _ hH (fun hHeld => ?_)
        clear hK K
        try simp only [Act.put, List.getElem_toArray, List.getElem_cons_succ, List.getElem_cons_zero, List.setIfInBounds_toArray, List.set_cons_zero, List.set_cons_succ]
        refine wpAnyH_take (i := 8) (v := ?v510) rfl (by kernel_rfl) (by kernel_rfl) (by kernel_rfl) (fun _ _ _ h => h) (Or.inl ⟨by rfl, ?y510⟩) hHeld ?r510
        case y510 => (intro w hSw; go_simp; try with_reducible rfl)
        try simp only [Act.put, List.getElem_toArray, List.getElem_cons_succ, List.getElem_cons_zero, List.setIfInBounds_toArray, List.set_cons_zero, List.set_cons_succ]
        refine wpAnyH_take (i := 9) (v := ?v511) rfl (by kernel_rfl) (by kernel_rfl) (by kernel_rfl) (fun _ _ _ h => h) (Or.inl ⟨by rfl, ?y511⟩) hHeld ?r511
        case y511 => (intro w hSw; go_simp; try with_reducible rfl)
        try simp only [Act.put, List.getElem_toArray, List.getElem_cons_succ, List.getElem_cons_zero, List.setIfInBounds_toArray, List.set_cons_zero, List.set_cons_succ]
        refine wpAnyH_done (by kernel_rfl) ?_ _
        have HKZ := Lib.hid (HK8.out.trans hHeld)
        have HOZ := Lib.hid (HO8.out.keeps hHeld (fun _ _ _ => id))
        clear hHeld hnq
        go_wp2_with fail
        go_ret2
        rw [HTKB.out, if_neg (by simp), if_neg (fun h => h HF0.out), if_pos (of_decide_eq_false HBT.out)]
        exact ⟨none, 0, 0, rfl, rfl, Nat.le_refl _, .inl rfl, HKZ.out⟩
      | true =>
        refine wp_region_held_drew (S := fun w' => Keeps (fun _ => False) w8 w') (by kernel_rfl) ((Keeps.refl _ _).drewN 1) (fun hHeld => ?_)
        generalize w8.drew = wa at hHeld ⊢
        refine wpAnyH_take (i := 0) (v := ?v512) rfl (by kernel_rfl) (by kernel_rfl) (by kernel_rfl) (fun _ _ _ h => h) (Or.inl ⟨by rfl, ?y512⟩) hHeld ?r512
        case y512 => (intro w hSw; obtain ⟨hd0, hd1, hd2, hd3⟩ := HCq.out w hSw; go_simp; try with_reducible rfl)
        try simp only [Act.put, List.getElem_toArray, List.getElem_cons_succ, List.getElem_cons_zero, List.setIfInBounds_toArray, List.set_cons_zero, List.set_cons_succ]
        refine wpAnyH_ready (rs := [1]) (by kernel_rfl) (by simp) ?_
        refine AllReadyH.cons rfl (fun K hK => ?_) AllReadyH.nil
        go_simp
        refine (HNEW.out _).mono ?_
        rintro r9 w9 ⟨rfl, hk9⟩
        dsimp only
        have hH := hHeld.trans hk9
        clear hk9
        refine hK.out _ _ hH (fun hHeld => ?_)
        clear hK K
        try simp only [Act.put, List.getElem_toArray, List.getElem_cons_succ, List.getElem_cons_zero, List.setIfInBounds_toArray, List.set_cons_zero, List.set_cons_succ]
        refine wpAnyH_take (i := 2) (v := ?v513) rfl (by kernel_rfl) (by kernel_rfl) (by kernel_rfl) (fun _ _ _ h => h) (Or.inl ⟨by rfl, ?y513⟩) hHeld ?r513
        case y513 => (intro w hSw; go_simp; try with_reducible rfl)
        try simp only [Act.put, List.getElem_toArray, List.getElem_cons_succ, List.getElem_cons_zero, List.setIfInBounds_toArray, List.set_cons_zero, List.set_cons_succ]
        refine wpAnyH_take (i := 3) (v := ?v514) rfl (by kernel_rfl) (by kernel_rfl) (by kernel_rfl) (fun _ _ _ h => h) (Or.inl ⟨by rfl, ?y514⟩) hHeld ?r514
        case y514 => (intro w hSw; go_simp; try with_reducible rfl)
        try simp only [Act.put, List.getElem_toArray, List.getElem_cons_succ, List.getElem_cons_zero, List.setIfInBounds_toArray, List.set_cons_zero, List.set_cons_succ]
        refine wpAnyH_take (i := 4) (v := ?v515) rfl (by kernel_rfl) (by kernel_rfl) (by kernel_rfl) (fun _ _ _ h => h) (Or.inl ⟨by rfl, ?y515⟩) hHeld ?r515
        case y515 => (intro w hSw; go_simp; try with_reducible rfl)
        try simp only [Act.put, List.getElem_toArray, List.getElem_cons_succ, List.getElem_cons_zero, List.setIfInBounds_toArray, List.set_cons_zero, List.set_cons_succ]
        refine wpAnyH_take (i := 6) (v := ?v516) rfl (by kernel_rfl) (by kernel_rfl) (by kernel_rfl) (fun _ _ _ h => h) (Or.inl ⟨by rfl, ?y516⟩) hHeld ?r516
        case y516 => (intro w hSw; go_simp; try with_reducible rfl)
        try simp only [Act.put, List.getElem_toArray, List.getElem_cons_succ, List.getElem_cons_zero, List.setIfInBounds_toArray, List.set_cons_zero, List.set_cons_succ]
        refine wpAnyH_ready (rs := [5]) (by kernel_rfl) (by simp) ?_
        refine AllReadyH.cons rfl (fun K hK => ?_) AllReadyH.nil
        go_simp
        refine (HTO.out _ hHeld).mono ?_
        rintro r10 w10 ⟨b1, rfl, hf10, _, hk10⟩
        dsimp only
        have HF10 := Lib.hid hf10
        have hH := hHeld.trans hk10
        clear hk10 hf10
        refine hK.out _ _ hH (fun hHeld => ?_)
        clear hK K
        try simp only [Act.put, List.getElem_toArray, List.getElem_cons_succ, List.getElem_cons_zero, List.setIfInBounds_toArray, List.set_cons_zero, List.set_cons_succ]
        refine wpAnyH_ready (rs := [7]) (by kernel_rfl) (by simp) ?_
        refine AllReadyH.cons rfl (fun K hK => ?_) AllReadyH.nil
        go_simp
        refine (HTQ.out b1 _ hHeld HF10.out).mono ?_
        rintro r11 w11 ⟨rfl, hk11⟩
        dsimp only
        have hH := hHeld.trans hk11
        clear hk11
        refine hK.out _ _ hH (fun hHeld => ?_)
        clear hK K
        try simp only [Act.put, List.getElem_toArray, List.getElem_cons_succ, List.getElem_cons_zero, List.setIfInBounds_toArray, List.set_cons_zero, List.set_cons_succ]
        refine wpAnyH_take (i := 8) (v := ?v517) rfl (by kernel_rfl) (by kernel_rfl) (by kernel_rfl) (fun _ _ _ h => h) (Or.inl ⟨by rfl, ?y517⟩) hHeld ?r517
        case y517 => (intro w hSw; go_simp; try with_reducible rfl)
        try simp only [Act.put, List.getElem_toArray, List.getElem_cons_succ, List.getElem_cons_zero, List.setIfInBounds_toArray, List.set_cons_zero, List.set_cons_succ]
        refine wpAnyH_take (i := 9) (v := ?v518) rfl (by kernel_rfl) (by kernel_rfl) (by kernel_rfl) (fun _ _ _ h => h) (Or.inl ⟨by rfl, ?y518⟩) hHeld ?r518
        case y518 => (intro w hSw; go_simp; try with_reducible rfl)
        try simp only [Act.put, List.getElem_toArray, List.getElem_cons_succ, List.getElem_cons_zero, List.setIfInBounds_toArray, List.set_cons_zero, List.set_cons_succ]
        refine wpAnyH_done (by kernel_rfl) ?_ _
        have HKZ := Lib.hid (HK8.out.trans hHeld)
        have HOZ := Lib.hid (HO8.out.keeps hHeld (fun _ _ _ => id))
        clear hHeld hnq
        go_wp2_with fail
        go_ret2
        rw [HTKB.out, if_neg (by simp), if_neg (fun h => h HF0.out), if_neg (by simpa using of_decide_eq_true HBT.out)]
        exact ⟨A7, m7, c7, rfl, HL7.out, HMC.out, HOZ.out, HKZ.out⟩
end Go.Proofs.Ytnanmenoemajfaa.Cp

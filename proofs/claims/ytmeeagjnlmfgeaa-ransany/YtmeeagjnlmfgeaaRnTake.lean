/- Bytes, unpacked (rans.Take): whatever they are. -/
import Derived.Test.YtmeeagjnlmfgeaaRnUn
import Derived.Test.YtmeeagjnlmfgeaaRnTurn
import Derived.Test.YtmeeagjnlmfgeaaFrqCnt
namespace Go.Proofs.Ytmeeagjnlmfgeaa.Rs
open Go.RowKit Go.Proofs.Ytmeeagjnlmfgeaa.Gen Go.Proofs.Ytmeeagjnlmfgeaa.Wr Go.Proofs.Ytmeeagjnlmfgeaa.It Go.Proofs.Ytmeeagjnlmfgeaa.Ir Go.Proofs.Ytmeeagjnlmfgeaa.Ib Go.Proofs.Ytmeeagjnlmfgeaa.Fq Go.Proofs.Ytmeeagjnlmfgeaa.Fb Go.Proofs.Ytmeeagjnlmfgeaa.Rp

theorem run_mini {P : Program} (ts : Array TypeId) (t : TypeId) (a b m : Int) (h : min a b = m) (w : World) : (Builtin.min_ ts t #[.int .i64 a, .int .i64 b]).run P w = .ok (.int .i64 m) w := by
  rw [run_min_int2, ← h]
  congr 2
  split <;> omega
theorem ex_ld_row {w : World} {g n : Nat} {t ty e : TypeId} {cs : Array Value} {a : Act} {o : Oper} {x : Operand} (ho : o.op = .load ty x) (hx : a.eval x = .pointer (some ⟨g, 0, none⟩)) (hb : Blk w g t cs) (hu : Try.prog.underlying ty = some (.array n e)) (hi : (Try.prog.info? ty).map (·.size) = some cs.size) :
    (execOp a.eval o).run Try.prog w = .ok (.value (.agg cs)) w := by
  unfold execOp
  simp only [ho, hx, Instr.loadAt, Instr.sureAddr, Sem.run_bind, Sem.run_pure, Result.andThen_ok, run_loadVar_row w g t ty cs (0, 0) _ hb hu rfl hi]
theorem unp_len {t : List Int} : ∀ (n i : Nat) (f : List Nat) (r : RS), (unp t n i f r).2.1.length = f.length
  | 0, i, f, r => rfl
  | n + 1, i, f, r => by
    rw [unp]
    split
    · rfl
    · simp only
      rw [unp_len n]
      simp
theorem unp_good {t : List Int} {n : Nat} {f : List Nat} {s : RS} (hs : s.ok) (hok : s.e = 0 → Tb t ∧ St f) (h0 : (unp t n 0 f s).2.2.e = 0) : (unp t n 0 f s).1.length = n ∧ ∀ c ∈ (unp t n 0 f s).1, 0 ≤ c ∧ c < 256 := by
  by_cases he : s.e = 0
  · obtain ⟨h1, h2⟩ := hok he
    have e : s = ⟨s.xs, s.k, 0⟩ := rs_eq he
    rw [e] at h0 ⊢
    obtain ⟨g1, _, g3, _⟩ := unp_any h1 hs.2.2 n 0 s.k f hs.1 h2 h0
    exact ⟨g1, fun c hc => ⟨(g3 c hc).1, (g3 c hc).2.1⟩⟩
  · rw [unp_bad he] at h0
    exact absurd h0 he
theorem start_ok {s : RS} (h : s.ok) : (startF s).2.ok := by
  have h4 := (wds_ok h 4).1
  rw [startF]
  split
  · exact h4
  · exact fail_ok h4 2
/-- What Take answers. -/
def TkAns (T : List Int × Int) (w : World) (r : Ending) (w' : World) : Prop :=
  ∃ A k c, r = .returned (.tuple #[.slice A k c, .int .i64 T.2]) ∧ T.1.length = k ∧ Lies w' A T.1 ∧ Keeps (fun _ => False) w w'
theorem zs_ow : ow zs 256 = [] := by
  have : ∀ d, ow zs d = [] := by
    intro d
    induction d with
    | zero => rfl
    | succ d ih => rw [ow, ih, zs_getD]; rfl
  exact this 256
/-- Whatever is taken as a table, it may be laid. -/
theorem take_tab {s : RS} (hs : s.ok) : (takeT s).1.length = 256 ∧ Fine (takeT s).1 ∧ (ow (takeT s).1 256).length ≤ 4096 ∧ ((takeT s).2.e = 0 → Tb (takeT s).1) := by
  have key : ((takeT s).2.e ≠ 0 ∧ (takeT s).1 = zs) ∨ Tb (takeT s).1 := by
    by_cases he : s.e = 0
    · have e : s = ⟨s.xs, s.k, 0⟩ := rs_eq he
      rcases tab_any (xs := s.xs) (k := s.k) hs.2.2 hs.1 hs.2.1 with h | ⟨t, j, h1, h2, _⟩
      · rw [← e] at h; exact .inl h
      · rw [← e] at h1; rw [h1]; exact .inr h2
    · left
      have hc : RS.count s 256 = (0, s) := by rw [RS.count, int_bad he, if_neg (by omega)]
      have hend : (if chk zs ≠ 0 then s.fail (chk zs) else s).e ≠ 0 := by
        split
        · next h => exact fail_ne h
        · exact he
      rw [takeT, hc]
      simp only [Int.toNat_zero, takeLoop, if_true]
      exact ⟨hend, by rw [takeEnd, if_pos hend]⟩
  rcases key with ⟨h1, h2⟩ | h
  · rw [h2]
    refine ⟨zs_len, fun x hx => by have := List.eq_of_mem_replicate hx; omega, by rw [zs_ow]; simp, fun h0 => absurd h0 h1⟩
  · refine ⟨h.len, h.fine, ?_, fun _ => h⟩
    have := ow_len h.fine h.len (d := 256) (Nat.le_refl _)
    rw [List.take_of_length_le (by have := h.len; omega), h.sum] at this
    omega
theorem start_st {s : RS} (hs : s.ok) : (startF s).1.length = 4 ∧ ((startF s).2.e = 0 → St (startF s).1) := by
  by_cases he : s.e = 0
  · have e : s = ⟨s.xs, s.k, 0⟩ := rs_eq he
    rcases start_any (xs := s.xs) (k := s.k) hs.2.2 hs.1 with ⟨h1, h2⟩ | ⟨f, h1, h2, _⟩
    · rw [← e] at h1 h2; exact ⟨by rw [h2]; rfl, fun h => absurd h h1⟩
    · rw [← e] at h1; rw [h1]; exact ⟨h2.1, fun _ => h2⟩
  · have hw : ∀ n, wds n s = (List.replicate n 0, s) := by
      intro n
      induction n with
      | zero => rfl
      | succ n ih => rw [wds, ih]; simp only; rw [word_bad he, List.replicate_succ']; rfl
    have : ¬ (wds 4 s).1.all Inb = true := by rw [hw]; simp [Inb]
    rw [startF, if_neg this]
    refine ⟨rfl, fun h => ?_⟩
    rw [hw] at h
    simp only [RS.fail, if_neg he] at h
    exact absurd h he
theorem wf_st {s : RS} (h1 : (startF s).2.e = 0) (hs : s.ok) : s.e = 0 := by
  by_cases he : s.e = 0
  · exact he
  · have hw : ∀ n, wds n s = (List.replicate n 0, s) := by
      intro n
      induction n with
      | zero => rfl
      | succ n ih => rw [wds, ih]; simp only; rw [word_bad he, List.replicate_succ']; rfl
    rw [startF] at h1
    split at h1
    · rw [hw] at h1; exact h1
    · rw [hw] at h1
      simp only [RS.fail, if_neg he] at h1
      exact absurd h1 he
/-- Two rows of four are the same if their numbers are. -/
theorem run_part4 (l : List Nat) {i : Nat} (h : i < l.length) (w : World) : (part 32 (us l) i).run Try.prog w = .ok (.int .u32 ((l.getD i 0 : Nat) : Int)) w := by
  have hag : (isAgg 32).run Try.prog w = .ok false w := by simp [isAgg, Try.underlying32, go_sem]
  simp [part, hag, us_get h]
theorem run_items4 (d : Nat) (a b : List Nat) (w : World) : ∀ (is : List Nat), (∀ i ∈ is, i < a.length ∧ i < b.length) →
    (Op.eqItems (d + 1) 32 1 (us a) (us b) is).run Try.prog w = .ok (is.all fun i => ((a.getD i 0 : Nat) : Int) == ((b.getD i 0 : Nat) : Int)) w
  | [], _ => by simp [Op.eqItems]
  | i :: is, h => by
    have h1 := h i (by simp)
    have ih := run_items4 d a b w is fun j hj => h j (by simp [hj])
    simp only [Op.eqItems, Nat.mul_one, Sem.run_bind, run_part4 a h1.1, run_part4 b h1.2, Result.andThen_ok]
    rw [run_equalIn_int w d 32 .u32 .u32 _ _ Try.underlying32]
    simp only [Result.andThen_ok, List.all_cons]
    cases he : (((a.getD i 0 : Nat) : Int) == ((b.getD i 0 : Nat) : Int))
    · simp
    · simp only [Bool.not_true, Bool.false_eq_true, if_false, Bool.true_and]
      exact ih
theorem all_same4 {a b : List Nat} {n : Nat} (ha : a.length = n) (hb : b.length = n) : ((List.range n).all fun i => ((a.getD i 0 : Nat) : Int) == ((b.getD i 0 : Nat) : Int)) = decide (a = b) := by
  by_cases h : a = b
  · subst h; simp
  · rw [decide_eq_false h]
    rw [Bool.eq_false_iff]
    intro hall
    apply h
    simp only [List.all_eq_true, List.mem_range, beq_iff_eq] at hall
    apply List.ext_getElem (by omega)
    intro i h1 h2
    have := hall i (by omega)
    rw [List.getD, List.getD, List.getElem?_eq_getElem h1, List.getElem?_eq_getElem h2] at this
    simp only [Option.getD_some] at this
    omega
theorem run_eq4 (a b : List Nat) (v u : Array Value) (r : Bool) (hv : us a = v) (hu : us b = u) (ha : a.length = 4) (hb : b.length = 4) (hr : decide (a = b) = r) (w : World) :
    (Op.equalIn 10000 48 (.agg v) (.agg u)).run Try.prog w = .ok r w := by
  have hc : Try.prog.cellsOf 32 = 1 := by kernel_rfl
  obtain ⟨i, hi⟩ : ∃ i, Try.prog.info? 32 = some i := Option.isSome_iff_exists.1 (by kernel_rfl)
  rw [← hv, ← hu, run_equalIn_array w 9999 _ _ Try.underlying48 hi, hc, run_items4 9998 a b w _ (fun i hi => by simp only [List.mem_range] at hi; omega), all_same4 ha hb, hr]

set_option maxHeartbeats 8000000 in
set_option maxRecDepth 100000 in
theorem take_ (B : Option Addr) (n cb : Nat) (xs : List Int) (most : Int) (M : Int) (w : World) (hx : xs.length = n) (hl : Lies w B xs) (hn : n ≤ 1000000) (hb : ∀ x ∈ xs, 0 ≤ x ∧ x < 256) (hM : min (max most 0) 8388608 = M) (hM1 : M ≤ 1000000) :
    Calls Try.prog 9 #[.slice B n cb, .int .i64 most] w (TkAns (tk xs M) w) := by
  obtain ⟨m1, hm1⟩ : ∃ m1, max most 0 = m1 := ⟨_, rfl⟩
  rw [hm1] at hM
  have hmx := fun (ts : Array TypeId) (t : TypeId) (w : World) => run_maxi (P := Try.prog) ts t most 0 m1 hm1 w
  have hmi := fun (ts : Array TypeId) (t : TypeId) (w : World) => run_mini (P := Try.prog) ts t m1 8388608 M hM w
  have hM0 : 0 ≤ M := by omega
  obtain ⟨⟨cn, s1⟩, hcn⟩ : ∃ q, RS.count ⟨xs, 0, 0⟩ M = q := ⟨_, rfl⟩
  have hok0 : (⟨xs, 0, 0⟩ : RS).ok := ⟨Nat.zero_le _, by simp only; omega, hb⟩
  have hin := int_in hok0
  have hcnb : 0 ≤ cn ∧ cn ≤ 1000000 := by
    rw [RS.count] at hcn
    split at hcn
    · have := (Prod.mk.inj hcn).1; omega
    · next h => rw [hcn] at h hin; simp only at h hin; omega
  obtain ⟨N, rfl⟩ : ∃ N : Nat, cn = (N : Int) := ⟨cn.toNat, by omega⟩
  have HTK : Hid (tk xs M = if (N : Int) = 0 then ([], s1.fin) else tkB N s1) := by
    show tk xs M = _
    rw [tk, hcn]
    rfl
  have HX := Lib.hid hx
  have HLI := Lib.hid hl
  have HN := Lib.hid hn
  have HBY := Lib.hid hb
  have HNB : Hid (N ≤ 1000000) := by show N ≤ _; omega
  have HCN := Lib.hid (fun g base W (h : IsRd base g ⟨xs, 0, 0⟩ W) => Ir.count g ⟨xs, 0, 0⟩ base M W h)
  rw [hcn] at HCN
  have hz : ∀ w, (zeroValue 62).run Try.prog w = .ok (.agg (vs zs)) w := tab_zero
  have hz4 : ∀ w, (zeroValue 48).run Try.prog w = .ok (.agg (us no4)) w := four_zero
  generalize hZ : vs zs = Z at hz
  generalize hZ4 : us no4 = Z4 at hz4
  have HZ := Lib.hid hZ
  have HZ4 := Lib.hid hZ4
  clear hx hl hn hb hM hm1 hcn hok0 hin hcnb hZ hZ4 hM1 hM0
  unfold rd at HCN
  go_enter Try.func9, Try.ntmps9
  go_wp2_with fail
  refine (iread B n cb xs _ HX.out HLI.out HN.out HBY.out).mono ?_
  rintro e w1 ⟨g, rfl, hr1, hk1⟩
  have HR1 := Lib.hid hr1
  have HK1 := Lib.hid hk1
  have HGB : Hid (w.heap.size ≤ g) := hr1.1
  clear hr1 hk1
  unfold rd
  go_upto_region 2 with fail
  obtain ⟨R6, hR6⟩ : ∃ R6, w1.heap.size = R6 := ⟨_, rfl⟩
  have HB2 : Hid (Blk (w1.alloc (.cells #[.pointer (some ⟨g, 0, none⟩)] 41)) w1.heap.size 41 #[.pointer (some ⟨g, 0, none⟩)]) := Blk.new _ _ _
  have HKa : Hid (Keeps (fun _ => False) w1 (w1.alloc (.cells #[.pointer (some ⟨g, 0, none⟩)] 41))) := (Keeps.refl _ _).alloc _
  generalize w1.alloc (.cells #[.pointer (some ⟨g, 0, none⟩)] 41) = W2 at HB2 HKa ⊢
  rw [hR6] at HB2 ⊢
  have HGR : Hid (g < R6) := by show g < R6; rw [← hR6]; exact HR1.out.lt
  have HR2 := Lib.hid (HR1.out.keeps HKa.out (fun _ _ => id))
  have HK2 := Lib.hid (HK1.out.trans HKa.out)
  have hb2 : W2.cell? ⟨R6, 0, none⟩ = some (.pointer (some ⟨g, 0, none⟩)) := HB2.out.cell 0
  clear hR6 HR1 HK1 HKa
  go_upto_region 3 with (
    go_at_call 27
    refine (HCN.out g w.heap.size W2 HR2.out).mono ?_
    rintro e w3 ⟨rfl, hr3, hk3⟩
    have HR3 := Lib.hid hr3
    have HB3 := Lib.hid (HB2.out.keeps hk3 (fun e => by have := HGR.out; omega))
    have HK3 := Lib.hid (Rt.keeps_low HK2.out hk3 (fun y hy => by rw [hy]; exact HGB.out))
    clear hr3 hk3 HB2 HK2 HR2 hb2)
  have hb3 : w3.cell? ⟨R6, 0, none⟩ = some (.pointer (some ⟨g, 0, none⟩)) := HB3.out.cell 0
  by_cases hN0 : N = 0
  · subst hN0
    have HEN := Lib.hid (Wr.end_ g s1 w.heap.size w3 HR3.out)
    go_wp2_with (
      go_at_call 15
      refine HEN.out.mono ?_
      rintro e w4 ⟨rfl, q4, rfl⟩)
    go_ret2
    rw [HTK.out]
    exact ⟨none, 0, 0, rfl, rfl, .inl rfl, HK3.out.drewN q4⟩
  have HN0 := Lib.hid hN0
  have hNe : ((N : Int) == 0) = false := by simpa using hN0
  have hS1 : s1.ok := HR3.out.2.1
  obtain ⟨hT1, hT2, hT3, hT4⟩ := take_tab hS1
  obtain ⟨t, s2, hts⟩ : ∃ t s2, takeT s1 = (t, s2) := ⟨_, _, rfl⟩
  have HFT := Lib.hid (Fb.take g s1 w.heap.size w3 HR3.out)
  unfold TakeAns rd at HFT
  rw [hts] at HFT hT1 hT2 hT3 hT4
  simp only at HFT hT1 hT2 hT3 hT4
  obtain ⟨V, hV⟩ : ∃ V, vs t = V := ⟨_, rfl⟩
  rw [hV] at HFT
  have HVI : Hid ((Try.prog.info? 62).map (·.size) = some V.size) := by show _ = _; rw [← hV]; exact tab_size hT1
  have HV1 : Hid (V.all (·.oneCell') = true) := by show _ = _; rw [← hV]; exact vs_one _
  have HVZ : Hid (Z.size = V.size) := by show _ = _; rw [← hV, ← HZ.out, vs_size, vs_size, hT1, zs_len]
  have HV := Lib.hid hV
  have HTL := Lib.hid hT1
  have HTF := Lib.hid hT2
  have HTO := Lib.hid hT3
  have HTT := Lib.hid hT4
  have HTS := Lib.hid hts
  clear hS1 hT1 hT2 hT3 hT4 hts hV hN0
  go_upto_region 6 with (first
    | (go_at_call 28; refine HFT.out.mono ?_; rintro e w4 ⟨rfl, hr4, hk4⟩; have HR4 := Lib.hid hr4; have HK4 := Lib.hid hk4; clear hr4 hk4 hb3)
    | ((with_reducible refine st_row (Blk.new _ 62 Z) HVI.out HVZ.out HV1.out ?_ ?_ ?_); rfl; rfl))
  obtain ⟨T8, hT8⟩ : ∃ T8, w4.heap.size = T8 := ⟨_, rfl⟩
  have HT5 : Hid (Blk ((w4.alloc (.cells Z 62)).setRow w4.heap.size V) w4.heap.size 62 V) := new_put
  have HKb : Hid (Keeps (fun _ => False) w4 ((w4.alloc (.cells Z 62)).setRow w4.heap.size V)) := Keeps.put_new (Keeps.refl _ _)
  generalize (w4.alloc (.cells Z 62)).setRow w4.heap.size V = W5 at HT5 HKb ⊢
  rw [hT8] at HT5 ⊢
  have HR5 := Lib.hid (HR4.out.keeps HKb.out (fun _ _ => id))
  have HB5 := Lib.hid ((HB3.out.keeps HK4.out (fun e => by have := HGR.out; omega)).keeps HKb.out id)
  have HK5 := Lib.hid ((Rt.keeps_low HK3.out HK4.out (fun y hy => by rw [hy]; exact HGB.out)).trans HKb.out)
  have HG8 : Hid (g < T8) := by show g < T8; rw [← hT8]; exact HR4.out.lt
  have hb5 : W5.cell? ⟨R6, 0, none⟩ = some (.pointer (some ⟨g, 0, none⟩)) := HB5.out.cell 0
  obtain ⟨f, s3, hfs⟩ : ∃ f s3, startF s2 = (f, s3) := ⟨_, _, rfl⟩
  obtain ⟨all, F, s4, hun⟩ : ∃ all F s4, unp t N 0 f s3 = (all, F, s4) := ⟨_, _, _, rfl⟩
  have hst := start_st HR5.out.2.1
  rw [hfs] at hst
  have HOK : Hid (s3.e = 0 → Tb t ∧ St f) := fun h0 => ⟨HTT.out (wf_st (by rw [hfs]; exact h0) HR5.out.2.1), hst.2 h0⟩
  have HF4 : Hid (f.length = 4) := hst.1
  have HST := Lib.hid (fun W (h : IsRd w.heap.size g s2 W) => start g w.heap.size s2 W h)
  rw [hfs] at HST
  simp only at HST
  have HUN := Lib.hid (fun W (h : IsRd w.heap.size g s3 W) => unpacked N t V (us f) f g w.heap.size s3 W h HNB.out HV.out rfl HTL.out HTF.out HTO.out HF4.out HOK.out)
  rw [hun] at HUN
  unfold UnAns rd at HUN
  unfold rd at HST
  simp only at HUN
  have hFl : F.length = 4 := by have := unp_len (t := t) N 0 f s3; rw [hun, HF4.out] at this; exact this
  have HFL := Lib.hid hFl
  have HFI := Lib.hid (four_size hFl)
  have HFZ : Hid (Z4.size = (us F).size) := by show _ = _; rw [← HZ4.out, us_size, us_size, hFl]; rfl
  have HUG : Hid (s3.ok → s4.e = 0 → all.length = N ∧ ∀ c ∈ all, 0 ≤ c ∧ c < 256) := fun h1 h2 => by have := unp_good h1 HOK.out (n := N) (by rw [hun]; exact h2); rw [hun] at this; exact this
  have HTKB : Hid (tk xs M = if s4.fin ≠ 0 then ([], s4.fin) else if F ≠ low4 then ([], 4) else if tabOf all ≠ t then ([], 4) else (all, 0)) := by
    show tk xs M = _
    rw [HTK.out, if_neg (by have := HN0.out; omega), tkB, HTS.out]
    simp only
    rw [hfs]
    simp only
    rw [hun]
  have HT5q : Hid (∀ q, Keeps (· = g) W5 q → Blk q T8 62 V) := fun q k => HT5.out.keeps k (fun e => by have := HG8.out; omega)
  have HB5q : Hid (∀ q, Keeps (· = g) W5 q → q.cell? ⟨R6, 0, none⟩ = some (.pointer (some ⟨g, 0, none⟩))) := fun q k => (HB5.out.keeps k (fun e => by have := HGR.out; omega)).cell 0
  have HOK3 : Hid s3.ok := by have := (start_ok HR5.out.2.1); rw [hfs] at this; exact this
  clear hT8 HR4 HK4 HKb HB3 HK3 hfs hun hst HFT hFl
  -- region 6
  go_frame
  go_cut [9, 10] from 28 to 36 (fun av rv wx => ∃ (A7 : Option Addr) (c7 m7 R10 : Nat), av = .slice A7 m7 c7 ∧ rv = .pointer (some ⟨R10, 0, none⟩) ∧ Hid (all.length = m7 ∧ Lies wx A7 all ∧ IsRd w.heap.size g s4 wx ∧ Blk wx R10 48 (us F) ∧ Keeps (· = g) W5 wx ∧ g < R10 ∧ W5.heap.size ≤ R10))
  case first =>
    refine wp_region_held_drew (S := fun w' => Keeps (· = g) W5 w') (by kernel_rfl) ((Keeps.refl _ _).drewN 1) (fun hHeld => ?_)
    have HRA : Hid (IsRd w.heap.size g s2 W5.drew) := HR5.out.drewN 1
    generalize W5.drew = w11 at hHeld HRA ⊢
    refine wpAnyH_take (i := 0) (v := ?v10) rfl (by kernel_rfl) (by kernel_rfl) (by kernel_rfl) (fun _ _ _ h => h) (Or.inl ⟨by rfl, ?y10⟩) hHeld ?r10
    case y10 => (intro w hSw; go_simp; try with_reducible rfl)
    try simp only [Act.put, List.getElem_toArray, List.getElem_cons_succ, List.getElem_cons_zero, List.setIfInBounds_toArray, List.set_cons_zero, List.set_cons_succ]
    refine wpAnyH_take (i := 1) (v := ?v11) rfl (by kernel_rfl) (by kernel_rfl) (by kernel_rfl) (fun _ _ _ h => h) (Or.inl ⟨by rfl, ?y11⟩) hHeld ?r11
    case y11 => (intro w hSw; refine ex_ld_row (ty := 62) (x := .tmp 8) ?_ ?_ (HT5q.out w hSw) Try.underlying62 HVI.out <;> rfl)
    try simp only [Act.put, List.getElem_toArray, List.getElem_cons_succ, List.getElem_cons_zero, List.setIfInBounds_toArray, List.set_cons_zero, List.set_cons_succ]
    refine wpAnyH_take (i := 2) (v := ?v12) rfl (by kernel_rfl) (by kernel_rfl) (by kernel_rfl) (fun _ _ _ h => h) (Or.inl ⟨by rfl, ?y12⟩) hHeld ?r12
    case y12 => (intro w hSw; have hb5 := HB5q.out w hSw; go_simp; try with_reducible rfl)
    try simp only [Act.put, List.getElem_toArray, List.getElem_cons_succ, List.getElem_cons_zero, List.setIfInBounds_toArray, List.set_cons_zero, List.set_cons_succ]
    refine wpAnyH_take (i := 4) (v := ?v13) rfl (by kernel_rfl) (by kernel_rfl) (by kernel_rfl) (fun _ _ _ h => h) (Or.inl ⟨by rfl, ?y13⟩) hHeld ?r13
    case y13 => (intro w hSw; have hb5 := HB5q.out w hSw; go_simp; try with_reducible rfl)
    try simp only [Act.put, List.getElem_toArray, List.getElem_cons_succ, List.getElem_cons_zero, List.setIfInBounds_toArray, List.set_cons_zero, List.set_cons_succ]
    refine wpAnyH_ready (rs := [3, 9]) (by kernel_rfl) (by simp) ?_
    refine AllReadyH.cons rfl (fun K hK => ?_) (AllReadyH.cons rfl (fun K hK => ?_) AllReadyH.nil)
    · go_simp
      refine (HST.out _ HRA.out).mono ?_
      rintro e w6 ⟨rfl, hr6, hk6⟩
      dsimp only
      have HR6 := Lib.hid hr6
      have hH6 := hHeld.trans hk6
      clear hr6 hk6
      refine hK.out _ _ hH6 (fun hHeld => ?_)
      clear hK K
      try simp only [Act.put, List.getElem_toArray, List.getElem_cons_succ, List.getElem_cons_zero, List.setIfInBounds_toArray, List.set_cons_zero, List.set_cons_succ]
      refine wpAnyH_ready (rs := [5, 9]) (by kernel_rfl) (by simp) ?_
      refine AllReadyH.cons rfl (fun K hK => ?_) (AllReadyH.cons rfl (fun K hK => ?_) AllReadyH.nil)
      · go_simp
        refine (HUN.out _ HR6.out).mono ?_
        rintro e w7 ⟨A7, c7, m7, rfl, hl7, ho7, hr7, hk7⟩
        dsimp only
        have HR7 := Lib.hid hr7
        have HL7 := Lib.hid hl7
        have HO7 := Lib.hid (Lies.of_own ho7)
        have HP7 : Hid (∀ b o, A7 = some ⟨b, o, none⟩ → b < w7.heap.size) := fun b o hA => by
          have := (ho7.lt b (by rw [hA]; rfl))
          exact this.2
        have hH7 := hHeld.trans hk7
        clear hl7 ho7 hr7 hk7
        refine hK.out _ _ hH7 (fun hHeld => ?_)
        clear hK K
        try simp only [Act.put, List.getElem_toArray, List.getElem_cons_succ, List.getElem_cons_zero, List.setIfInBounds_toArray, List.set_cons_zero, List.set_cons_succ]
        refine wpAnyH_take (i := 6) (v := ?v1) rfl (by kernel_rfl) (by kernel_rfl) (by kernel_rfl) (fun _ _ _ h => h) (Or.inl ⟨by rfl, ?y1⟩) hHeld ?r1
        case y1 => (intro w hSw; go_simp; try with_reducible rfl)
        try simp only [Act.put, List.getElem_toArray, List.getElem_cons_succ, List.getElem_cons_zero, List.setIfInBounds_toArray, List.set_cons_zero, List.set_cons_succ]
        refine wpAnyH_take (i := 7) (v := ?v2) rfl (by kernel_rfl) (by kernel_rfl) (by kernel_rfl) (fun _ _ _ h => h) (Or.inl ⟨by rfl, ?y2⟩) hHeld ?r2
        case y2 => (intro w hSw; go_simp; try with_reducible rfl)
        try simp only [Act.put, List.getElem_toArray, List.getElem_cons_succ, List.getElem_cons_zero, List.setIfInBounds_toArray, List.set_cons_zero, List.set_cons_succ]
        refine wpAnyH_take (i := 8) (v := ?v3) rfl (by kernel_rfl) (by kernel_rfl) (by kernel_rfl) (fun _ _ _ h => h) (Or.inl ⟨by rfl, ?y3⟩) hHeld ?r3
        case y3 => (intro w hSw; go_simp; try with_reducible rfl)
        try simp only [Act.put, List.getElem_toArray, List.getElem_cons_succ, List.getElem_cons_zero, List.setIfInBounds_toArray, List.set_cons_zero, List.set_cons_succ]
        refine wpAnyH_ready (rs := [9]) (by kernel_rfl) (by simp) ?_
        refine AllReadyH.cons rfl (fun K hK => ?_) AllReadyH.nil
        go_simp
        obtain ⟨R10, hR10⟩ : ∃ R10, (w7).heap.size = R10 := ⟨_, rfl⟩
        have HBR : Hid (Blk ((w7).alloc (.cells Z4 48)) R10 48 Z4) := by show Blk _ _ _ _; rw [← hR10]; exact Blk.new _ _ _
        have HRG : Hid (g < R10) := by show g < R10; rw [← hR10]; exact (HR7).out.lt
        have HR10W : Hid (W5.heap.size ≤ R10) := by show W5.heap.size ≤ R10; rw [← hR10]; exact hHeld.size
        have hka : Keeps (fun _ => False) (w7) ((w7).alloc (.cells Z4 48)) := (Keeps.refl _ _).alloc _
        have HR7 := Lib.hid (HR7.out.keeps hka (fun _ _ => id))
        have HO7 := Lib.hid (HO7.out.keeps hka (fun _ _ _ => id))
        have HA7 : Hid (∀ b o, A7 = some ⟨b, o, none⟩ → b ≠ R10) := fun b o hA => by have := HP7.out b o hA; omega
        have hHa := hHeld.trans hka.none_
        generalize (w7).alloc (.cells Z4 48) = wal at HBR hHa HR7 HO7 ⊢
        rw [hR10]
        clear hR10 hka
        refine hK.out _ _ hHa (fun hHeld => ?_)
        clear hK K
        try simp only [Act.put, List.getElem_toArray, List.getElem_cons_succ, List.getElem_cons_zero, List.setIfInBounds_toArray, List.set_cons_zero, List.set_cons_succ]
        refine wpAnyH_take (i := 10) (v := ?v114) rfl (by kernel_rfl) (by kernel_rfl) (by kernel_rfl) (fun _ _ _ h => h) (Or.inl ⟨by rfl, ?y114⟩) hHeld ?r114
        case y114 => (intro w hSw; go_simp; try with_reducible rfl)
        try simp only [Act.put, List.getElem_toArray, List.getElem_cons_succ, List.getElem_cons_zero, List.setIfInBounds_toArray, List.set_cons_zero, List.set_cons_succ]
        refine wpAnyH_ready (rs := [11]) (by kernel_rfl) (by simp) ?_
        refine AllReadyH.cons rfl (fun K hK => ?_) AllReadyH.nil
        refine wp_store_row 48 (.tmp 10) (.tmp 36) rfl R10 (us F) rfl rfl 48 Z4 HBR.out HFI.out HFZ.out (us_one F) ?_
        refine hK.out _ _ (Keeps.setRow hHeld (.inr HR10W.out) _) (fun hHeld => ?_)
        clear hK K
        try simp only [Act.put, List.getElem_toArray, List.getElem_cons_succ, List.getElem_cons_zero, List.setIfInBounds_toArray, List.set_cons_zero, List.set_cons_succ]
        refine wpAnyH_done (by kernel_rfl) ?_ _
        have HFin := Lib.hid hHeld
        clear hHeld
        have HKR := fun wq : World => Keeps.setRow (Keeps.refl (· = R10) wq) (g := R10) (.inl rfl) (us F)
        have HEND := Lib.hid (⟨HL7.out, HO7.out.keeps (HKR _) (fun b o hA e => HA7.out b o hA e), HR7.out.low (HKR _) (fun b _ hb e => by have := HRG.out; omega), Blk.setRow HBR.out (us F), HFin.out, HRG.out, HR10W.out⟩ : _ ∧ _ ∧ _ ∧ _ ∧ _ ∧ _ ∧ _)
        go_wp2_with fail
        go_meet
        case rel => exact ⟨A7, c7, m7, R10, rfl, rfl, HEND⟩
      · go_simp
        obtain ⟨R10, hR10⟩ : ∃ R10, (w6).heap.size = R10 := ⟨_, rfl⟩
        have HBR : Hid (Blk ((w6).alloc (.cells Z4 48)) R10 48 Z4) := by show Blk _ _ _ _; rw [← hR10]; exact Blk.new _ _ _
        have HRG : Hid (g < R10) := by show g < R10; rw [← hR10]; exact (HR6).out.lt
        have HR10W : Hid (W5.heap.size ≤ R10) := by show W5.heap.size ≤ R10; rw [← hR10]; exact hHeld.size
        have hka : Keeps (fun _ => False) (w6) ((w6).alloc (.cells Z4 48)) := (Keeps.refl _ _).alloc _
        have HR6 := Lib.hid (HR6.out.keeps hka (fun _ _ => id))
        have hHa := hHeld.trans hka.none_
        generalize (w6).alloc (.cells Z4 48) = wal at HBR hHa HR6 ⊢
        rw [hR10]
        clear hR10 hka
        refine hK.out _ _ hHa (fun hHeld => ?_)
        clear hK K
        try simp only [Act.put, List.getElem_toArray, List.getElem_cons_succ, List.getElem_cons_zero, List.setIfInBounds_toArray, List.set_cons_zero, List.set_cons_succ]
        refine wpAnyH_ready (rs := [5]) (by kernel_rfl) (by simp) ?_
        refine AllReadyH.cons rfl (fun K hK => ?_) AllReadyH.nil
        go_simp
        refine (HUN.out _ HR6.out).mono ?_
        rintro e w7 ⟨A7, c7, m7, rfl, hl7, ho7, hr7, hk7⟩
        dsimp only
        have HR7 := Lib.hid hr7
        have HL7 := Lib.hid hl7
        have HO7 := Lib.hid (Lies.of_own ho7)
        have HP7 : Hid (∀ b o, A7 = some ⟨b, o, none⟩ → b ≠ R10) := fun b o hA => by
          have := (ho7.lt b (by rw [hA]; rfl))
          have := HBR.out.lt; omega
        have hH7 := hHeld.trans hk7
        have HBR := Lib.hid (HBR.out.keeps hk7 (fun e => by have := HRG.out; omega))
        clear hl7 ho7 hr7 hk7
        refine hK.out _ _ hH7 (fun hHeld => ?_)
        clear hK K
        try simp only [Act.put, List.getElem_toArray, List.getElem_cons_succ, List.getElem_cons_zero, List.setIfInBounds_toArray, List.set_cons_zero, List.set_cons_succ]
        refine wpAnyH_take (i := 6) (v := ?v4) rfl (by kernel_rfl) (by kernel_rfl) (by kernel_rfl) (fun _ _ _ h => h) (Or.inl ⟨by rfl, ?y4⟩) hHeld ?r4
        case y4 => (intro w hSw; go_simp; try with_reducible rfl)
        try simp only [Act.put, List.getElem_toArray, List.getElem_cons_succ, List.getElem_cons_zero, List.setIfInBounds_toArray, List.set_cons_zero, List.set_cons_succ]
        refine wpAnyH_take (i := 7) (v := ?v5) rfl (by kernel_rfl) (by kernel_rfl) (by kernel_rfl) (fun _ _ _ h => h) (Or.inl ⟨by rfl, ?y5⟩) hHeld ?r5
        case y5 => (intro w hSw; go_simp; try with_reducible rfl)
        try simp only [Act.put, List.getElem_toArray, List.getElem_cons_succ, List.getElem_cons_zero, List.setIfInBounds_toArray, List.set_cons_zero, List.set_cons_succ]
        refine wpAnyH_take (i := 8) (v := ?v6) rfl (by kernel_rfl) (by kernel_rfl) (by kernel_rfl) (fun _ _ _ h => h) (Or.inl ⟨by rfl, ?y6⟩) hHeld ?r6
        case y6 => (intro w hSw; go_simp; try with_reducible rfl)
        try simp only [Act.put, List.getElem_toArray, List.getElem_cons_succ, List.getElem_cons_zero, List.setIfInBounds_toArray, List.set_cons_zero, List.set_cons_succ]
        have HA7 : Hid (∀ b o, A7 = some ⟨b, o, none⟩ → b ≠ R10) := HP7.out
        refine wpAnyH_take (i := 10) (v := ?v115) rfl (by kernel_rfl) (by kernel_rfl) (by kernel_rfl) (fun _ _ _ h => h) (Or.inl ⟨by rfl, ?y115⟩) hHeld ?r115
        case y115 => (intro w hSw; go_simp; try with_reducible rfl)
        try simp only [Act.put, List.getElem_toArray, List.getElem_cons_succ, List.getElem_cons_zero, List.setIfInBounds_toArray, List.set_cons_zero, List.set_cons_succ]
        refine wpAnyH_ready (rs := [11]) (by kernel_rfl) (by simp) ?_
        refine AllReadyH.cons rfl (fun K hK => ?_) AllReadyH.nil
        refine wp_store_row 48 (.tmp 10) (.tmp 36) rfl R10 (us F) rfl rfl 48 Z4 HBR.out HFI.out HFZ.out (us_one F) ?_
        refine hK.out _ _ (Keeps.setRow hHeld (.inr HR10W.out) _) (fun hHeld => ?_)
        clear hK K
        try simp only [Act.put, List.getElem_toArray, List.getElem_cons_succ, List.getElem_cons_zero, List.setIfInBounds_toArray, List.set_cons_zero, List.set_cons_succ]
        refine wpAnyH_done (by kernel_rfl) ?_ _
        have HFin := Lib.hid hHeld
        clear hHeld
        have HKR := fun wq : World => Keeps.setRow (Keeps.refl (· = R10) wq) (g := R10) (.inl rfl) (us F)
        have HEND := Lib.hid (⟨HL7.out, HO7.out.keeps (HKR _) (fun b o hA e => HA7.out b o hA e), HR7.out.low (HKR _) (fun b _ hb e => by have := HRG.out; omega), Blk.setRow HBR.out (us F), HFin.out, HRG.out, HR10W.out⟩ : _ ∧ _ ∧ _ ∧ _ ∧ _ ∧ _ ∧ _)
        go_wp2_with fail
        go_meet
        case rel => exact ⟨A7, c7, m7, R10, rfl, rfl, HEND⟩
    · go_simp
      obtain ⟨R10, hR10⟩ : ∃ R10, (w11).heap.size = R10 := ⟨_, rfl⟩
      have HBR : Hid (Blk ((w11).alloc (.cells Z4 48)) R10 48 Z4) := by show Blk _ _ _ _; rw [← hR10]; exact Blk.new _ _ _
      have HRG : Hid (g < R10) := by show g < R10; rw [← hR10]; exact (HRA).out.lt
      have HR10W : Hid (W5.heap.size ≤ R10) := by show W5.heap.size ≤ R10; rw [← hR10]; exact hHeld.size
      have hka : Keeps (fun _ => False) (w11) ((w11).alloc (.cells Z4 48)) := (Keeps.refl _ _).alloc _
      have HRA := Lib.hid (HRA.out.keeps hka (fun _ _ => id))
      have hHa := hHeld.trans hka.none_
      generalize (w11).alloc (.cells Z4 48) = wal at HBR hHa HRA ⊢
      rw [hR10]
      clear hR10 hka
      refine hK.out _ _ hHa (fun hHeld => ?_)
      clear hK K
      try simp only [Act.put, List.getElem_toArray, List.getElem_cons_succ, List.getElem_cons_zero, List.setIfInBounds_toArray, List.set_cons_zero, List.set_cons_succ]
      refine wpAnyH_ready (rs := [3]) (by kernel_rfl) (by simp) ?_
      refine AllReadyH.cons rfl (fun K hK => ?_) AllReadyH.nil
      go_simp
      refine (HST.out _ HRA.out).mono ?_
      rintro e w6 ⟨rfl, hr6, hk6⟩
      dsimp only
      have HR6 := Lib.hid hr6
      have hH6 := hHeld.trans hk6
      have HBR := Lib.hid (HBR.out.keeps hk6 (fun e => by have := HRG.out; omega))
      clear hr6 hk6
      refine hK.out _ _ hH6 (fun hHeld => ?_)
      clear hK K
      try simp only [Act.put, List.getElem_toArray, List.getElem_cons_succ, List.getElem_cons_zero, List.setIfInBounds_toArray, List.set_cons_zero, List.set_cons_succ]
      refine wpAnyH_ready (rs := [5]) (by kernel_rfl) (by simp) ?_
      refine AllReadyH.cons rfl (fun K hK => ?_) AllReadyH.nil
      go_simp
      refine (HUN.out _ HR6.out).mono ?_
      rintro e w7 ⟨A7, c7, m7, rfl, hl7, ho7, hr7, hk7⟩
      dsimp only
      have HR7 := Lib.hid hr7
      have HL7 := Lib.hid hl7
      have HO7 := Lib.hid (Lies.of_own ho7)
      have HP7 : Hid (∀ b o, A7 = some ⟨b, o, none⟩ → b ≠ R10) := fun b o hA => by
        have := (ho7.lt b (by rw [hA]; rfl))
        have := HBR.out.lt; omega
      have hH7 := hHeld.trans hk7
      have HBR := Lib.hid (HBR.out.keeps hk7 (fun e => by have := HRG.out; omega))
      clear hl7 ho7 hr7 hk7
      refine hK.out _ _ hH7 (fun hHeld => ?_)
      clear hK K
      try simp only [Act.put, List.getElem_toArray, List.getElem_cons_succ, List.getElem_cons_zero, List.setIfInBounds_toArray, List.set_cons_zero, List.set_cons_succ]
      refine wpAnyH_take (i := 6) (v := ?v7) rfl (by kernel_rfl) (by kernel_rfl) (by kernel_rfl) (fun _ _ _ h => h) (Or.inl ⟨by rfl, ?y7⟩) hHeld ?r7
      case y7 => (intro w hSw; go_simp; try with_reducible rfl)
      try simp only [Act.put, List.getElem_toArray, List.getElem_cons_succ, List.getElem_cons_zero, List.setIfInBounds_toArray, List.set_cons_zero, List.set_cons_succ]
      refine wpAnyH_take (i := 7) (v := ?v8) rfl (by kernel_rfl) (by kernel_rfl) (by kernel_rfl) (fun _ _ _ h => h) (Or.inl ⟨by rfl, ?y8⟩) hHeld ?r8
      case y8 => (intro w hSw; go_simp; try with_reducible rfl)
      try simp only [Act.put, List.getElem_toArray, List.getElem_cons_succ, List.getElem_cons_zero, List.setIfInBounds_toArray, List.set_cons_zero, List.set_cons_succ]
      refine wpAnyH_take (i := 8) (v := ?v9) rfl (by kernel_rfl) (by kernel_rfl) (by kernel_rfl) (fun _ _ _ h => h) (Or.inl ⟨by rfl, ?y9⟩) hHeld ?r9
      case y9 => (intro w hSw; go_simp; try with_reducible rfl)
      try simp only [Act.put, List.getElem_toArray, List.getElem_cons_succ, List.getElem_cons_zero, List.setIfInBounds_toArray, List.set_cons_zero, List.set_cons_succ]
      have HA7 : Hid (∀ b o, A7 = some ⟨b, o, none⟩ → b ≠ R10) := HP7.out
      refine wpAnyH_take (i := 10) (v := ?v116) rfl (by kernel_rfl) (by kernel_rfl) (by kernel_rfl) (fun _ _ _ h => h) (Or.inl ⟨by rfl, ?y116⟩) hHeld ?r116
      case y116 => (intro w hSw; go_simp; try with_reducible rfl)
      try simp only [Act.put, List.getElem_toArray, List.getElem_cons_succ, List.getElem_cons_zero, List.setIfInBounds_toArray, List.set_cons_zero, List.set_cons_succ]
      refine wpAnyH_ready (rs := [11]) (by kernel_rfl) (by simp) ?_
      refine AllReadyH.cons rfl (fun K hK => ?_) AllReadyH.nil
      refine wp_store_row 48 (.tmp 10) (.tmp 36) rfl R10 (us F) rfl rfl 48 Z4 HBR.out HFI.out HFZ.out (us_one F) ?_
      refine hK.out _ _ (Keeps.setRow hHeld (.inr HR10W.out) _) (fun hHeld => ?_)
      clear hK K
      try simp only [Act.put, List.getElem_toArray, List.getElem_cons_succ, List.getElem_cons_zero, List.setIfInBounds_toArray, List.set_cons_zero, List.set_cons_succ]
      refine wpAnyH_done (by kernel_rfl) ?_ _
      have HFin := Lib.hid hHeld
      clear hHeld
      have HKR := fun wq : World => Keeps.setRow (Keeps.refl (· = R10) wq) (g := R10) (.inl rfl) (us F)
      have HEND := Lib.hid (⟨HL7.out, HO7.out.keeps (HKR _) (fun b o hA e => HA7.out b o hA e), HR7.out.low (HKR _) (fun b _ hb e => by have := HRG.out; omega), Blk.setRow HBR.out (us F), HFin.out, HRG.out, HR10W.out⟩ : _ ∧ _ ∧ _ ∧ _ ∧ _ ∧ _ ∧ _)
      go_wp2_with fail
      go_meet
      case rel => exact ⟨A7, c7, m7, R10, rfl, rfl, HEND⟩
  case rest =>
    obtain ⟨A7, c7, m7, R10, rfl, rfl, HE⟩ := hcut
    have HL7 := Lib.hid HE.out.1
    have HO7 := Lib.hid HE.out.2.1
    have HR7 := Lib.hid HE.out.2.2.1
    have HB7 := Lib.hid HE.out.2.2.2.1
    have HK7 := Lib.hid HE.out.2.2.2.2.1
    have HG10 := Lib.hid HE.out.2.2.2.2.2.1
    have HW10 := Lib.hid HE.out.2.2.2.2.2.2
    have HKw := Lib.hid (Rt.keeps_low HK5.out HK7.out (fun y hy => by rw [hy]; exact HGB.out))
    have HT7 := Lib.hid (HT5q.out wc HK7.out)
    have hb7 := HB5q.out wc HK7.out
    have HEN := Lib.hid (Wr.end_ g s4 w.heap.size wc HR7.out)
    obtain ⟨fi, hfi⟩ : ∃ fi, s4.fin = fi := ⟨_, rfl⟩
    rw [hfi] at HEN HTKB
    have HFN := Lib.hid hfi
    clear HE hfi HST HUN HR5 HT5 HB5 hb5
    go_upto_region 8 with (
      go_at_call 15
      refine HEN.out.mono ?_
      rintro e w8 ⟨rfl, q8, rfl⟩)
    have HKq : Hid (Keeps (fun _ => False) wc (wc.drewN q8)) := (Keeps.refl _ _).drewN q8
    generalize wc.drewN q8 = w8 at HKq ⊢
    have HK8 := Lib.hid (HKw.out.trans HKq.out)
    have HT8 := Lib.hid (HT7.out.keeps HKq.out id)
    have HB8 := Lib.hid (HB7.out.keeps HKq.out id)
    have HO8 := Lib.hid (HO7.out.keeps HKq.out (fun _ _ _ => id))
    clear HKq HEN hb7 HKw HT7 HB7 HO7
    by_cases hf0 : fi = 0
    case neg =>
      have hne : (fi != 0) = true := by simpa using hf0
      go_wp2_with fail
      go_ret2
      rw [HTKB.out, if_pos hf0]
      exact ⟨none, 0, 0, rfl, rfl, .inl rfl, HK8.out⟩
    subst hf0
    have hs4 : s4.e = 0 := by
      have h1 := HFN.out
      unfold RS.fin at h1
      split at h1
      · omega
      · exact h1
    obtain ⟨hal, hab⟩ := HUG.out HOK3.out hs4
    have HAL := Lib.hid hal
    have HAB := Lib.hid hab
    have HNEW := Lib.hid new4
    obtain ⟨L4, hL4⟩ : ∃ L4, us low4 = L4 := ⟨_, rfl⟩
    rw [hL4] at HNEW
    by_cases hF : F = low4
    case neg =>
      have HQ4 := Lib.hid (fun w => run_eq4 F low4 (us F) L4 false rfl hL4 HFL.out rfl (by simpa using hF) w)
      have HF0 := Lib.hid hF
      clear hs4 hal hab hL4 HUG hF
      obtain ⟨fa, fb, fc, fd, rfl⟩ := four HFL.out
      have hq4 := HQ4.out
      simp only [us, List.map_cons, List.map_nil] at hq4
      have HCq : Hid (∀ q, Keeps (fun _ => False) w8 q → q.cell? ⟨R10, 0, none⟩ = some (.int .u32 (fa : Int)) ∧ q.cell? ⟨R10, 1, none⟩ = some (.int .u32 (fb : Int)) ∧ q.cell? ⟨R10, 2, none⟩ = some (.int .u32 (fc : Int)) ∧ q.cell? ⟨R10, 3, none⟩ = some (.int .u32 (fd : Int))) := fun q k => ⟨(HB8.out.keeps k id).cell 0, (HB8.out.keeps k id).cell 1, (HB8.out.keeps k id).cell 2, (HB8.out.keeps k id).cell 3⟩
      obtain ⟨hc0, hc1, hc2, hc3⟩ := HCq.out w8 (Keeps.refl _ _)
      go_upto_region 10 with fail
      go_cut [45] from 43 to 45 (fun bv wx => bv = .bool true ∧ Hid (Keeps (fun _ => False) w8 wx))
      case first =>
        go_region_with (
          go_at_call 21
          refine (HNEW.out _).mono ?_
          rintro r9 w9 ⟨rfl, hk9⟩
          have HK9 := Lib.hid hk9.of_drew
          obtain ⟨hd0, hd1, hd2, hd3⟩ := HCq.out w9 HK9.out
          clear hk9)
        all_goals
          clear hq4
          go_wp2_with fail
          go_meet
          case rel => exact ⟨rfl, HK9⟩
      case rest =>
        obtain ⟨rfl, HK9⟩ := hcut
        have HKA := Lib.hid (HK8.out.trans HK9.out)
        have HT9 := Lib.hid (HT8.out.keeps HK9.out id)
        have HO9 := Lib.hid (HO8.out.keeps HK9.out (fun _ _ _ => id))
        clear HK9 hc0 hc1 hc2 hc3 hq4 HQ4 HCq
        go_wp2_with fail
        go_ret2
        rw [HTKB.out, if_neg (by simp), if_pos HF0.out]
        exact ⟨none, 0, 0, rfl, rfl, .inl rfl, HKA.out⟩

    case pos =>
      have HQ4 := Lib.hid (fun w => run_eq4 F low4 (us F) L4 true rfl hL4 HFL.out rfl (by simpa using hF) w)
      have HF0 := Lib.hid hF
      clear hs4 hal hab hL4 HUG hF
      obtain ⟨fa, fb, fc, fd, rfl⟩ := four HFL.out
      have hq4 := HQ4.out
      simp only [us, List.map_cons, List.map_nil] at hq4
      have HCq : Hid (∀ q, Keeps (fun _ => False) w8 q → q.cell? ⟨R10, 0, none⟩ = some (.int .u32 (fa : Int)) ∧ q.cell? ⟨R10, 1, none⟩ = some (.int .u32 (fb : Int)) ∧ q.cell? ⟨R10, 2, none⟩ = some (.int .u32 (fc : Int)) ∧ q.cell? ⟨R10, 3, none⟩ = some (.int .u32 (fd : Int))) := fun q k => ⟨(HB8.out.keeps k id).cell 0, (HB8.out.keeps k id).cell 1, (HB8.out.keeps k id).cell 2, (HB8.out.keeps k id).cell 3⟩
      obtain ⟨hc0, hc1, hc2, hc3⟩ := HCq.out w8 (Keeps.refl _ _)
      go_upto_region 10 with fail
      go_cut [45] from 43 to 45 (fun bv wx => bv = .bool false ∧ Hid (Keeps (fun _ => False) w8 wx))
      case first =>
        go_region_with (
          go_at_call 21
          refine (HNEW.out _).mono ?_
          rintro r9 w9 ⟨rfl, hk9⟩
          have HK9 := Lib.hid hk9.of_drew
          obtain ⟨hd0, hd1, hd2, hd3⟩ := HCq.out w9 HK9.out
          clear hk9)
        all_goals
          clear hq4
          go_wp2_with fail
          go_meet
          case rel => exact ⟨rfl, HK9⟩
      case rest =>
        obtain ⟨rfl, HK9⟩ := hcut
        have HKA := Lib.hid (HK8.out.trans HK9.out)
        have HT9 := Lib.hid (HT8.out.keeps HK9.out id)
        have HO9 := Lib.hid (HO8.out.keeps HK9.out (fun _ _ _ => id))
        clear HK9 hc0 hc1 hc2 hc3 hq4 HQ4 HCq
        have HOFC := Lib.hid (of_ A7 m7 c7 all wc HL7.out HO9.out (by have := HL7.out; have := HAL.out; have := HNB.out; omega) HAB.out)
        have hcc : InR (cnt all (fun _ => 1) m7) ∧ (cnt all (fun _ => 1) m7).sum ≠ 0 := by
          have h1 := HL7.out
          have h2 := HAL.out
          have h3 := HNB.out
          have h4 := HN0.out
          rw [← h1]
          exact ⟨cnt1_inR all (by omega), cnt1_sum (fun e => by rw [e] at h2; simp at h2; omega) HAB.out (by omega)⟩
        unfold ScalAns at HOFC
        rw [if_pos hcc, decide_eq_true hcc] at HOFC
        have htab : scal (cnt all (fun _ => 1) m7) = tabOf all := by rw [← HL7.out]; rfl
        rw [htab] at HOFC
        have hTl : (tabOf all).length = 256 := (tabOf_tb (b := all) (by have := HAL.out; have := HNB.out; omega)).len
        obtain ⟨OV, hOV⟩ : ∃ OV, vs (tabOf all) = OV := ⟨_, rfl⟩
        rw [hOV] at HOFC
        have HOI : Hid ((Try.prog.info? 62).map (·.size) = some OV.size) := by show _ = _; rw [← hOV]; exact tab_size hTl
        have HO1 : Hid (OV.all (·.oneCell') = true) := by show _ = _; rw [← hOV]; exact vs_one _
        have HOZ : Hid (Z.size = OV.size) := by show _ = _; rw [← hOV, ← HZ.out, vs_size, vs_size, hTl, zs_len]
        obtain ⟨bt, hbt⟩ : ∃ bt, decide (tabOf all = t) = bt := ⟨_, rfl⟩
        have HQT := Lib.hid (fun w => run_eq 62 Try.underlying62 (tabOf all) t OV V bt hOV HV.out hTl HTL.out hbt w)
        have HBT := Lib.hid hbt
        clear hcc htab hTl hOV hbt
        go_upto_region 13 with (first
          | (go_at_call 23; refine HOFC.out.mono ?_; rintro e w10 ⟨rfl, hk10⟩; have HKB := Lib.hid (HKA.out.trans hk10); have HTA := Lib.hid (HT9.out.keeps hk10 id); have HOA := Lib.hid (HO9.out.keeps hk10 (fun _ _ _ => id)); clear hk10)
          | ((with_reducible refine st_row (Blk.new _ 62 Z) HOI.out HOZ.out HO1.out ?_ ?_ ?_); rfl; rfl))
        have HTB2 := Lib.hid (Blk.put_new (old := Z) (t := 62) (cs := OV) HTA.out)
        have HOB : Hid (Blk ((w10.alloc (.cells Z 62)).setRow w10.heap.size OV) w10.heap.size 62 OV) := new_put
        have HKC : Hid (Keeps (fun _ => False) w10 ((w10.alloc (.cells Z 62)).setRow w10.heap.size OV)) := Keeps.put_new (Keeps.refl _ _)
        generalize (w10.alloc (.cells Z 62)).setRow w10.heap.size OV = W11 at HTB2 HOB HKC ⊢
        have hqt := HQT.out
        have HKD := Lib.hid (HKB.out.trans HKC.out)
        have HOD := Lib.hid (HOA.out.keeps HKC.out (fun _ _ _ => id))
        cases bt with
        | false =>
          go_wp2_with (first
            | ((with_reducible refine ld_row HOB.out Try.underlying62 HOI.out ?_ ?_); rfl)
            | ((with_reducible refine ld_row HTB2.out Try.underlying62 HVI.out ?_ ?_); rfl))
          go_ret2
          rw [HTKB.out, if_neg (by simp), if_neg (fun h => h HF0.out), if_pos (of_decide_eq_false HBT.out)]
          exact ⟨none, 0, 0, rfl, rfl, .inl rfl, HKD.out⟩
        | true =>
          go_wp2_with (first
            | ((with_reducible refine ld_row HOB.out Try.underlying62 HOI.out ?_ ?_); rfl)
            | ((with_reducible refine ld_row HTB2.out Try.underlying62 HVI.out ?_ ?_); rfl))
          go_ret2
          rw [HTKB.out, if_neg (by simp), if_neg (fun h => h HF0.out), if_neg (by simpa using of_decide_eq_true HBT.out)]
          exact ⟨A7, m7, c7, rfl, HL7.out, HOD.out, HKD.out⟩
  -- behind region 6
end Go.Proofs.Ytmeeagjnlmfgeaa.Rs

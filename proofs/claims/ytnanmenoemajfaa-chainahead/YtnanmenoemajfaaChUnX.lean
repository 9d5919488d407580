/- Bytes taken by their tables (chain.unpacked). -/
import Derived.Test.YtnanmenoemajfaaChPk
namespace Go.Proofs.Ytnanmenoemajfaa.Cq
open Go.RowKit Go.Proofs.Ytnanmenoemajfaa.Gen Go.Proofs.Ytnanmenoemajfaa.Wr Go.Proofs.Ytnanmenoemajfaa.It Go.Proofs.Ytnanmenoemajfaa.Ir Go.Proofs.Ytnanmenoemajfaa.Ib Go.Proofs.Ytnanmenoemajfaa.Fq Go.Proofs.Ytnanmenoemajfaa.Fb Go.Proofs.Ytnanmenoemajfaa.Rp Go.Proofs.Ytnanmenoemajfaa.Rs Go.Proofs.Ytnanmenoemajfaa.Ch Go.Proofs.Ytnanmenoemajfaa.Cm Go.Proofs.Ytnanmenoemajfaa.Ck

/-- Bytes as a block's cells. -/
def bc (xs : List Int) : Array Value := (bv xs).toArray
theorem bc_set (xs : List Int) (j : Nat) (x : Int) : (bc xs).setIfInBounds j (.int .u8 x) = bc (xs.set j x) := by simp [bc, bv, List.map_set]
theorem bc_get {xs : List Int} {j : Nat} (h : j < xs.length) : (bc xs)[j]? = some (.int .u8 (xs.getD j 0)) := by
  rw [bc, List.getElem?_toArray]
  exact bv_at h
theorem blk_own {w : World} {g n base : Nat} {xs : List Int} (h : Blk w g 5 (bc xs)) (hn : xs.length = n) (hl : n ≤ 1000000) (hb : base ≤ g) : w.ownsRow base 5 1 (.slice (some ⟨g, 0, none⟩) n n) n (bv xs) := by
  refine ⟨by rw [bv_len]; omega, .inr ⟨g, n, bc xs, rfl, hb, h, Nat.le_refl _, by simp only [maxLen]; omega, by simp [bc, bv_len, hn], ?_⟩⟩
  simp [bc]
  exact List.take_of_length_le (by rw [bv_len]; omega)
theorem blk_lies {w : World} {g : Nat} {xs : List Int} (h : Blk w g 5 (bc xs)) : Lies w (some ⟨g, 0, none⟩) xs :=
  .inr ⟨g, 0, rfl, h.lt, fun i hi => by rw [h.cell, Nat.zero_add, bc_get hi]⟩
theorem make_all (t : Nat) (ht : t ≤ 1000000) (w : World) : (Instr.makeSlice 22 (.int .i64 (t : Int)) (.int .i64 (t : Int))).run Try.prog w = .ok (.slice (some ⟨w.heap.size, 0, none⟩) t t) (w.alloc (.cells (bc (List.replicate t 0)) 5)) := by
  obtain ⟨i0, hi0, hz0, hz1, hz2⟩ := info_parts u8_info
  have h := run_make (P := Try.prog) w 22 5 i0 _ Try.underlying22 hi0 hz0 .i64 .i64 (t : Int) (t : Int) (by omega) (by omega) (by rw [hz2]; omega) (by omega)
  rw [hz1, Int.toNat_natCast, made_room] at h
  exact h

/-- What lies where, while bytes are taken. -/
structure Uns (base g AA FF RB R9 QQ sp OB B : Nat) (QS OS Z : Array Value) (tb : Nat → Option (List Int)) (seen : List Nat) (all : List Int) (f : List Nat) (s : RS) (w wr : World) : Prop where
  all : Blk wr AA 5 (bc all)
  fou : Blk wr FF 44 (us f)
  box : Blk wr RB 54 #[.pointer (some ⟨g, 0, none⟩)]
  res : Blk wr R9 44 Z
  qua : Blk wr QQ 79 QS
  map : IsF Try.prog 75 65536 pkl wr sp (spV tb)
  own : Blk wr OB 97 OS
  rows : Rows_ tb seen B OS wr
  rd : IsRd base g s wr
  keeps : Keeps (· = g) w wr
structure UnAt (w : World) (g AA FF RB R9 QQ sp OB B : Nat) : Prop where
  hg : g < w.heap.size
  ha : w.heap.size ≤ AA
  hf : w.heap.size ≤ FF
  hb : w.heap.size ≤ RB
  hr : w.heap.size ≤ R9
  hq : w.heap.size ≤ QQ
  hs : w.heap.size ≤ sp
  ho : w.heap.size ≤ OB
  fr : FF ≠ R9
  ab : AA ≤ B
  fb : FF ≤ B
  gb : g ≤ B
section
variable {base g AA FF RB R9 QQ sp OB B : Nat} {QS OS Z : Array Value} {tb : Nat → Option (List Int)} {seen : List Nat} {all : List Int} {f : List Nat} {s s1 : RS} {w wr w1 : World}
theorem Uns.still (h : Uns base g AA FF RB R9 QQ sp OB B QS OS Z tb seen all f s w wr) (k : Keeps (fun _ => False) wr w1) : Uns base g AA FF RB R9 QQ sp OB B QS OS Z tb seen all f s w w1 :=
  ⟨h.all.keeps k id, h.fou.keeps k id, h.box.keeps k id, h.res.keeps k id, h.qua.keeps k id, h.map.keeps k id, h.own.keeps k id, h.rows.keeps k (fun _ h => h.elim), h.rd.keeps k (fun _ _ => id), h.keeps.trans k.none_⟩
theorem Uns.next (a : UnAt w g AA FF RB R9 QQ sp OB B) (h : Uns base g AA FF RB R9 QQ sp OB B QS OS Z tb seen all f s w wr) (hr : IsRd base g s1 w1) (k : Keeps (· = g) wr w1) : Uns base g AA FF RB R9 QQ sp OB B QS OS Z tb seen all f s1 w w1 := by
  have h1 := a.hg; have h2 := a.ha; have h3 := a.hf; have h4 := a.hb; have h5 := a.hr; have h6 := a.hq; have h7 := a.hs; have h8 := a.ho
  exact ⟨h.all.keeps k (by omega), h.fou.keeps k (by omega), h.box.keeps k (by omega), h.res.keeps k (by omega), h.qua.keeps k (by omega), h.map.keeps k (by omega), h.own.keeps k (by omega), h.rows.keeps k (fun x hx => by have hx : x = g := hx; have := a.gb; omega), hr, h.keeps.trans k⟩
theorem Uns.keeps2 {X : Nat} (h : Keeps (· = g) w wr) (k : Keeps (· = X) wr w1) (hX : w.heap.size ≤ X) : Keeps (· = g) w w1 :=
  ⟨k.os.trans h.os, k.tape.trans h.tape, k.output.trans h.output, Nat.le_trans h.size k.size, fun x hx hn => (k.block x (Nat.lt_of_lt_of_le hx h.size) (fun e => by omega)).trans (h.block x hx hn)⟩
theorem Uns.setF {i x : Nat} (a : UnAt w g AA FF RB R9 QQ sp OB B) (h : Uns base g AA FF RB R9 QQ sp OB B QS OS Z tb seen all f s w wr) : Uns base g AA FF RB R9 QQ sp OB B QS OS Z tb seen all (f.set i x) s w (wr.setCell ⟨FF, i, none⟩ (.int .u32 (x : Int))) := by
  have k : Keeps (· = FF) wr (wr.setCell ⟨FF, i, none⟩ (.int .u32 (x : Int))) := (Keeps.refl _ _).setOwn i _
  have h1 := a.hg; have h3 := a.hf
  refine ⟨h.all.keeps k (Blk.ne h.all h.fou (by decide)), ?_, h.box.keeps k (Blk.ne h.box h.fou (by decide)), h.res.keeps k a.fr.symm, h.qua.keeps k (Blk.ne h.qua h.fou (by decide)), h.map.keeps k (fun e => h.map.ne_blk h.fou e.symm), h.own.keeps k (Blk.ne h.own h.fou (by decide)), h.rows.keeps k (fun z hz => by have hz : z = FF := hz; have := a.fb; omega), h.rd.low k (fun b _ hb e => by omega), Uns.keeps2 h.keeps k a.hf⟩
  have := h.fou.setCell i (.int .u32 (x : Int))
  rw [us_set] at this
  exact this
theorem Uns.setA {j : Nat} {x : Int} (a : UnAt w g AA FF RB R9 QQ sp OB B) (h : Uns base g AA FF RB R9 QQ sp OB B QS OS Z tb seen all f s w wr) : Uns base g AA FF RB R9 QQ sp OB B QS OS Z tb seen (all.set j x) f s w (wr.setCell ⟨AA, j, none⟩ (.int .u8 x)) := by
  have k : Keeps (· = AA) wr (wr.setCell ⟨AA, j, none⟩ (.int .u8 x)) := (Keeps.refl _ _).setOwn j _
  have h1 := a.hg; have h3 := a.ha
  refine ⟨?_, h.fou.keeps k (Blk.ne h.fou h.all (by decide)), h.box.keeps k (Blk.ne h.box h.all (by decide)), h.res.keeps k (Blk.ne h.res h.all (by decide)), h.qua.keeps k (Blk.ne h.qua h.all (by decide)), h.map.keeps k (fun e => h.map.ne_blk h.all e.symm), h.own.keeps k (Blk.ne h.own h.all (by decide)), h.rows.keeps k (fun z hz => by have hz : z = AA := hz; have := a.ab; omega), h.rd.low k (fun b _ hb e => by omega), Uns.keeps2 h.keeps k a.ha⟩
  have := h.all.setCell j (.int .u8 x)
  rw [bc_set] at this
  exact this
end
theorem results_tmp_cell {fn : Func} {p u : Tmp} {ty : TypeId} (h : fn.results = #[.tmp u, .cell p ty]) (tmps : Array Value) (P : Program) (w : World) :
    (results fn tmps).run P w = ((asAddr (tmps.getD p undef)).run P w).andThen fun a w₁ => ((loadVar ty a).run P w₁).andThen fun v w₂ => .ok (.tuple #[tmps.getD u undef, v]) w₂ := by
  simp only [results, h]
  simp [Sem.run_bind, Result.andThen]
theorem ret_un {fn : Func} (h : fn.results = #[.tmp 8, .cell 9 44]) (tmps : Array Value) (w : World) (g : Nat) (v : Array Value) (x : Value) (hi : (Try.prog.info? 44).map (·.size) = some v.size)
    (hp : tmps.getD 9 undef = .pointer (some ⟨g, 0, none⟩)) (hq : tmps.getD 8 undef = x) (hb : Blk w g 44 v) :
    (results fn tmps).run Try.prog w = .ok (.tuple #[x, .agg v]) w := by
  rw [results_tmp_cell h, hp, hq]
  simp only [asAddr, Result.andThen, Sem.run_pure]
  rw [run_loadVar_row w g 44 44 v (0, 0) _ hb Try.underlying44 rfl hi]
/-- What unpacked answers. -/
def UnAns (base g : Nat) (U : List Int × List Nat × RS) (w : World) (r : Ending) (w' : World) : Prop :=
  ∃ A k c, r = .returned (.tuple #[.slice A k c, .agg (us U.2.1)]) ∧ U.1.length = k ∧ k ≤ c ∧ U.2.1.length = 4 ∧ Lies w' A U.1 ∧ (∀ b o, A = some ⟨b, o, none⟩ → w.heap.size ≤ b) ∧ IsRd base g U.2.2 w' ∧ Keeps (· = g) w w'
/-- What is taken, once the tables and the states are there. -/
def unU (tb : Nat → Option (List Int)) (n : Nat) (F : List Nat) (s : RS) : List Int × List Nat × RS := if s.e ≠ 0 then ([], [0, 0, 0, 0], s) else unpC tb n (nst n) 0 (List.replicate n 0) F s

theorem rs_eq_ {s : RS} (h : s.e = 0) : s = ⟨s.xs, s.k, 0⟩ := by
  cases s
  simp only at h
  subst h
  rfl
theorem qad_some {AA n i : Nat} (hi : i < 4) (h : 0 < ql n i) : qad (some ⟨AA, 0, none⟩) n n i = some ⟨AA, qo n i, none⟩ := by
  have he := ql_end n hi
  cases i with
  | zero => rfl
  | succ i =>
    show cutAt (some ⟨AA, 0, none⟩) n (qo n (i + 1)) = _
    unfold cutAt
    rw [if_neg (by omega), Option.map_some, add_none, Nat.zero_add]
theorem row_at {w : World} {l : List Int} {g y cc : Nat} (hT : Tb l) (hy : y < 4096) (hw : own l y = (cc : Int)) (h : Lies w (some ⟨g, 0, none⟩) (ow l 256)) : w.cell? ⟨g, y, none⟩ = some (.int .u8 (cc : Int)) := by
  have hol := ow_len hT.fine hT.len (d := 256) (Nat.le_refl _)
  rw [List.take_of_length_le (by rw [hT.len]; exact Nat.le_refl _), hT.sum] at hol
  unfold own at hw
  generalize ow l 256 = R at hol hw h
  rcases h with rfl | ⟨b, o, e, _, hc⟩
  · simp at hol
  · injection e with e
    injection e with e1 e2
    subst e1
    subst e2
    have := hc y (by omega)
    rw [Nat.zero_add, hw] at this
    exact this
/-- Between two steps. -/
structure UnR (base g AA FF RB R9 QQ sp OB B : Nat) (QS OS Z : Array Value) (tb : Nat → Option (List Int)) (seen : List Nat) (n : Nat) (F : List Nat) (s0 : RS) (t : Nat) (all : List Int) (f : List Nat) (s : RS) (w wr : World) : Prop where
  uns : Uns base g AA FF RB R9 QQ sp OB B QS OS Z tb seen all f s w wr
  len : all.length = n
  f4 : f.length = 4
  byt : ∀ x ∈ all, 0 ≤ x ∧ x < 256
  st : s.e = 0 → St f
  eq : unpC tb n (nst n) 0 (List.replicate n 0) F s0 = unpC tb n (nst n - t) t all f s

set_option maxHeartbeats 16000000 in
set_option maxRecDepth 100000 in
theorem unpacked_ (b g base n : Nat) (F : List Nat) (s0 : RS) (tb : Nat → Option (List Int)) (w : World) (hm : IsF Try.prog 5 256 bkl w b (tabV tb)) (h : IsRd base g s0 w) (hn1 : 1 ≤ n) (hn : n ≤ 400000) (hF : F.length = 4) (hok : s0.e = 0 → (∀ a l, tb a = some l → Tb l) ∧ St F) :
    Calls Try.prog 22 #[.int .i64 (n : Int), .map (some b), .agg (us F), rd g] w (UnAns base g (unU tb n F s0) w) := by
  have HM := Lib.hid hm
  have H := Lib.hid h
  have HN1 := Lib.hid hn1
  have HN := Lib.hid hn
  have HF := Lib.hid hF
  have HOK := Lib.hid hok
  have hz : ∀ w, (zeroValue 44).run Try.prog w = .ok (.agg (us no4)) w := four_zero
  have hbu := run_four
  have HZI : Hid ((Try.prog.info? 44).map (·.size) = some (us no4).size) := four_size rfl
  have HZ1 : Hid ((us no4).all (·.oneCell') = true) := us_one _
  have HFI : Hid ((Try.prog.info? 44).map (·.size) = some (us F).size) := four_size hF
  obtain ⟨U, hU⟩ : ∃ U, us F = U := ⟨_, rfl⟩
  generalize hZ : us no4 = Z at hz hbu HZI HZ1
  have HZS := Lib.hid hZ
  have HU := Lib.hid hU
  rw [hU] at HFI ⊢
  clear hm h hn1 hn hF hok hZ hU
  unfold rd
  go_enter Try.func22, Try.ntmps22
  go_upto_region 1 with fail
  obtain ⟨FF, hFF⟩ : ∃ FF, w.heap.size = FF := ⟨_, rfl⟩
  obtain ⟨RB, hRB⟩ : ∃ RB, w.heap.size + 1 = RB := ⟨_, rfl⟩
  obtain ⟨R9, hR9⟩ : ∃ R9, w.heap.size + 1 + 1 = R9 := ⟨_, rfl⟩
  have e1 : (w.alloc (.cells U 44)).heap.size = RB := by rw [← hRB]; simp
  have e2 : ((w.alloc (.cells U 44)).alloc (.cells #[.pointer (some ⟨g, 0, none⟩)] 54)).heap.size = R9 := by rw [← hR9]; simp
  have HF1a : Hid (Blk (((w.alloc (.cells U 44)).alloc (.cells #[.pointer (some ⟨g, 0, none⟩)] 54)).alloc (.cells Z 44)) FF 44 U) := by show Blk _ _ _ _; rw [← hFF]; exact ((Blk.new _ _ _).alloc _).alloc _
  have HB1a : Hid (Blk (((w.alloc (.cells U 44)).alloc (.cells #[.pointer (some ⟨g, 0, none⟩)] 54)).alloc (.cells Z 44)) RB 54 #[.pointer (some ⟨g, 0, none⟩)]) := by show Blk _ _ _ _; rw [← e1]; exact (Blk.new _ _ _).alloc _
  have HR1a : Hid (Blk (((w.alloc (.cells U 44)).alloc (.cells #[.pointer (some ⟨g, 0, none⟩)] 54)).alloc (.cells Z 44)) R9 44 Z) := by show Blk _ _ _ _; rw [← e2]; exact Blk.new _ _ _
  have HK1 : Hid (Keeps (fun _ => False) w (((w.alloc (.cells U 44)).alloc (.cells #[.pointer (some ⟨g, 0, none⟩)] 54)).alloc (.cells Z 44))) := (((Keeps.refl _ _).alloc _).alloc _).alloc _
  rw [hR9, hRB, hFF]
  generalize ((w.alloc (.cells U 44)).alloc (.cells #[.pointer (some ⟨g, 0, none⟩)] 54)).alloc (.cells Z 44) = W1 at HF1a HB1a HR1a HK1 ⊢
  have HNM : Hid (w.heap.size = FF ∧ w.heap.size + 1 = RB ∧ w.heap.size + 2 = R9 ∧ g < w.heap.size) := Lib.hid ⟨hFF, hRB, hR9, H.out.lt⟩
  have HR1 := Lib.hid (H.out.keeps HK1.out (fun _ _ h => h))
  have hb1 : W1.cell? ⟨RB, 0, none⟩ = some (.pointer (some ⟨g, 0, none⟩)) := HB1a.out.cell 0
  clear hFF hRB hR9 e1 e2
  by_cases he : s0.e = 0
  · have HER := Lib.hid (err_q g s0 0 base W1 HR1.out he)
    obtain ⟨htb, hst⟩ := HOK.out he
    have HTB := Lib.hid htb
    have HST := Lib.hid hst
    have HUU : Hid (unU tb n F s0 = unpC tb n (nst n) 0 (List.replicate n 0) F s0) := by show _ = _; rw [unU, if_neg (by omega)]
    have hmk := make_all n (by have := HN.out; omega) W1
    have HA3a : Hid (Blk (W1.alloc (.cells (bc (List.replicate n 0)) 5)) W1.heap.size 5 (bc (List.replicate n 0))) := Blk.new _ _ _
    have HK3a : Hid (Keeps (fun _ => False) W1 (W1.alloc (.cells (bc (List.replicate n 0)) 5))) := (Keeps.refl _ _).alloc _
    have HSA := Lib.hid HR1a.out.lt
    generalize hBC : bc (List.replicate n 0) = BC at hmk HA3a HK3a
    have HBC := Lib.hid hBC
    clear hBC
    clear htb hst he HOK
    go_upto_region 4 with (
      go_at_call 45
      refine HER.out.mono ?_
      rintro e1 w' ⟨rfl, hw⟩
      rw [hw]
      clear hw)
    obtain ⟨AA, hAA⟩ : ∃ AA, W1.heap.size = AA := ⟨_, rfl⟩
    generalize W1.alloc (.cells BC 5) = W3 at HA3a HK3a ⊢
    rw [hAA] at HA3a HSA ⊢
    clear hAA hmk hb1
    have HK3 := Lib.hid (HK1.out.trans HK3a.out)
    have HF3 := Lib.hid (HF1a.out.keeps HK3a.out id)
    have HB3 := Lib.hid (HB1a.out.keeps HK3a.out id)
    have HR3 := Lib.hid (HR1a.out.keeps HK3a.out id)
    have HRD3 := Lib.hid (HR1.out.keeps HK3a.out (fun _ _ h => h))
    have HM3 := Lib.hid (HM.out.keeps HK3.out id)
    clear HF1a HB1a HR1a HK1 HR1 HK3a
    -- the quarters of what is to come
    obtain ⟨Z5, hZ5, hz5⟩ := zero_q w
    have hzs : ∀ w, (zeroValue 82).run Try.prog w = .ok (.agg #[.int .i64 0, .int .i64 0]) w := zero_span
    obtain ⟨QS, hQS⟩ : ∃ QS, qs (some ⟨AA, 0, none⟩) n n = QS := ⟨_, rfl⟩
    have HQC := Lib.hid (fun W => quarters_ (some ⟨AA, 0, none⟩) n n W (Nat.le_refl _) (by have := HN.out; omega))
    rw [hQS] at HQC
    have HQG : Hid (∀ i, i < 4 → QS[i]? = some (qsl (some ⟨AA, 0, none⟩) n n i)) := by
      refine Lib.hid fun i hi => ?_
      rw [← hQS]
      exact qs_get hi
    have HQI : Hid ((Try.prog.info? 79).map (·.size) = some QS.size) := by show _ = _; rw [← hQS]; exact qs_info _ n n
    have HQ1 : Hid (QS.all (·.oneCell') = true) := by show _ = _; rw [← hQS]; exact qs_one _ n n
    have HQZ : Hid (Z5.size = QS.size) := by show _ = _; rw [hZ5, ← hQS]; rfl
    clear hQS hZ5
    go_upto_region 5 with (first
      | (go_at_call 31; refine (HQC.out _).mono ?_; rintro e w4 ⟨rfl, hk4⟩; have HK4a := Lib.hid hk4; clear hk4)
      | ((with_reducible refine st_row (Blk.new _ 79 Z5) HQI.out HQZ.out HQ1.out ?_ ?_ ?_); rfl; rfl))
    obtain ⟨QQ, hQQ⟩ : ∃ QQ, w4.heap.size = QQ := ⟨_, rfl⟩
    have HQ5 : Hid (Blk ((w4.alloc (.cells Z5 79)).setRow w4.heap.size QS) w4.heap.size 79 QS) := new_put
    have HKd : Hid (Keeps (fun _ => False) W3 ((w4.alloc (.cells Z5 79)).setRow w4.heap.size QS)) := Keeps.put_new HK4a.out
    generalize (w4.alloc (.cells Z5 79)).setRow w4.heap.size QS = W5 at HQ5 HKd ⊢
    have HNQ : Hid (AA < QQ) := by
      show AA < QQ
      rw [← hQQ]
      exact Nat.lt_of_lt_of_le HA3a.out.lt HK4a.out.size
    rw [hQQ] at HQ5 ⊢
    clear hQQ HK4a
    have HM5 := Lib.hid (HM3.out.keeps HKd.out id)
    have hzo : ∀ w, (zeroValue 97).run Try.prog w = .ok (.agg nils) w := oa_zero
    have HNLS : Hid (nils.size = 256) := by show _ = _; simp [nils]
    generalize nils = NL at hzo HNLS
    have HSPC := Lib.hid (fun W (h : IsF Try.prog 5 256 bkl W b (tabV tb)) => spans_ b tb W h HTB.out)
    have HOWC := Lib.hid (fun W (h : IsF Try.prog 5 256 bkl W b (tabV tb)) => owners_ b tb W h HTB.out)
    go_upto_region 6 with (first
      | (go_at_call 12
         refine (HSPC.out _ HM5.out).mono ?_
         rintro e w6 ⟨sp, rfl, hf6, hs6, hk6⟩
         have HSP6 := Lib.hid hf6
         have HSZ6 : Hid (W5.heap.size ≤ sp) := hs6
         have HK6 := Lib.hid (HKd.out.trans hk6)
         have HQ6 := Lib.hid (HQ5.out.keeps hk6 id)
         have HM6 := Lib.hid (HM5.out.keeps hk6 id)
         have HS56 : Hid (W5.heap.size ≤ w6.heap.size) := hk6.size
         clear hf6 hs6 hk6 HSPC)
      | (have H1 := HOWC
         go_at_call 48
         refine (HOWC.out _ HM6.out).mono ?_
         rintro e w7 ⟨OS, B, seen, rfl, hro7, hB7, hif7, hk7⟩
         have HRO7 := Lib.hid hro7
         have HB7 : Hid (w6.heap.size ≤ B) := hB7
         have HIF := Lib.hid hif7
         have HK7 := Lib.hid (HK6.out.trans hk7)
         have HQ7 := Lib.hid (HQ6.out.keeps hk7 id)
         have HSP7 := Lib.hid (HSP6.out.keeps hk7 id)
         have HOI : Hid ((Try.prog.info? 97).map (·.size) = some OS.size) := oa_size hro7.size
         have HO1 : Hid (OS.all (·.oneCell') = true) := hro7.one
         have HOZ : Hid (NL.size = OS.size) := by show _ = _; rw [HNLS.out, hro7.size]
         have HS67 : Hid (w6.heap.size ≤ w7.heap.size) := hk7.size
         clear hro7 hB7 hif7 hk7 HOWC H1 HQ6 HSP6)
      | ((with_reducible refine st_row (Blk.new _ 97 NL) HOI.out HOZ.out HO1.out ?_ ?_ ?_); rfl; rfl))
    obtain ⟨OB, hOB⟩ : ∃ OB, w7.heap.size = OB := ⟨_, rfl⟩
    have HO8 : Hid (Blk ((w7.alloc (.cells NL 97)).setRow w7.heap.size OS) w7.heap.size 97 OS) := new_put
    have HKe : Hid (Keeps (fun _ => False) w7 ((w7.alloc (.cells NL 97)).setRow w7.heap.size OS)) := Keeps.put_new (Keeps.refl _ _)
    generalize (w7.alloc (.cells NL 97)).setRow w7.heap.size OS = W8 at HO8 HKe ⊢
    rw [hOB] at HO8 ⊢
    have HK8 := Lib.hid (HK7.out.trans HKe.out)
    have HAt : Hid (UnAt w g AA FF RB R9 QQ sp OB B) := by
      have h1 := HNM.out; have h2 := HNQ.out; have h3 := HSZ6.out; have h4 := HB7.out; have h5 := HQ5.out.lt; have h6 := HS56.out; have h7 := HS67.out; have h8 := HSA.out
      exact ⟨by omega, by omega, by omega, by omega, by omega, by omega, by omega, by omega, by omega, by omega, by omega, by omega⟩
    have HUR : Hid (UnR base g AA FF RB R9 QQ sp OB B QS OS Z tb seen n F s0 0 (List.replicate n 0) F s0 w W8) := by
      refine Lib.hid ⟨⟨?_, ?_, HB3.out.keeps HK8.out id, HR3.out.keeps HK8.out id, HQ7.out.keeps HKe.out id, HSP7.out.keeps HKe.out id, HO8.out, HRO7.out.keeps HKe.out (fun _ h => h.elim), HRD3.out.keeps HK8.out (fun _ _ h => h), (HK3.out.trans HK8.out).none_⟩, by simp, HF.out, fun x hx => by have := List.eq_of_mem_replicate hx; omega, fun _ => HST.out, by rw [Nat.sub_zero]⟩
      · rw [HBC.out]; exact HA3a.out.keeps HK8.out id
      · rw [HU.out]; exact HF3.out.keeps HK8.out id
    clear hOB HA3a HF3 HB3 HR3 HRD3 HM3 HM5 HM6 HQ5 HQ7 HSP7 HKd HKe HK3 HK6 HK7 HK8 HO8 HRO7 HQC HOI HO1 HOZ HB7 HS56 HS67 HSZ6 HSA HNQ hzo HNLS hz5
    obtain ⟨A3, hA3⟩ : ∃ A3, qad (some ⟨AA, 0, none⟩) n n 3 = A3 := ⟨_, rfl⟩
    obtain ⟨l3, hl3⟩ : ∃ l3, ql n 3 = l3 := ⟨_, rfl⟩
    obtain ⟨c3, hc3⟩ : ∃ c3, n - qo n 3 = c3 := ⟨_, rfl⟩
    have hq3 : W8.cell? ⟨QQ, 3, none⟩ = some (.slice A3 l3 c3) := by rw [HUR.out.uns.qua.cell, HQG.out 3 (by omega), qsl, hA3, hl3, hc3]
    have HL3 := Lib.hid hl3
    have HLN : Hid (l3 ≤ 400000) := by show _ ≤ _; have := ql_end n (i := 3) (by omega); have := HN.out; omega
    have HNST : Hid (nst n = 4 * l3) := by show _ = _; rw [nst, hl3]
    clear hA3 hl3 hc3
    simp only [Act.put]
    go_upto_region 7 with fail
    clear hq3
    go_loopw [14, 15, 16, 17, 18, 35] (fun _ _ _ _ _ iv wr => ∃ (p : Nat) (all : List Int) (f : List Nat) (s : RS), iv = .int .i64 (p : Int) ∧ p ≤ l3 ∧ Hid (UnR base g AA FF RB R9 QQ sp OB B QS OS Z tb seen n F s0 (4 * p) all f s w wr)) (fun _ _ _ _ _ iv _ => l3 - (intOf iv).toNat)
    case atStart => exact ⟨0, _, F, s0, rfl, by omega, HUR⟩
    case round =>
      clear HUR
      obtain ⟨p, all, f, s, rfl, hp, HH⟩ := hrel
      by_cases hlt : p < l3
      · have hp0 : (0 : Int) ≤ (p : Int) := by omega
        have hp1 : (p : Int) < (l3 : Int) := by omega
        have HP := Lib.hid hlt
        have hwp : IntKind.i64.wrap ((p : Int) + 1) = (p : Int) + 1 := IntWalk.i64_in _ (by have := HLN.out; omega)
        clear hlt hp
        go_upto_region 10 with fail
        go_loopw [15, 16, 17, 18, 38] (fun _ _ _ _ iv wr => ∃ (i : Nat) (all : List Int) (f : List Nat) (s : RS), iv = .int .i64 (i : Int) ∧ i ≤ 4 ∧ Hid (UnR base g AA FF RB R9 QQ sp OB B QS OS Z tb seen n F s0 (4 * p + i) all f s w wr)) (fun _ _ _ _ iv _ => 4 - (intOf iv).toNat)
        case atStart => exact ⟨0, all, f, s, rfl, by omega, HH⟩
        case round =>
          clear HH
          obtain ⟨i, all, f, s, rfl, hi, HH⟩ := hrel
          by_cases hlt : i < 4
          · have hi0 : (0 : Int) ≤ (i : Int) := by omega
            have hi1 : (i : Int) < 4 := by omega
            obtain ⟨t, ht⟩ : ∃ t, 4 * p + i = t := ⟨_, rfl⟩
            have htm : t % 4 = i := by omega
            have htn : t < nst n := by rw [HNST.out]; have := HP.out; omega
            have hstep : nst n - t = (nst n - (t + 1)) + 1 := by omega
            have HTE : Hid (4 * p + (i + 1) = t + 1) := by show _ = _; omega
            rw [ht] at HH
            obtain ⟨Aq, hAq⟩ : ∃ Aq, qad (some ⟨AA, 0, none⟩) n n i = Aq := ⟨_, rfl⟩
            obtain ⟨lq, hlq⟩ : ∃ lq, ql n i = lq := ⟨_, rfl⟩
            obtain ⟨cq, hcq⟩ : ∃ cq, n - qo n i = cq := ⟨_, rfl⟩
            have hqi : wr.cell? ⟨QQ, i, none⟩ = some (.slice Aq lq cq) := by rw [HH.out.uns.qua.cell, HQG.out i hlt, qsl, hAq, hlq, hcq]
            have HI := Lib.hid hlt
            by_cases hv : lq ≤ p
            · have hpv : (lq : Int) ≤ (p : Int) := by omega
              have hnv : ¬ Val n t := by rw [← ht]; exact fun h => by have := (val_at hlt).1 h; omega
              have HE : Hid (UnR base g AA FF RB R9 QQ sp OB B QS OS Z tb seen n F s0 (4 * p + (i + 1)) all f s w wr) := by
                refine Lib.hid ?_
                rw [HTE.out]
                exact ⟨HH.out.uns, HH.out.len, HH.out.f4, HH.out.byt, HH.out.st, by rw [HH.out.eq, hstep, unpC_skip hnv]⟩
              clear hnv hv htm htn hstep hAq hlq hcq ht hlt hi HH
              go_wp2_with fail
              exact ⟨⟨i + 1, all, f, s, by go_num, by have := HI.out; omega, HE⟩, by have := HI.out; simp [intOf]; omega⟩
            · have hpv : ¬ ((lq : Int) ≤ (p : Int)) := by omega
              have hval : Val n t := by rw [← ht]; exact (val_at hlt).2 (by omega)
              have hpos : pos n t = qo n i + p := by rw [← ht]; exact pos_at hlt
              obtain rfl : Aq = some ⟨AA, qo n i, none⟩ := by rw [← hAq]; exact qad_some hlt (by omega)
              obtain ⟨x, hxv⟩ : ∃ x : Nat, cx n all t = (x : Int) := ⟨_, (Int.toNat_of_nonneg (cx_byte (n := n) (t := t) HH.out.byt).1).symm⟩
              have hxb : x < 256 := by have := (cx_byte (n := n) (t := t) HH.out.byt).2; omega
              have hqn : (qb all i).length = lq := by rw [qb_len all hlt, HH.out.len, hlq]
              have hdq : p < ql all.length i := by rw [HH.out.len, hlq]; omega
              have hlqn : lq ≤ 1000000 := by rw [← hlq]; have := ql_end n hlt; have := HN.out; omega
              have hQL : Lies wr (some ⟨AA, qo n i, none⟩) (qb all i) := by
                have := qb_lies (c := n) (i := i) (blk_lies HH.out.uns.all) (by rw [HH.out.len]; exact Nat.le_refl _) hlt
                rw [HH.out.len, hAq] at this
                exact this
              have HA := Lib.hid (ahead_ (some ⟨AA, qo n i, none⟩) lq cq p (qb all i) (x : Int) wr hqn hQL (by omega) hlqn (by rw [ahead_cx hlt hdq, HH.out.len, ht, hxv]))
              have hx0 : (0 : Int) ≤ (x : Int) := by omega
              have hx1 : (x : Int) < 256 := by omega
              have HPV : Hid (p < lq) := by show p < lq; omega
              have HXB := Lib.hid hxb
              have HVAL := Lib.hid hval
              have HPOS := Lib.hid hpos
              have HXV := Lib.hid hxv
              have HTM := Lib.hid htm
              have HST2 := Lib.hid hstep
              have hlqc : qo n i + lq ≤ n := by rw [← hlq]; exact ql_end n hlt
              have HLQC := Lib.hid hlqc
              clear hqn hdq hlqn hQL hval hpos hxv hxb hstep htm htn hAq hlq hcq ht hlt hi hv hlqc
              go_upto_region 14 with (
                go_at_call 32
                refine HA.out.mono ?_
                rintro e w2 ⟨rfl, rfl⟩)
              clear HA
              cases htx : tb x with
              | none =>
                as_aux_lemma =>
                  have hns : x ∉ seen := fun h => (HIF.out x HXB.out).2 h htx
                  have hco : w2.cell? ⟨OB, x, none⟩ = some (.slice none 0 0) := by rw [HH.out.uns.own.cell, HH.out.uns.rows.out x hns HXB.out]
                  have hel := fun (w : World) => Lib.run_eql_slice_nil (P := Try.prog) w 22 5 none 0 0 0 0 Try.underlying22
                  have hb2 : w2.cell? ⟨RB, 0, none⟩ = some (.pointer (some ⟨g, 0, none⟩)) := HH.out.uns.box.cell 0
                  have HFL := Lib.hid (Wr.fail g s base 11 w2 HH.out.uns.rd)
                  obtain ⟨s5, hs5⟩ : ∃ s5, s.fail 11 = s5 := ⟨_, rfl⟩
                  have hs5e : s5.e ≠ 0 := by rw [← hs5]; exact fail_ne (by decide)
                  have HFIN : Hid (unU tb n F s0 = ([], [0, 0, 0, 0], s5)) := by
                    show _ = _
                    rw [HUU.out, HH.out.eq, HST2.out, unpC_none HVAL.out (by rw [HXV.out, Int.toNat_natCast]; exact htx), hs5]
                  rw [hs5] at HFL
                  obtain ⟨e0, he0⟩ : ∃ e0, s5.e = e0 := ⟨_, rfl⟩
                  have hne2 : (e0 != 0) = true := by rw [← he0]; simpa using hs5e
                  have HEQ := Lib.hid (fun W (h : IsRd base g s5 W) => err_q g s5 e0 base W h he0)
                  clear hns htx hs5 hs5e he0
                  go_wp2_with (first
                    | (go_at_call 43
                       refine HFL.out.mono ?_
                       rintro e w5 ⟨rfl, hr5, hk5⟩
                       have HU5 := Lib.hid (HH.out.uns.next HAt.out hr5 hk5)
                       have hb5 : w5.cell? ⟨RB, 0, none⟩ = some (.pointer (some ⟨g, 0, none⟩)) := HU5.out.box.cell 0
                       clear hr5 hk5 hb2 HFL)
                    | (go_at_call 45
                       refine (HEQ.out _ HU5.out.rd).mono ?_
                       rintro e1 w' ⟨rfl, hw⟩
                       rw [hw]
                       clear hw)
                    | ((with_reducible refine st_row HU5.out.res HZI.out rfl HZ1.out ?_ ?_ ?_); rfl; rfl))
                  have hk9 : Keeps (· = R9) w5 (w5.setRow R9 Z) := Keeps.setRow (Keeps.refl (· = R9) w5) (.inl rfl) _
                  refine bodyPost_ret (v := .tuple #[.slice none 0 0, .agg Z]) (ret_un rfl _ _ R9 Z _ HZI.out rfl rfl (Blk.setRow HU5.out.res _)) rfl ?_
                  rw [HFIN.out]
                  refine ⟨none, 0, 0, ?_, rfl, Nat.le_refl _, rfl, .inl rfl, (fun _ _ h => by cases h), HU5.out.rd.low hk9 (fun b _ hb e => by have := HNM.out; omega), Uns.keeps2 HU5.out.keeps hk9 (by have := HNM.out; omega)⟩
                  rw [← HZS.out]
                  rfl
              | some l =>
                have hsn : x ∈ seen := (HIF.out x HXB.out).1 (by rw [htx]; simp)
                obtain ⟨l', gx, cx', hl', hos, hgB, hLx⟩ := HH.out.uns.rows.in_ x hsn HXB.out
                obtain rfl : l' = l := by rw [htx] at hl'; injection hl' with hl'; exact hl'.symm
                have hco : w2.cell? ⟨OB, x, none⟩ = some (.slice (some ⟨gx, 0, none⟩) 4096 cx') := by rw [HH.out.uns.own.cell, hos]
                have hel := fun (w : World) => Lib.run_eql_slice_nil (P := Try.prog) w 22 5 (some ⟨gx, 0, none⟩) 4096 cx' 0 0 Try.underlying22
                have hb2 : w2.cell? ⟨RB, 0, none⟩ = some (.pointer (some ⟨g, 0, none⟩)) := HH.out.uns.box.cell 0
                have htl : tb (cx n all t).toNat = some l' := by rw [HXV.out, Int.toNat_natCast]; exact htx
                by_cases he : s.e = 0
                · as_aux_lemma =>
                    have HEQ := Lib.hid (err_q g s 0 base w2 HH.out.uns.rd he)
                    have hSt := HH.out.st he
                    have hT := HTB.out x l' htx
                    obtain ⟨v, hvv⟩ : ∃ v, f.getD (t % 4) 0 = v := ⟨_, rfl⟩
                    have hIn := hSt.at_ t
                    rw [hvv] at hIn
                    obtain ⟨y, hy⟩ : ∃ y, v % 4096 = y := ⟨_, rfl⟩
                    have hyb : y < 4096 := by omega
                    obtain ⟨cc, hcw, hc1, hc2, hc3, hc4, hc5⟩ := owner hT hyb
                    obtain ⟨st, hst⟩ : ∃ st, stt l' (cc : Int) = st := ⟨_, rfl⟩
                    obtain ⟨pp, hpp⟩ : ∃ pp, prt l' (cc : Int) = pp := ⟨_, rfl⟩
                    obtain ⟨⟨z, s2⟩, hz2⟩ : ∃ q, takeS (stt l' (cc : Int)) (prt l' (cc : Int)) v s = q := ⟨_, rfl⟩
                    have hnx := unpC_next (k := nst n - (t + 1)) HVAL.out htl he hvv (by rw [hy]; exact hcw) hz2
                    have hgd : 0 < l'.getD cc 0 := by
                      have := hc2
                      simp only [prt, Int.toNat_natCast] at this
                      omega
                    have hsv : spV tb (256 * x + cc) = some (.agg #[.int .i64 (st : Int), .int .i64 (pp : Int)]) := by
                      rw [spV, show (256 * x + cc) / 256 = x by have := HXB.out; omega, show (256 * x + cc) % 256 = cc by omega, htx]
                      simp only [Option.bind_some]
                      rw [if_pos hgd, spv, hst, hpp]
                    have hSt2 : s2.e = 0 → St (f.set i z) := by
                      intro h2
                      have hsq := rs_eq_ he
                      have hokk := HH.out.uns.rd.2.1
                      have h3 := step_any (xs := s.xs) (k := s.k) hokk.2.2 hokk.1 hIn hc2 hc3 (by rw [hy]; exact hc4) (by rw [hy]; exact hc5) (by rw [← hsq, hz2]; exact h2)
                      rw [← hsq, hz2] at h3
                      exact hSt.set i h3.1
                    rw [hst, hpp] at hz2 hc3 hc5
                    rw [hst] at hc4
                    rw [hpp] at hc2
                    have hci : w2.cell? ⟨FF, i, none⟩ = some (.int .u32 (v : Int)) := by rw [HH.out.uns.fou.cell, us_get (by rw [HH.out.f4]; exact HI.out), ← HTM.out, hvv]
                    have hrc : w2.cell? ⟨gx, y, none⟩ = some (.int .u8 (cc : Int)) := row_at hT hyb hcw hLx
                    have hm2 : (v : Int) % 4096 = (y : Int) := by omega
                    have hmt : Int.tmod (v : Int) 4096 = (y : Int) := by rw [Int.tmod_eq_emod_of_nonneg (by omega)]; exact hm2
                    have hwy : IntKind.u32.wrap (y : Int) = (y : Int) := IntWalk.u32_in _ (by omega)
                    have hy0 : (0 : Int) ≤ (y : Int) := by omega
                    have hy1 : (y : Int) < 4096 := by omega
                    have HLK : Hid (∀ W, Keeps (fun _ => False) w2 W → (Instr.lookup 47 (.map (some sp)) (.agg #[.int .u8 (x : Int), .int .u8 (cc : Int)]) false).run Try.prog W = .ok (.agg #[.int .i64 (st : Int), .int .i64 (pp : Int)]) W) := by
                      refine Lib.hid fun W k => ?_
                      rw [← pkv_at hc1]
                      exact (((HH.out.uns.map.keeps k id).look pair_ks Try.underlying47 (hzs W) (i := 256 * x + cc) (by have := HXB.out; omega)).1 _ hsv).1
                    have HTK := Lib.hid (fun W (h : IsRd base g s W) => stake g base s s2 st pp v z W h hIn hc2 hc3 (by rw [hy]; exact hc4) (by rw [hy]; exact hc5) hz2)
                    unfold rd at HTK
                    have HSt2 := Lib.hid hSt2
                    have HVV := Lib.hid hvv
                    have HNXT : Hid (unpC tb n (nst n - t) t all f s = unpC tb n (nst n - (t + 1)) (t + 1) (all.set (pos n t) (cc : Int)) (f.set i z) s2) := by
                      show _ = _
                      rw [HST2.out, hnx, HTM.out]
                    have HC1 := Lib.hid hc1
                    have HYB := Lib.hid hyb
                    clear hsn hl' hos hgB hLx htl he htx hSt hT hvv hIn hy hyb hcw hc1 hc2 hc3 hc4 hc5 hst hpp hz2 hnx hgd hsv hSt2
                    go_upto_region 18 with (
                      go_at_call 45
                      refine HEQ.out.mono ?_
                      rintro e1 w' ⟨rfl, hw⟩
                      rw [hw]
                      clear hw)
                    clear hb2 hel HEQ
                    go_cut [17] from 64 to 73 (fun sl wx => sl = .int .u8 (cc : Int) ∧ wx = w2.drew)
                    case first =>
                      go_region
                      all_goals go_wp2_with fail
                      all_goals go_meet
                      all_goals exact ⟨rfl, rfl⟩
                    case rest =>
                      obtain ⟨rfl, rfl⟩ := hcut
                      have HQI2 : Hid (QS[i]? = some (.slice (some ⟨AA, qo n i, none⟩) lq cq)) := by show _ = _; rw [← HH.out.uns.qua.cell]; exact hqi
                      have hlk := HLK.out w2.drew ((Keeps.refl _ _).drewN 1)
                      have HX20 : Hid (Blk (w2.alloc (.cells #[.int .i64 (st : Int), .int .i64 (pp : Int)] 82)).drew w2.heap.size 82 #[.int .i64 (st : Int), .int .i64 (pp : Int)]) := Lib.hid ((Blk.new w2 82 _).drewN 1)
                      have HK20 : Hid (Keeps (fun _ => False) w2 (w2.alloc (.cells #[.int .i64 (st : Int), .int .i64 (pp : Int)] 82)).drew) := Lib.hid (((Keeps.refl _ _).alloc _).drewN 1)
                      clear hci hco hrc hqi
                      go_upto_region 20 with fail
                      clear hlk HLK
                      generalize (w2.alloc (.cells #[.int .i64 (st : Int), .int .i64 (pp : Int)] 82)).drew = W at HX20 HK20 ⊢
                      obtain ⟨xx, hxx⟩ : ∃ xx, w2.heap.size = xx := ⟨_, rfl⟩
                      rw [hxx] at HX20 ⊢
                      clear hxx
                      have HUW := Lib.hid (HH.out.uns.still HK20.out)
                      have hx0 : W.cell? ⟨xx, 0, none⟩ = some (.int .i64 (st : Int)) := HX20.out.cell 0
                      have hx1 : W.cell? ⟨xx, 1, none⟩ = some (.int .i64 (pp : Int)) := HX20.out.cell 1
                      have hq1 : W.cell? ⟨FF, i, none⟩ = some (.int .u32 (v : Int)) := by rw [HUW.out.fou.cell, us_get (by rw [HH.out.f4]; exact HI.out), ← HTM.out, HVV.out]
                      have hb3 : W.cell? ⟨RB, 0, none⟩ = some (.pointer (some ⟨g, 0, none⟩)) := HUW.out.box.cell 0
                      go_region_with (
                        go_at_call 49
                        refine (HTK.out _ (HUW.out.rd.drewN 1)).mono ?_
                        rintro e w3 ⟨rfl, hr3, hk3⟩
                        have hk3' := hk3.of_drew
                        have HU3 := Lib.hid (HUW.out.next HAt.out hr3 hk3')
                        have hc3 : w3.cell? ⟨FF, i, none⟩ = some ((us f)[i]?.getD undef) := by
                          rw [HU3.out.fou.cell, us_get (by rw [HH.out.f4]; exact HI.out)]
                          rfl
                        have hf3 := HU3.out.fou.frozen i
                        clear hr3 hk3 hk3')
                      all_goals
                        have HU4 := Lib.hid (HU3.out.setF (i := i) (x := z) HAt.out)
                        generalize w3.setCell ⟨FF, i, none⟩ (.int .u32 (z : Int)) = W4 at HU4 ⊢
                        clear hc3 hf3 hx0 hx1 hq1 hb3
                        have hq4 : W4.cell? ⟨QQ, i, none⟩ = some (.slice (some ⟨AA, qo n i, none⟩) lq cq) := by rw [HU4.out.qua.cell]; exact HQI2.out
                        have ha4 : W4.cell? ⟨AA, qo n i + p, none⟩ = some ((bc all)[qo n i + p]?.getD undef) := by
                          rw [HU4.out.all.cell, bc_get (by have h1 := HPV.out; have h2 := HLQC.out; have h3 := HH.out.len; omega)]
                          rfl
                        have hz4 := HU4.out.all.frozen (qo n i + p)
                        go_wp2_with fail
                        refine ⟨⟨i + 1, all.set (qo n i + p) (cc : Int), f.set i z, s2, by go_num, by have := HI.out; omega, ?_⟩, by have := HI.out; simp [intOf]; omega⟩
                        rw [HTE.out]
                        refine Lib.hid ⟨HU4.out.setA (j := qo n i + p) (x := (cc : Int)) HAt.out, by rw [List.length_set]; exact HH.out.len, by rw [List.length_set]; exact HH.out.f4, fun y0 hy0 => ?_, HSt2.out, by rw [HH.out.eq, HNXT.out, HPOS.out]⟩
                        rcases List.mem_or_eq_of_mem_set hy0 with h | h
                        · exact HH.out.byt y0 h
                        · rw [h]
                          have := HC1.out
                          omega
                · as_aux_lemma =>
                    obtain ⟨e0, he0⟩ : ∃ e0, s.e = e0 := ⟨_, rfl⟩
                    have hne2 : (e0 != 0) = true := by rw [← he0]; simpa using he
                    have HEQ := Lib.hid (err_q g s e0 base w2 HH.out.uns.rd he0)
                    have HFIN : Hid (unU tb n F s0 = ([], [0, 0, 0, 0], s)) := by
                      show _ = _
                      rw [HUU.out, HH.out.eq, HST2.out, unpC_err HVAL.out htl he]
                    clear hsn hl' hos hgB hLx htl he0 he htx
                    go_wp2_with (first
                      | (go_at_call 45
                         refine HEQ.out.mono ?_
                         rintro e1 w' ⟨rfl, hw⟩
                         rw [hw]
                         clear hw)
                      | ((with_reducible refine st_row HH.out.uns.res HZI.out rfl HZ1.out ?_ ?_ ?_); rfl; rfl))
                    have hk9 : Keeps (· = R9) w2 (w2.setRow R9 Z) := Keeps.setRow (Keeps.refl (· = R9) w2) (.inl rfl) _
                    refine bodyPost_ret (v := .tuple #[.slice none 0 0, .agg Z]) (ret_un rfl _ _ R9 Z _ HZI.out rfl rfl (Blk.setRow HH.out.uns.res _)) rfl ?_
                    rw [HFIN.out]
                    refine ⟨none, 0, 0, ?_, rfl, Nat.le_refl _, rfl, .inl rfl, (fun _ _ h => by cases h), HH.out.uns.rd.low hk9 (fun b _ hb e => by have := HNM.out; omega), Uns.keeps2 HH.out.uns.keeps hk9 (by have := HNM.out; omega)⟩
                    rw [← HZS.out]
                    rfl
          · obtain rfl : i = 4 := by omega
            have hge : ¬ ((4 : Int) < 4) := by omega
            have HE : Hid (UnR base g AA FF RB R9 QQ sp OB B QS OS Z tb seen n F s0 (4 * (p + 1)) all f s w wr) := by
              refine Lib.hid ?_
              rw [show 4 * (p + 1) = 4 * p + 4 by omega]
              exact HH.out
            clear hlt hi HH
            go_wp2_with fail
            exact ⟨⟨p + 1, all, f, s, by go_num, HP.out, HE⟩, by have := HP.out; simp [intOf]; omega⟩
      · as_aux_lemma =>
          obtain rfl : p = l3 := by omega
          have hge : ¬ ((p : Int) < (p : Int)) := by omega
          have HFIN : Hid (unU tb n F s0 = (all, f, s)) := by
            show _ = _
            rw [HUU.out, HH.out.eq, HNST.out, Nat.sub_self, unpC]
          have HF4 := Lib.hid HH.out.f4
          obtain ⟨fa, fb, fc, fd, rfl⟩ := four HF4.out
          have HRS : Hid (Blk wr R9 44 (us no4)) := by show Blk _ _ _ _; rw [HZS.out]; exact HH.out.uns.res
          have hc0 : wr.cell? ⟨FF, 0, none⟩ = some (.int .u32 (fa : Int)) := HH.out.uns.fou.cell 0
          have hc1 : wr.cell? ⟨FF, 1, none⟩ = some (.int .u32 (fb : Int)) := HH.out.uns.fou.cell 1
          have hc2 : wr.cell? ⟨FF, 2, none⟩ = some (.int .u32 (fc : Int)) := HH.out.uns.fou.cell 2
          have hc3 : wr.cell? ⟨FF, 3, none⟩ = some (.int .u32 (fd : Int)) := HH.out.uns.fou.cell 3
          have hr0 : wr.cell? ⟨R9, 0, none⟩ = some (.int .u32 0) := HRS.out.cell 0
          have hr1 : wr.cell? ⟨R9, 1, none⟩ = some (.int .u32 0) := HRS.out.cell 1
          have hr2 : wr.cell? ⟨R9, 2, none⟩ = some (.int .u32 0) := HRS.out.cell 2
          have hr3 : wr.cell? ⟨R9, 3, none⟩ = some (.int .u32 0) := HRS.out.cell 3
          have hz0 := HRS.out.frozen 0
          have hz1 := HRS.out.frozen 1
          have hz2 := HRS.out.frozen 2
          have hz3 := HRS.out.frozen 3
          have hne : FF ≠ R9 := HAt.out.fr
          have hne2 : R9 ≠ FF := HAt.out.fr.symm
          have HLA := Lib.hid (blk_lies HH.out.uns.all)
          have HUN := Lib.hid HH.out.uns
          have HLEN := Lib.hid HH.out.len
          clear HH hlt hp
          go_upto_region 24 with fail
          go_region
          all_goals
            go_wp2_with fail
            refine bodyPost_ret (v := .tuple #[.slice (some ⟨AA, 0, none⟩) n n, .agg (us [fa, fb, fc, fd])]) (ret_un rfl _ _ R9 _ _ (four_size rfl) rfl rfl (put4 HRS.out fa fb fc fd)) rfl ?_
            rw [HFIN.out]
            have k5 := (keeps4 wr R9 (.int .u32 (fa : Int)) (.int .u32 (fb : Int)) (.int .u32 (fc : Int)) (.int .u32 (fd : Int))).drewN 1
            refine ⟨some ⟨AA, 0, none⟩, n, n, rfl, HLEN.out, Nat.le_refl _, rfl, HLA.out.keeps k5 (fun b0 o0 hA e => ?_), (fun b0 o0 hA => ?_), HUN.out.rd.low k5 (fun b _ hb e => by have := HNM.out; omega), Uns.keeps2 HUN.out.keeps k5 (by have := HNM.out; omega)⟩
            · injection hA with hA
              injection hA with hA
              subst hA
              exact Blk.ne HUN.out.all HUN.out.res (by decide) e
            · injection hA with hA
              injection hA with hA
              subst hA
              exact HAt.out.ha
  · as_aux_lemma =>
      obtain ⟨e0, he0⟩ : ∃ e0, s0.e = e0 := ⟨_, rfl⟩
      have HER := Lib.hid (err_q g s0 e0 base W1 HR1.out he0)
      have hne2 : (e0 != 0) = true := by rw [← he0]; simpa using he
      have HUU : Hid (unU tb n F s0 = ([], [0, 0, 0, 0], s0)) := by show _ = _; rw [unU, if_pos he]
      clear he0 he
      go_wp2_with (first
        | (go_at_call 45
           refine HER.out.mono ?_
           rintro e1 w' ⟨rfl, hw⟩
           rw [hw]
           clear hw)
        | ((with_reducible refine st_row HR1a.out HZI.out rfl HZ1.out ?_ ?_ ?_); rfl; rfl))
      have hk9 : Keeps (· = R9) W1 (W1.setRow R9 Z) := Keeps.setRow (Keeps.refl (· = R9) W1) (.inl rfl) _
      refine bodyPost_ret (v := .tuple #[.slice none 0 0, .agg Z]) (ret_un rfl _ _ R9 Z _ HZI.out rfl rfl (Blk.setRow HR1a.out _)) rfl ?_
      rw [HUU.out]
      refine ⟨none, 0, 0, ?_, rfl, Nat.le_refl _, rfl, .inl rfl, (fun _ _ h => by cases h), HR1.out.low hk9 (fun b _ hb e => by have := HNM.out; omega), Uns.keeps2 HK1.out.none_ hk9 (by have := HNM.out; omega)⟩
      rw [← HZS.out]
      rfl
end Go.Proofs.Ytnanmenoemajfaa.Cq

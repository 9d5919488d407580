/- Bytes taken by their table (rans.unpacked). -/
import Derived.Test.YtmeeagjnlmfgeaaRnOwn
import Derived.Deep.RegionWith
namespace Go.Proofs.Ytmeeagjnlmfgeaa.Rs
open Go.RowKit Go.Proofs.Ytmeeagjnlmfgeaa.Gen Go.Proofs.Ytmeeagjnlmfgeaa.Wr Go.Proofs.Ytmeeagjnlmfgeaa.It Go.Proofs.Ytmeeagjnlmfgeaa.Ir Go.Proofs.Ytmeeagjnlmfgeaa.Ib Go.Proofs.Ytmeeagjnlmfgeaa.Fq Go.Proofs.Ytmeeagjnlmfgeaa.Fb Go.Proofs.Ytmeeagjnlmfgeaa.Rp

/-- What lies where, while bytes are taken. -/
structure Uns (base g TT FF RB R9 SS WW : Nat) (V ST OW Z : Array Value) (f : List Nat) (s : RS) (w wr : World) : Prop where
  tab : Blk wr TT 62 V
  fou : Blk wr FF 48 (us f)
  box : Blk wr RB 41 #[.pointer (some ⟨g, 0, none⟩)]
  res : Blk wr R9 48 Z
  sta : Blk wr SS 86 ST
  own : Blk wr WW 88 OW
  rd : IsRd base g s wr
  keeps : Keeps (· = g) w wr
structure UnAt (w : World) (g TT FF RB R9 SS WW : Nat) : Prop where
  g : g < w.heap.size
  t : w.heap.size ≤ TT
  f : w.heap.size ≤ FF
  b : w.heap.size ≤ RB
  r : w.heap.size ≤ R9
  s : w.heap.size ≤ SS
  w : w.heap.size ≤ WW
  fr : FF ≠ R9
section
variable {base g TT FF RB R9 SS WW : Nat} {V ST OW Z : Array Value} {f : List Nat} {s s1 : RS} {w wr w1 : World}
theorem Uns.turn {S : Nat → Prop} (a : UnAt w g TT FF RB R9 SS WW) (h : Uns base g TT FF RB R9 SS WW V ST OW Z f s w wr) (hr : IsRd base g s1 w1) (k : Keeps S wr w1) (hS : ∀ b, w.heap.size ≤ b → b = TT ∨ b = FF ∨ b = RB ∨ b = R9 ∨ b = SS ∨ b = WW → ¬ S b) (hk : Keeps (· = g) w w1) : Uns base g TT FF RB R9 SS WW V ST OW Z f s1 w w1 :=
  ⟨h.tab.keeps k (hS _ a.t (by simp)), h.fou.keeps k (hS _ a.f (by simp)), h.box.keeps k (hS _ a.b (by simp)), h.res.keeps k (hS _ a.r (by simp)), h.sta.keeps k (hS _ a.s (by simp)), h.own.keeps k (hS _ a.w (by simp)), hr, hk⟩
theorem Uns.next (a : UnAt w g TT FF RB R9 SS WW) (h : Uns base g TT FF RB R9 SS WW V ST OW Z f s w wr) (hr : IsRd base g s1 w1) (k : Keeps (· = g) wr w1) : Uns base g TT FF RB R9 SS WW V ST OW Z f s1 w w1 :=
  h.turn a hr k (fun b hb _ e => by have := a.g; omega) (h.keeps.trans k)
theorem Uns.more (a : UnAt w g TT FF RB R9 SS WW) (h : Uns base g TT FF RB R9 SS WW V ST OW Z f s w wr) (k : Keeps (fun _ => False) wr w1) : Uns base g TT FF RB R9 SS WW V ST OW Z f s w w1 :=
  h.turn a (h.rd.keeps k fun _ _ => id) k (fun _ _ _ => id) (h.keeps.trans k.none_)
theorem Uns.row {v : Value} {n : Nat} {xs : List Value} (a : UnAt w g TT FF RB R9 SS WW) (h : Uns base g TT FF RB R9 SS WW V ST OW Z f s w wr) (ho : wr.ownsRow w.heap.size 5 1 v n xs) (k : Keeps (fun b => v.ownBlock = some b) wr w1) : Uns base g TT FF RB R9 SS WW V ST OW Z f s w w1 := by
  refine h.turn a (h.rd.low k fun b _ hb e => by have := (ho.lt b e).1; have := a.g; omega) k ?_ ?_
  · rintro b - (rfl | rfl | rfl | rfl | rfl | rfl)
    · exact own_ne ho h.tab (by decide)
    · exact own_ne ho h.fou (by decide)
    · exact own_ne ho h.box (by decide)
    · exact own_ne ho h.res (by decide)
    · exact own_ne ho h.sta (by decide)
    · exact own_ne ho h.own (by decide)
  · refine ⟨k.os.trans h.keeps.os, k.tape.trans h.keeps.tape, k.output.trans h.keeps.output, Nat.le_trans h.keeps.size k.size, fun b hb hn => ?_⟩
    exact (k.block b (Nat.lt_of_lt_of_le hb h.keeps.size) (fun e => by have := (ho.lt b e).1; omega)).trans (h.keeps.block b hb hn)
theorem Uns.set {i x : Nat} (a : UnAt w g TT FF RB R9 SS WW) (h : Uns base g TT FF RB R9 SS WW V ST OW Z f s w wr) : Uns base g TT FF RB R9 SS WW V ST OW Z (f.set i x) s w (wr.setCell ⟨FF, i, none⟩ (.int .u32 (x : Int))) := by
  have k : Keeps (· = FF) wr (wr.setCell ⟨FF, i, none⟩ (.int .u32 (x : Int))) := (Keeps.refl _ _).setOwn i _
  refine ⟨h.tab.keeps k (Blk.ne h.tab h.fou (by decide)), ?_, h.box.keeps k (Blk.ne h.box h.fou (by decide)), h.res.keeps k a.fr.symm, h.sta.keeps k (Blk.ne h.sta h.fou (by decide)), h.own.keeps k (Blk.ne h.own h.fou (by decide)), h.rd.low k (fun b _ hb e => by have := a.g; have := a.f; omega), h.keeps.setCell (p := ⟨FF, i, none⟩) (.inr a.f) _⟩
  have := h.fou.setCell i (.int .u32 (x : Int))
  rw [us_set] at this
  exact this
end
theorem results_tmp_cell {fn : Func} {p u : Tmp} {ty : TypeId} (h : fn.results = #[.tmp u, .cell p ty]) (tmps : Array Value) (P : Program) (w : World) :
    (results fn tmps).run P w = ((asAddr (tmps.getD p undef)).run P w).andThen fun a w₁ => ((loadVar ty a).run P w₁).andThen fun v w₂ => .ok (.tuple #[tmps.getD u undef, v]) w₂ := by
  simp only [results, h]
  simp [Sem.run_bind, Result.andThen]
theorem ret_un {fn : Func} (h : fn.results = #[.tmp 8, .cell 9 48]) (tmps : Array Value) (w : World) (g : Nat) (v : Array Value) (x : Value) (hi : (Try.prog.info? 48).map (·.size) = some v.size)
    (hq : tmps.getD 8 undef = x) (hp : tmps.getD 9 undef = .pointer (some ⟨g, 0, none⟩)) (hb : Blk w g 48 v) :
    (results fn tmps).run Try.prog w = .ok (.tuple #[x, .agg v]) w := by
  rw [results_tmp_cell h, hp, hq]
  simp only [asAddr, Result.andThen, Sem.run_pure]
  rw [run_loadVar_row w g 48 48 v (0, 0) _ hb Try.underlying48 rfl hi]
/-- A whole row is loaded, stored, among operations whose order is open. -/
theorem ld_op {dst : Option Tmp} {ty ty' e : TypeId} {n : Nat} {x : Operand} {pos : String} {after : Array Edge} {gd : Option (Nat × Bool)} {a : Act} {w : World} {K : Act → World → Prop} {Q : Exit → Act → World → Prop} {g : Nat} {t : TypeId} {cs : Array Value}
    (hb : Blk w g t cs) (hu : Try.prog.underlying ty = some (.array n e)) (hi : (Try.prog.info? ty).map (·.size) = some cs.size)
    (hx : a.eval x = .pointer (some ⟨g, 0, none⟩)) (h : K (a.put dst (.agg cs)) w) :
    Oper.wp Try.prog { dst := dst, op := .load ty x, type := ty', pos := pos, after := after, guard := gd } a w K Q :=
  wp_load_row ty x rfl g hx t cs (0, 0) _ hb hu rfl hi h
theorem st_op {dst : Option Tmp} {ty ty' : TypeId} {x y : Operand} {pos : String} {after : Array Edge} {gd : Option (Nat × Bool)} {a : Act} {w : World} {K : Act → World → Prop} {Q : Exit → Act → World → Prop} {g : Nat} {t : TypeId} {old cs : Array Value}
    (hb : Blk w g t old) (hi : (Try.prog.info? ty).map (·.size) = some cs.size) (ho : old.size = cs.size) (h1 : cs.all (·.oneCell') = true)
    (hx : a.eval x = .pointer (some ⟨g, 0, none⟩)) (hy : a.eval y = .agg cs) (h : K (a.put dst undef) (w.setRow g cs)) :
    Oper.wp Try.prog { dst := dst, op := .store ty x y, type := ty', pos := pos, after := after, guard := gd } a w K Q :=
  wp_store_row ty x y rfl g cs hx hy t old hb hi ho h1 h
theorem own_none (w : World) : (w.alloc (.cells #[] 5)).ownsRow w.heap.size 5 1 (.slice (some ⟨w.heap.size, 0, none⟩) 0 0) 0 (bv []) := by
  refine ⟨by simp [bv], .inr ⟨w.heap.size, 0, _, rfl, Nat.le_refl _, heap_alloc_new w _, Nat.le_refl _, by simp only [maxLen]; omega, ?_, ?_⟩⟩
  · simp
  · simp [bv]
/-- What unpacked answers. -/
def UnAns (base g : Nat) (U : List Int × List Nat × RS) (w : World) (r : Ending) (w' : World) : Prop :=
  ∃ A c n, r = .returned (.tuple #[.slice A n c, .agg (us U.2.1)]) ∧ U.1.length = n ∧ w'.ownsRow w.heap.size 5 1 (.slice A n c) n (bv U.1) ∧ IsRd base g U.2.2 w' ∧ Keeps (· = g) w w'

/-- Four states stored, one behind the other. -/
theorem put4 {w : World} {R : Nat} (h : Blk w R 48 (us no4)) (a b c d : Nat) : Blk ((((w.setCell ⟨R, 0, none⟩ (.int .u32 (a : Int))).setCell ⟨R, 1, none⟩ (.int .u32 (b : Int))).setCell ⟨R, 2, none⟩ (.int .u32 (c : Int))).setCell ⟨R, 3, none⟩ (.int .u32 (d : Int))) R 48 (us [a, b, c, d]) := by
  have := (((h.setCell 0 (.int .u32 (a : Int))).setCell 1 (.int .u32 (b : Int))).setCell 2 (.int .u32 (c : Int))).setCell 3 (.int .u32 (d : Int))
  rw [us_set, us_set, us_set, us_set] at this
  exact this
theorem keeps4 (w : World) (R : Nat) (a b c d : Value) : Keeps (· = R) w ((((w.setCell ⟨R, 0, none⟩ a).setCell ⟨R, 1, none⟩ b).setCell ⟨R, 2, none⟩ c).setCell ⟨R, 3, none⟩ d) :=
  ((((Keeps.refl (· = R) w).setOwn 0 a).setOwn 1 b).setOwn 2 c).setOwn 3 d
theorem un_end {base g R9 : Nat} {U : List Int × List Nat × RS} {A : Option Addr} {c d : Nat} {all : List Int} {fa fb fc fd : Nat} {s : RS} {w wr wx : World} (hU : U = (all, [fa, fb, fc, fd], s)) (hl : all.length = d) (hg : g < w.heap.size) (hr9 : w.heap.size ≤ R9)
    (hr : Blk wr R9 48 (us no4)) (ho : wr.ownsRow w.heap.size 5 1 (.slice A d c) d (bv all)) (hrd : IsRd base g s wr) (hk : Keeps (· = g) w wr) (k : Keeps (· = R9) wr wx) :
    UnAns base g U w (.returned (.tuple #[.slice A d c, .agg (us [fa, fb, fc, fd])])) wx := by
  subst hU
  refine ⟨A, c, d, rfl, hl, own_keeps ho k (fun b hb e => own_ne ho hr (by decide) (by rw [hb, e])), hrd.low k (fun b _ hb e => by omega), ?_⟩
  refine ⟨k.os.trans hk.os, k.tape.trans hk.tape, k.output.trans hk.output, Nat.le_trans hk.size k.size, fun b hb hn => ?_⟩
  exact (k.block b (Nat.lt_of_lt_of_le hb hk.size) (fun e => by omega)).trans (hk.block b hb hn)
/-- Between two rounds. -/
structure Unr (base g TT FF RB R9 SS WW : Nat) (V ST OW Z : Array Value) (t : List Int) (n : Nat) (f0 : List Nat) (s0 : RS) (d : Nat) (A : Option Addr) (c : Nat) (all : List Int) (f : List Nat) (s : RS) (w wr : World) : Prop where
  len : all.length = d
  eq : unp t n 0 f0 s0 = (all ++ (unp t (n - d) d f s).1, (unp t (n - d) d f s).2)
  f4 : f.length = 4
  ok : s.e = 0 → Tb t ∧ St f
  un : Uns base g TT FF RB R9 SS WW V ST OW Z f s w wr
  row : wr.ownsRow w.heap.size 5 1 (.slice A d c) d (bv all)
theorem rs_eq {s : RS} (h : s.e = 0) : s = ⟨s.xs, s.k, 0⟩ := by cases s; simp_all
theorem step_in {s s2 : RS} {st p x y : Nat} (hs : s.ok) (he : s.e = 0) (hx : In x) (hp : 1 ≤ p) (hst : st + p ≤ 4096) (h1 : st ≤ x % 4096) (h2 : x % 4096 < st + p) (hT : takeS st p x s = (y, s2)) (h0 : s2.e = 0) : In y := by
  rw [rs_eq he] at hT
  have := step_any (xs := s.xs) (k := s.k) hs.2.2 hs.1 hx hp hst h1 h2 (by rw [hT]; exact h0)
  rw [hT] at this
  exact this.1

set_option maxHeartbeats 8000000 in
set_option maxRecDepth 100000 in
theorem unpacked (n : Nat) (t : List Int) (v u : Array Value) (f0 : List Nat) (g base : Nat) (s0 : RS) (w : World) (hr : IsRd base g s0 w) (hn : n ≤ 1000000) (hv : vs t = v) (hu : us f0 = u) (hl : t.length = 256) (hf : Fine t) (hs : (ow t 256).length ≤ 4096) (hf4 : f0.length = 4) (hok : s0.e = 0 → Tb t ∧ St f0) :
    Calls Try.prog 29 #[.int .i64 (n : Int), .agg v, .agg u, rd g] w (UnAns base g (unp t n 0 f0 s0) w) := by
  have H := Lib.hid hr
  have HV : Hid ((Try.prog.info? 62).map (·.size) = some v.size) := by show _ = _; rw [← hv]; exact tab_size hl
  have HVG : Hid (∀ j, j < 256 → v[j]? = some (.int .i64 (t.getD j 0))) := fun j hj => by rw [← hv]; exact vs_get (by omega)
  obtain ⟨ST, hST⟩ : ∃ ST, vs (sta t 256) = ST := ⟨_, rfl⟩
  obtain ⟨OW, hOW⟩ : ∃ OW, bs (full (ow t 256)) = OW := ⟨_, rfl⟩
  have HSTC := Lib.hid (fun w => starts t v ST w hv hST hl hf)
  have HOWC := Lib.hid (fun w => owners t v OW w hv hOW hl hf hs)
  have HSTG : Hid (∀ j, j < 256 → ST[j]? = some (.int .i64 (t.take j).sum)) := fun j hj => by
    rw [← hST, vs_get (by rw [sta_len]; omega), sta_get _ _ (by omega), if_pos (by omega)]
  have HOWG : Hid (∀ x, x < 4096 → OW[x]? = some (.int .u8 (own t x))) := fun x hx => by
    rw [← hOW, bs_get (by rw [full_len hs]; exact hx), full_get hx]
    rfl
  have HSTI : Hid ((Try.prog.info? 86).map (·.size) = some ST.size) := by show _ = _; rw [← hST]; exact long_size (sta_len _ _)
  have HST1 : Hid (ST.all (·.oneCell') = true) := by show _ = _; rw [← hST]; exact vs_one _
  have HOWI : Hid ((Try.prog.info? 88).map (·.size) = some OW.size) := by show _ = _; rw [← hOW]; exact big_size (full_len hs)
  have HOW1 : Hid (OW.all (·.oneCell') = true) := by show _ = _; rw [← hOW]; exact bs_one _
  have hz : ∀ w, (zeroValue 48).run Try.prog w = .ok (.agg (us no4)) w := four_zero
  have hz2 : ∀ w, (zeroValue 86).run Try.prog w = .ok (.agg (vs (List.replicate 257 0))) w := long_zero
  have hz3 : ∀ w, (zeroValue 88).run Try.prog w = .ok (.agg (bs (full []))) w := big_zero
  generalize hZ : us no4 = Z at hz
  generalize hZ2 : vs (List.replicate 257 0) = Z2 at hz2
  generalize hZ3 : bs (full []) = Z3 at hz3
  have HZS := Lib.hid hZ
  have HZ2 : Hid (Z2.size = ST.size) := by show _ = _; rw [← hZ2, ← hST, vs_size, vs_size, sta_len, List.length_replicate]
  have HZ3 : Hid (Z3.size = OW.size) := by show _ = _; rw [← hZ3, ← hOW, bs_size, bs_size, full_len hs, full_len (by simp)]
  have HU : Hid (us f0 = u) := hu
  have HN := Lib.hid hn
  have HF4 := Lib.hid hf4
  have HOK := Lib.hid hok
  have HL := Lib.hid hl
  clear hr hv hu hl hf hs hf4 hok hST hOW hZ hZ2 hZ3 hn
  unfold rd
  go_enter Try.func29, Try.ntmps29
  go_upto_region 1 with fail
  obtain ⟨TT, hTT⟩ : ∃ TT, w.heap.size = TT := ⟨_, rfl⟩
  obtain ⟨FF, hFF⟩ : ∃ FF, w.heap.size + 1 = FF := ⟨_, rfl⟩
  obtain ⟨RB, hRB⟩ : ∃ RB, w.heap.size + 1 + 1 = RB := ⟨_, rfl⟩
  obtain ⟨R9, hR9⟩ : ∃ R9, w.heap.size + 1 + 1 + 1 = R9 := ⟨_, rfl⟩
  generalize hW : (((w.alloc (.cells v 62)).alloc (.cells u 48)).alloc (.cells #[.pointer (some ⟨g, 0, none⟩)] 41)).alloc (.cells Z 48) = W
  have e1 : (w.alloc (.cells v 62)).heap.size = FF := by rw [← hFF]; simp
  have e2 : ((w.alloc (.cells v 62)).alloc (.cells u 48)).heap.size = RB := by rw [← hRB]; simp
  have e3 : (((w.alloc (.cells v 62)).alloc (.cells u 48)).alloc (.cells #[.pointer (some ⟨g, 0, none⟩)] 41)).heap.size = R9 := by rw [← hR9]; simp
  have HT1 : Hid (Blk W TT 62 v) := by show Blk _ _ _ _; rw [← hW, ← hTT]; exact (((Blk.new _ _ _).alloc _).alloc _).alloc _
  have HF1 : Hid (Blk W FF 48 u) := by show Blk _ _ _ _; rw [← hW, ← e1]; exact ((Blk.new _ _ _).alloc _).alloc _
  have HB1 : Hid (Blk W RB 41 #[.pointer (some ⟨g, 0, none⟩)]) := by show Blk _ _ _ _; rw [← hW, ← e2]; exact (Blk.new _ _ _).alloc _
  have HR1 : Hid (Blk W R9 48 Z) := by show Blk _ _ _ _; rw [← hW, ← e3]; exact Blk.new _ _ _
  have HK1 : Hid (Keeps (fun _ => False) w W) := by show Keeps _ _ _; rw [← hW]; exact ((((Keeps.refl _ _).alloc _).alloc _).alloc _).alloc _
  have HAT := Lib.hid (⟨by omega, by omega, by omega, by omega, by omega⟩ : w.heap.size ≤ TT ∧ w.heap.size ≤ FF ∧ w.heap.size ≤ RB ∧ w.heap.size ≤ R9 ∧ FF ≠ R9)
  rw [hR9, hRB, hFF, hTT]
  clear hTT hFF hRB hR9 hW e1 e2 e3
  go_upto_region 2 with fail
  have HOW0 := Lib.hid (own_none W)
  have HKa : Hid (Keeps (fun _ => False) W (W.alloc (.cells #[] 5))) := (Keeps.refl _ _).alloc _
  obtain ⟨AB, hAB⟩ : ∃ AB, W.heap.size = AB := ⟨_, rfl⟩
  generalize W.alloc (.cells #[] 5) = W1 at HOW0 HKa ⊢
  rw [hAB] at HOW0 ⊢
  have HAB : Hid (w.heap.size ≤ AB) := by show _ ≤ AB; rw [← hAB]; exact HK1.out.size
  have HT2 := Lib.hid (HT1.out.keeps HKa.out id)
  have HF2 := Lib.hid (HF1.out.keeps HKa.out id)
  have HB2 := Lib.hid (HB1.out.keeps HKa.out id)
  have HR2 := Lib.hid (HR1.out.keeps HKa.out id)
  have HK2 := Lib.hid (HK1.out.trans HKa.out)
  clear hAB HT1 HF1 HB1 HR1 HK1 HKa
  go_upto_region 3 with (first
    | (go_at_call 43; refine (HSTC.out _).mono ?_; rintro e w3 ⟨rfl, hk3⟩; have HK3 := Lib.hid hk3; clear hk3)
    | ((with_reducible refine ld_row HT2.out Try.underlying62 HV.out ?_ ?_); rfl)
    | ((with_reducible refine st_row (Blk.new _ 86 Z2) HSTI.out HZ2.out HST1.out ?_ ?_ ?_); rfl; rfl))
  obtain ⟨SS, hSS⟩ : ∃ SS, w3.heap.size = SS := ⟨_, rfl⟩
  have HS4 : Hid (Blk ((w3.alloc (.cells Z2 86)).setRow w3.heap.size ST) w3.heap.size 86 ST) := new_put
  have HKb : Hid (Keeps (fun _ => False) W1 ((w3.alloc (.cells Z2 86)).setRow w3.heap.size ST)) := Keeps.put_new HK3.out
  generalize (w3.alloc (.cells Z2 86)).setRow w3.heap.size ST = W4 at HS4 HKb ⊢
  rw [hSS] at HS4 ⊢
  have HSS : Hid (w.heap.size ≤ SS) := by show _ ≤ SS; rw [← hSS]; have := HK2.out.size; have := HK3.out.size; omega
  have HT4 := Lib.hid (HT2.out.keeps HKb.out id)
  have HF4b := Lib.hid (HF2.out.keeps HKb.out id)
  have HB4 := Lib.hid (HB2.out.keeps HKb.out id)
  have HR4 := Lib.hid (HR2.out.keeps HKb.out id)
  have HO4 := Lib.hid (own_keeps HOW0.out HKb.out (fun _ _ => id))
  have HK4 := Lib.hid (HK2.out.trans HKb.out)
  clear hSS HT2 HF2 HB2 HR2 HK2 HKb HK3 HOW0
  go_upto_region 4 with (first
    | (go_at_call 47; refine (HOWC.out _).mono ?_; rintro e w5 ⟨rfl, hk5⟩; have HK5 := Lib.hid hk5; clear hk5)
    | ((with_reducible refine ld_row HT4.out Try.underlying62 HV.out ?_ ?_); rfl)
    | ((with_reducible refine st_row (Blk.new _ 88 Z3) HOWI.out HZ3.out HOW1.out ?_ ?_ ?_); rfl; rfl))
  obtain ⟨WW, hWW⟩ : ∃ WW, w5.heap.size = WW := ⟨_, rfl⟩
  have HW6 : Hid (Blk ((w5.alloc (.cells Z3 88)).setRow w5.heap.size OW) w5.heap.size 88 OW) := new_put
  have HKc : Hid (Keeps (fun _ => False) W4 ((w5.alloc (.cells Z3 88)).setRow w5.heap.size OW)) := Keeps.put_new HK5.out
  generalize (w5.alloc (.cells Z3 88)).setRow w5.heap.size OW = W6 at HW6 HKc ⊢
  rw [hWW] at HW6 ⊢
  have HWW : Hid (w.heap.size ≤ WW) := by show _ ≤ WW; rw [← hWW]; have := HK4.out.size; have := HK5.out.size; omega
  have HAt : Hid (UnAt w g TT FF RB R9 SS WW) := ⟨H.out.lt, HAT.out.1, HAT.out.2.1, HAT.out.2.2.1, HAT.out.2.2.2.1, HSS.out, HWW.out, HAT.out.2.2.2.2⟩
  have HUn : Hid (Uns base g TT FF RB R9 SS WW v ST OW Z f0 s0 w W6) :=
    ⟨HT4.out.keeps HKc.out id, by rw [HU.out]; exact HF4b.out.keeps HKc.out id, HB4.out.keeps HKc.out id, HR4.out.keeps HKc.out id, HS4.out.keeps HKc.out id, HW6.out, H.out.keeps (HK4.out.trans HKc.out) (fun _ _ => id), (HK4.out.trans HKc.out).none_⟩
  have HO6 := Lib.hid (own_base (own_keeps HO4.out HKc.out (fun _ _ => id)) HAB.out)
  clear hWW HT4 HF4b HB4 HR4 HS4 HW6 HO4 HKc HK5 HK4 HSS HWW HAB HAT H HSTC HOWC hz hz2 hz3
  go_wp2_with fail
  go_loopw [10, 13, 14, 15, 22] (fun av _ _ _ iv' wr => ∃ (d : Nat) (A : Option Addr) (c : Nat) (all : List Int) (f : List Nat) (s : RS), av = .slice A d c ∧ iv' = .int .i64 (d : Int) ∧ d ≤ n ∧ Hid (Unr base g TT FF RB R9 SS WW v ST OW Z t n f0 s0 d A c all f s w wr)) (fun _ _ _ _ iv' _ => n - (intOf iv').toNat)
  case atStart => exact ⟨0, _, _, [], f0, s0, rfl, rfl, by omega, Lib.hid ⟨rfl, by simp, HF4.out, HOK.out, HUn.out, HO6.out⟩⟩
  case round =>
    clear HUn HO6
    obtain ⟨d, A, c, all, f, s, rfl, rfl, hd, HH⟩ := hrel
    have hb0 : wr.cell? ⟨RB, 0, none⟩ = some (.pointer (some ⟨g, 0, none⟩)) := HH.out.un.box.cell 0
    by_cases hlt : d < n
    · have hd1 : (d : Int) < (n : Int) := by omega
      by_cases he : s.e = 0
      · have HER := Lib.hid (err_q g s 0 base wr HH.out.un.rd he)
        obtain ⟨htb, hst⟩ := HH.out.ok he
        obtain ⟨i4, hi4⟩ : ∃ i4, d % 4 = i4 := ⟨_, rfl⟩
        have hi4b : i4 < 4 := by omega
        obtain ⟨x, hx⟩ : ∃ x, f.getD (d % 4) 0 = x := ⟨_, rfl⟩
        have hI := hst.at_ d
        rw [hx] at hI
        obtain ⟨y, hy⟩ : ∃ y, x % 4096 = y := ⟨_, rfl⟩
        have hyb : y < 4096 := by omega
        obtain ⟨k, hk, hk1, hk2, hk3, hk4, hk5⟩ := owner htb (x := x % 4096) (by omega)
        obtain ⟨st, hst1⟩ : ∃ st, stt t (k : Int) = st := ⟨_, rfl⟩
        obtain ⟨p, hp1⟩ : ∃ p, prt t (k : Int) = p := ⟨_, rfl⟩
        obtain ⟨⟨z, s2⟩, hz⟩ : ∃ q, takeS (stt t (k : Int)) (prt t (k : Int)) x s = q := ⟨_, rfl⟩
        have hsum : (t.take k).sum = (st : Int) := by rw [← hst1, stt, Int.toNat_natCast]; have := (sum_bound htb.fine HL.out k).1; omega
        have hprt : t.getD k 0 = (p : Int) := by rw [← hp1, prt, Int.toNat_natCast]; have := htb.fine _ (getD_mem (l := t) (d := k) (by rw [HL.out]; exact hk1)); omega
        have hcf : wr.cell? ⟨FF, i4, none⟩ = some (.int .u32 (x : Int)) := by rw [HH.out.un.fou.cell, us_get (by rw [HH.out.f4]; exact hi4b), ← hi4, hx]
        have hco : wr.cell? ⟨WW, y, none⟩ = some (.int .u8 (k : Int)) := by rw [HH.out.un.own.cell, HOWG.out y hyb, ← hy, hk]
        have HNX : Hid (unp t (n - d) d f s = ((k : Int) :: (unp t (n - (d + 1)) (d + 1) (f.set i4 z) s2).1, (unp t (n - (d + 1)) (d + 1) (f.set i4 z) s2).2)) := by
          show _ = _
          rw [show n - d = (n - (d + 1)) + 1 by omega, unp_next he hx hk hz, hi4]
        have HST2 : Hid (s2.e = 0 → Tb t ∧ St (f.set i4 z)) := fun h0 => ⟨htb, hst.set _ (step_in HH.out.un.rd.2.1 he hI hk2 hk3 hk4 hk5 hz h0)⟩
        have HTK := Lib.hid (fun W (h : IsRd base g s W) => stake g base s s2 st p x z W h hI (by rw [← hp1]; exact hk2) (by rw [← hst1, ← hp1]; exact hk3) (by rw [← hst1]; exact hk4) (by rw [← hst1, ← hp1]; exact hk5) (by rw [← hst1, ← hp1]; exact hz))
        have HCS : Hid (∀ W, Uns base g TT FF RB R9 SS WW v ST OW Z f s w W → W.cell? ⟨FF, i4, none⟩ = some (.int .u32 (x : Int)) ∧ W.cell? ⟨SS, k, none⟩ = some (.int .i64 (st : Int)) ∧ W.cell? ⟨TT, k, none⟩ = some (.int .i64 (p : Int)) ∧ W.cell? ⟨RB, 0, none⟩ = some (.pointer (some ⟨g, 0, none⟩))) := fun W h =>
          ⟨by rw [h.fou.cell, us_get (by rw [HH.out.f4]; exact hi4b), ← hi4, hx], by rw [h.sta.cell, HSTG.out k hk1, hsum], by rw [h.tab.cell, HVG.out k hk1, hprt], h.box.cell 0⟩
        have hm1 : Int.tmod (d : Int) 4 = (i4 : Int) := by rw [Int.tmod_eq_emod_of_nonneg (by omega)]; omega
        have hm2 : (x : Int) % 4096 = (y : Int) := by omega
        have hi40 : (0 : Int) ≤ (i4 : Int) := by omega
        have hi41 : (i4 : Int) < 4 := by omega
        have hy0 : (0 : Int) ≤ (y : Int) := by omega
        have hy1 : (y : Int) < 4096 := by omega
        have hk0 : (0 : Int) ≤ (k : Int) := by omega
        have hk61 : (k : Int) < 256 := by omega
        have hk62 : (k : Int) < 257 := by omega
        have hw1 : IntKind.i64.wrap (i4 : Int) = (i4 : Int) := IntWalk.i64_in _ (by omega)
        have hw2 : IntKind.u32.wrap (y : Int) = (y : Int) := IntWalk.u32_in _ (by omega)
        have hnb : n ≤ 1000000 := HN.out
        have hw3 : IntKind.i64.wrap ((d : Int) + 1) = (d : Int) + 1 := IntWalk.i64_in _ (by omega)
        have HDN := Lib.hid (⟨by omega, by omega⟩ : d + 1 ≤ 1000000 ∧ d + 1 ≤ n)
        obtain ⟨i0, hi0, hz0, hz1, hz2⟩ := info_parts u8_info
        have HLN : Hid ((all ++ [(k : Int)]).length = d + 1) := by show _ = _; rw [List.length_append, HH.out.len]; rfl
        have HF42 : Hid ((f.set i4 z).length = 4) := by show _ = _; rw [List.length_set, HH.out.f4]
        have HEQ : Hid (unp t n 0 f0 s0 = ((all ++ [(k : Int)]) ++ (unp t (n - (d + 1)) (d + 1) (f.set i4 z) s2).1, (unp t (n - (d + 1)) (d + 1) (f.set i4 z) s2).2)) := by
          show _ = _
          rw [HH.out.eq, HNX.out]
          simp
        clear htb hst hi4 hi4b hx hI hy hyb hk hk1 hk2 hk3 hk4 hk5 hst1 hp1 hz hsum hprt he hlt hnb
        have hnews : ∀ j q, [Value.int .u8 (k : Int)][j]? = some q → (wr.alloc (.cells #[.int .u8 (k : Int)] 5)).cell? ((⟨wr.heap.size, 0, none⟩ : Addr).add j) = some q := by
          intro j q hq
          rw [add_none, (Blk.new wr 5 #[.int .u8 (k : Int)]).cell]
          simpa using hq
        go_upto_region 11 with (first
          | (go_at_call 20
             refine HER.out.mono ?_
             rintro e1 w' ⟨rfl, hw⟩
             rw [hw]
             clear hw)
          | (at_builtin
             refine wpList_append_own_at _ rfl (.tmp 37) (.tmp 39) _ rfl w.heap.size 5 i0 _ 1 1 Try.underlying22 hi0 hz0 hz1 hz2 rfl (by omega) (.slice A d c) d (bv all) rfl
               (HH.out.row.alloc _) ⟨wr.heap.size, 0, none⟩ 1 1 [.int .u8 (k : Int)] rfl rfl hnews (by simp [Value.oneCell']) (by have := HDN.out.1; simp only [maxLen]; omega) (by have := HDN.out.1; omega) (by have := HH.out.un.keeps.size; simp; omega) ?_
             intro v2 w2 hown1 hg1 hnil1 hat1))
        obtain ⟨A2, c2, rfl, _⟩ := own_form hown1
        have HKg : Hid (Keeps (fun b => (Value.slice A d c).ownBlock = some b) wr w2) := Keeps.grown ((Keeps.refl _ _).alloc _) hg1 (fun j hj => .inl hj)
        have HU2 := Lib.hid (HH.out.un.row HAt.out HH.out.row HKg.out)
        have HO2 : Hid (w2.ownsRow w.heap.size 5 1 (.slice A2 (d + 1) c2) (d + 1) (bv (all ++ [(k : Int)]))) := by
          have e : bv (all ++ [(k : Int)]) = bv all ++ [.int .u8 (k : Int)] := by simp [bv]
          show World.ownsRow _ _ _ _ _ _ _
          rw [e]
          exact hown1
        obtain ⟨hq1, hq2, hq3, hq4⟩ := HCS.out w2 HU2.out
        clear hown1 hg1 hnil1 hat1 HKg hnews hcf hco hb0 HER
        go_region_with (
          go_at_call 14
          refine (HTK.out _ (HU2.out.rd.drewN 1)).mono ?_
          rintro e w3 ⟨rfl, hr3, hk3⟩
          have hk3' := hk3.of_drew
          have HU3 := Lib.hid (HU2.out.next HAt.out hr3 hk3')
          have HO3 := Lib.hid (own_keeps HO2.out hk3' (fun b hb e => by have := (HO2.out.lt b hb).1; have := HAt.out.g; omega))
          have hc3 : w3.cell? ⟨FF, i4, none⟩ = some ((us f)[i4]?.getD undef) := by
            rw [HU3.out.fou.cell, us_get (by rw [HH.out.f4]; omega)]
            rfl
          have hf3 := HU3.out.fou.frozen i4
          clear hr3 hk3 hk3')
        all_goals go_wp2_with fail
        all_goals exact ⟨⟨d + 1, A2, c2, all ++ [(k : Int)], f.set i4 z, s2, rfl, by go_num, HDN.out.2, Lib.hid ⟨HLN.out, HEQ.out, HF42.out, HST2.out, HU3.out.set HAt.out, own_keeps HO3.out ((Keeps.refl (· = FF) _).setOwn i4 _) (fun b hb e => own_ne HO3.out HU3.out.fou (by decide) (by rw [hb, e]))⟩⟩, by simp [intOf]; omega⟩
      · obtain ⟨e0, he0⟩ : ∃ e0, s.e = e0 := ⟨_, rfl⟩
        have HER := Lib.hid (err_q g s e0 base wr HH.out.un.rd he0)
        have hne2 : (e0 != 0) = true := by rw [← he0]; simpa using he
        have HFIN : Hid (unp t n 0 f0 s0 = (all, f, s)) := by
          show _ = _
          rw [HH.out.eq, unp_bad he]
          simp
        clear he0 he hlt
        go_upto_region 13 with (
          go_at_call 20
          refine HER.out.mono ?_
          rintro e1 w' ⟨rfl, hw⟩
          rw [hw]
          clear hw)
        have HRS : Hid (Blk wr R9 48 (us no4)) := by show Blk _ _ _ _; rw [HZS.out]; exact HH.out.un.res
        have HFU : Hid (Blk wr FF 48 (us f)) := HH.out.un.fou
        have HRO := Lib.hid HH.out.row
        have HRD := Lib.hid HH.out.un.rd
        have HKK := Lib.hid HH.out.un.keeps
        have HLEN := Lib.hid HH.out.len
        have HF4f := Lib.hid HH.out.f4
        clear HH
        obtain ⟨fa, fb, fc, fd, rfl⟩ := four HF4f.out
        have hc0 : wr.cell? ⟨FF, 0, none⟩ = some (.int .u32 (fa : Int)) := HFU.out.cell 0
        have hc1 : wr.cell? ⟨FF, 1, none⟩ = some (.int .u32 (fb : Int)) := HFU.out.cell 1
        have hc2 : wr.cell? ⟨FF, 2, none⟩ = some (.int .u32 (fc : Int)) := HFU.out.cell 2
        have hc3 : wr.cell? ⟨FF, 3, none⟩ = some (.int .u32 (fd : Int)) := HFU.out.cell 3
        have hr0 : wr.cell? ⟨R9, 0, none⟩ = some (.int .u32 0) := HRS.out.cell 0
        have hr1 : wr.cell? ⟨R9, 1, none⟩ = some (.int .u32 0) := HRS.out.cell 1
        have hr2 : wr.cell? ⟨R9, 2, none⟩ = some (.int .u32 0) := HRS.out.cell 2
        have hr3 : wr.cell? ⟨R9, 3, none⟩ = some (.int .u32 0) := HRS.out.cell 3
        have hz0 := HRS.out.frozen 0
        have hz1 := HRS.out.frozen 1
        have hz2 := HRS.out.frozen 2
        have hz3 := HRS.out.frozen 3
        have hne : FF ≠ R9 := HAt.out.fr
        have hne2 : R9 ≠ FF := HAt.out.fr.symm
        go_upto_region 13 with fail
        go_region
        all_goals
          go_wp2_with fail
          refine bodyPost_ret (v := .tuple #[.slice A d c, .agg (us [fa, fb, fc, fd])]) (ret_un rfl _ _ R9 _ _ (four_size rfl) rfl rfl (put4 HRS.out fa fb fc fd)) rfl ?_
          exact un_end HFIN.out HLEN.out HAt.out.g HAt.out.r HRS.out HRO.out HRD.out HKK.out ((keeps4 wr R9 _ _ _ _).drewN 1)
    · obtain rfl : d = n := by omega
      have hge : ¬ ((d : Int) < (d : Int)) := by omega
      have HFIN : Hid (unp t d 0 f0 s0 = (all, f, s)) := by
        show _ = _
        rw [HH.out.eq, Nat.sub_self]
        simp [unp]
      clear hlt
      have HRS : Hid (Blk wr R9 48 (us no4)) := by show Blk _ _ _ _; rw [HZS.out]; exact HH.out.un.res
      have HFU : Hid (Blk wr FF 48 (us f)) := HH.out.un.fou
      have HRO := Lib.hid HH.out.row
      have HRD := Lib.hid HH.out.un.rd
      have HKK := Lib.hid HH.out.un.keeps
      have HLEN := Lib.hid HH.out.len
      have HF4f := Lib.hid HH.out.f4
      clear HH
      obtain ⟨fa, fb, fc, fd, rfl⟩ := four HF4f.out
      have hc0 : wr.cell? ⟨FF, 0, none⟩ = some (.int .u32 (fa : Int)) := HFU.out.cell 0
      have hc1 : wr.cell? ⟨FF, 1, none⟩ = some (.int .u32 (fb : Int)) := HFU.out.cell 1
      have hc2 : wr.cell? ⟨FF, 2, none⟩ = some (.int .u32 (fc : Int)) := HFU.out.cell 2
      have hc3 : wr.cell? ⟨FF, 3, none⟩ = some (.int .u32 (fd : Int)) := HFU.out.cell 3
      have hr0 : wr.cell? ⟨R9, 0, none⟩ = some (.int .u32 0) := HRS.out.cell 0
      have hr1 : wr.cell? ⟨R9, 1, none⟩ = some (.int .u32 0) := HRS.out.cell 1
      have hr2 : wr.cell? ⟨R9, 2, none⟩ = some (.int .u32 0) := HRS.out.cell 2
      have hr3 : wr.cell? ⟨R9, 3, none⟩ = some (.int .u32 0) := HRS.out.cell 3
      have hz0 := HRS.out.frozen 0
      have hz1 := HRS.out.frozen 1
      have hz2 := HRS.out.frozen 2
      have hz3 := HRS.out.frozen 3
      have hne : FF ≠ R9 := HAt.out.fr
      have hne2 : R9 ≠ FF := HAt.out.fr.symm
      go_upto_region 13 with fail
      go_region
      all_goals
        go_wp2_with fail
        refine bodyPost_ret (v := .tuple #[.slice A d c, .agg (us [fa, fb, fc, fd])]) (ret_un rfl _ _ R9 _ _ (four_size rfl) rfl rfl (put4 HRS.out fa fb fc fd)) rfl ?_
        exact un_end HFIN.out HLEN.out HAt.out.g HAt.out.r HRS.out HRO.out HRD.out HKK.out ((keeps4 wr R9 _ _ _ _).drewN 1)
end Go.Proofs.Ytmeeagjnlmfgeaa.Rs

/- Of each byte that has a table, whose each part is (chain.tables.owners). -/
import Derived.Test.YtnanmenoemajfaaChSp
namespace Go.Proofs.Ytnanmenoemajfaa.Cq
open Go.RowKit Go.Proofs.Ytnanmenoemajfaa.Gen Go.Proofs.Ytnanmenoemajfaa.Wr Go.Proofs.Ytnanmenoemajfaa.It Go.Proofs.Ytnanmenoemajfaa.Fq Go.Proofs.Ytnanmenoemajfaa.Rp Go.Proofs.Ytnanmenoemajfaa.Ch Go.Proofs.Ytnanmenoemajfaa.Cm Go.Proofs.Ytnanmenoemajfaa.Ck

/-- Rows that are laid: of each byte that has come its table's owners. -/
structure Rows_ (tb : Nat → Option (List Int)) (seen : List Nat) (O : Nat) (cs : Array Value) (w : World) : Prop where
  size : cs.size = 256
  one : cs.all (·.oneCell') = true
  in_ : ∀ a, a ∈ seen → a < 256 → ∃ l g c, tb a = some l ∧ cs[a]? = some (.slice (some ⟨g, 0, none⟩) 4096 c) ∧ O < g ∧ Lies w (some ⟨g, 0, none⟩) (ow l 256)
  out : ∀ a, a ∉ seen → a < 256 → cs[a]? = some (.slice none 0 0)
theorem Rows_.keeps {S : Nat → Prop} {tb : Nat → Option (List Int)} {seen : List Nat} {O : Nat} {cs : Array Value} {w w1 : World} (h : Rows_ tb seen O cs w) (k : Keeps S w w1) (hs : ∀ x, S x → x ≤ O) : Rows_ tb seen O cs w1 :=
  ⟨h.size, h.one, fun a h1 h2 => by
    obtain ⟨l, g, c, e1, e2, e3, e4⟩ := h.in_ a h1 h2
    exact ⟨l, g, c, e1, e2, e3, e4.keeps k (fun b o e hb => by injection e with e; injection e with e; subst e; have := hs _ hb; omega)⟩, h.out⟩
theorem Rows_.set {tb : Nat → Option (List Int)} {seen : List Nat} {O a g c : Nat} {l : List Int} {cs : Array Value} {w : World} (h : Rows_ tb seen O cs w) (ha : a < 256) (hl : tb a = some l) (hg : O < g) (hL : Lies w (some ⟨g, 0, none⟩) (ow l 256)) :
    Rows_ tb (seen ++ [a]) O (cs.setIfInBounds a (.slice (some ⟨g, 0, none⟩) 4096 c)) w := by
  have hs := h.size
  refine ⟨by simpa using hs, ?_, fun z h1 h2 => ?_, fun z h1 h2 => ?_⟩
  · have h1 := h.one
    rw [Array.all_eq_true] at h1 ⊢
    intro i hi
    have hi2 : i < cs.size := by simpa using hi
    rw [Array.getElem_setIfInBounds (by simpa using hi2)]
    split
    · rfl
    · exact h1 i hi2
  · by_cases e : z = a
    · subst e
      exact ⟨l, g, c, hl, by simp [hs, ha], hg, hL⟩
    · have h3 : z ∈ seen := by
        rcases List.mem_append.1 h1 with h3 | h3
        · exact h3
        · exact absurd (List.mem_singleton.1 h3) e
      obtain ⟨l2, g2, c2, e1, e2, e3, e4⟩ := h.in_ z h3 h2
      refine ⟨l2, g2, c2, e1, ?_, e3, e4⟩
      rw [Array.getElem?_setIfInBounds, if_neg (Ne.symm e)]
      exact e2
  · have e : z ≠ a := fun e => h1 (by simp [e])
    rw [Array.getElem?_setIfInBounds, if_neg (Ne.symm e)]
    exact h.out z (fun h3 => h1 (by simp [h3])) h2
def nils : Array Value := Array.replicate 256 (.slice none 0 0)
theorem nils_get {a : Nat} (h : a < 256) : nils[a]? = some (.slice none 0 0) := by simp [nils, h]
theorem oa_info : (Try.prog.info? 97).map (fun i => (i.zero, i.size)) = some (some (.agg (Array.replicate 256 (.slice none 0 0))), 256) := by kernel_rfl
theorem oa_zero (w : World) : (zeroValue 97).run Try.prog w = .ok (.agg nils) w := (zero_of_info oa_info).1 w
theorem oa_size {v : Array Value} (h : v.size = 256) : (Try.prog.info? 97).map (·.size) = some v.size := by rw [h]; exact (zero_of_info oa_info).2
theorem built_oa : (Try.prog.built 97 []) = some (Array.replicate 256 (.slice none 0 0)) := by kernel_rfl
theorem run_oa (w : World) : (Instr.build 97 #[]).run Try.prog w = .ok (.agg nils) w := run_build w 97 #[] _ built_oa
theorem nils_one : nils.all (·.oneCell') = true := by
  rw [Array.all_eq_true]
  intro i hi
  simp [nils, Value.oneCell']
theorem ret_oa {fn : Func} {j : Nat} (h : fn.results = #[.cell j 97]) (tmps : Array Value) (w : World) (g : Nat) (v : Array Value) (hi : v.size = 256)
    (hp : tmps.getD j undef = .pointer (some ⟨g, 0, none⟩)) (hb : Blk w g 97 v) : (results fn tmps).run Try.prog w = .ok (.agg v) w :=
  results_cell_row h tmps w g 97 v (0, 0) _ hp hb Try.underlying97 rfl (oa_size hi)
/-- Room for so many bytes. -/
theorem made_room (t : Nat) : madeCells (Value.int .u8 0).cells (t * 1) = (bv (List.replicate t 0)).toArray := by
  apply Array.ext_getElem?
  intro j
  by_cases hj : j < t
  · simp [madeCells, hj, Nat.mod_one, bv, Value.cells]
  · simp [madeCells, hj, bv]
theorem make_room (t : Nat) (ht : t ≤ 1000000) (w : World) : ∃ R : Array Value, (Instr.makeSlice 22 (.int .i64 0) (.int .i64 (t : Int))).run Try.prog w = .ok (.slice (some ⟨w.heap.size, 0, none⟩) 0 t) (w.alloc (.cells R 5)) ∧ ∀ base, base ≤ w.heap.size → (w.alloc (.cells R 5)).ownsRow base 5 1 (.slice (some ⟨w.heap.size, 0, none⟩) 0 t) 0 (bv []) := by
  obtain ⟨i0, hi0, hz0, hz1, hz2⟩ := info_parts u8_info
  have h := run_make (P := Try.prog) w 22 5 i0 _ Try.underlying22 hi0 hz0 .i64 .i64 0 (t : Int) (by omega) (by omega) (by rw [hz2]; omega) (by omega)
  rw [hz1, Int.toNat_natCast, made_room] at h
  exact ⟨_, h, fun base hb => ⟨rfl, .inr ⟨w.heap.size, t, _, rfl, hb, heap_alloc_new w _, Nat.zero_le _, by simp only [maxLen]; omega, by simp [bv], by simp [bv]⟩⟩⟩
theorem ow_snoc (l : List Int) (d j : Nat) : ow l d ++ List.replicate (j + 1) (d : Int) = ow l d ++ List.replicate j (d : Int) ++ [(d : Int)] := by
  rw [List.replicate_succ', List.append_assoc]

set_option maxHeartbeats 8000000 in
set_option maxRecDepth 100000 in
theorem owners_ (b : Nat) (tb : Nat → Option (List Int)) (w : World) (hm : IsF Try.prog 5 256 bkl w b (tabV tb)) (ht : ∀ a l, tb a = some l → Tb l) :
    Calls Try.prog 48 #[.map (some b)] w fun r w' => ∃ (OS : Array Value) (B : Nat) (seen : List Nat), r = .returned (.agg OS) ∧ Rows_ tb seen B OS w' ∧ w.heap.size ≤ B ∧ (∀ a, a < 256 → (tb a ≠ none ↔ a ∈ seen)) ∧ Keeps (fun _ => False) w w' := by
  have HM := Lib.hid hm
  have HT := Lib.hid ht
  have hz : ∀ w, (zeroValue 65).run Try.prog w = .ok (.agg (vs zs)) w := tab_zero
  have HZS : Hid ((vs zs).size = 256) := by show _ = _; rw [vs_size, zs_len]
  have hzo : ∀ w, (zeroValue 97).run Try.prog w = .ok (.agg nils) w := oa_zero
  have hbu := run_oa
  have HNI : Hid ((Try.prog.info? 97).map (·.size) = some nils.size) := oa_size (by simp [nils])
  have HN1 : Hid (nils.all (·.oneCell') = true) := nils_one
  have HNS : Hid (nils.size = 256) := by show _ = _; simp [nils]
  have HNG : Hid (∀ a, a < 256 → nils[a]? = some (.slice none 0 0)) := fun a h => nils_get h
  generalize hZ : vs zs = Z at hz HZS
  generalize nils = NL at hzo hbu HNI HN1 HNS HNG
  clear hm ht hZ
  go_enter Try.func48, Try.ntmps48
  go_upto_region 1 with fail
  obtain ⟨RR, hRR⟩ : ∃ RR, w.heap.size = RR := ⟨_, rfl⟩
  have HR0 : Hid (Blk (w.alloc (.cells NL 97)) w.heap.size 97 NL) := Blk.new _ _ _
  have HK0 : Hid (Keeps (fun _ => False) w (w.alloc (.cells NL 97))) := (Keeps.refl _ _).alloc _
  generalize w.alloc (.cells NL 97) = W0 at HR0 HK0 ⊢
  rw [hRR] at HR0 ⊢
  have HRE := Lib.hid hRR
  clear hRR
  go_upto_region 2 with ((with_reducible refine st_row (Blk.new _ 97 NL) HNI.out rfl HN1.out ?_ ?_ ?_); rfl; rfl)
  obtain ⟨O, hO⟩ : ∃ O, W0.heap.size = O := ⟨_, rfl⟩
  have HO1 : Hid (Blk ((W0.alloc (.cells NL 97)).setRow W0.heap.size NL) W0.heap.size 97 NL) := new_put
  have HR1 : Hid (Blk ((W0.alloc (.cells NL 97)).setRow W0.heap.size NL) RR 97 NL) := Blk.put_new HR0.out
  have HK1 : Hid (Keeps (fun _ => False) W0 ((W0.alloc (.cells NL 97)).setRow W0.heap.size NL)) := Keeps.put_new (Keeps.refl _ _)
  have HRO : Hid (RR < O) := by show RR < O; rw [← hO]; exact HR0.out.lt
  have HS1 : Hid (W0.heap.size < ((W0.alloc (.cells NL 97)).setRow W0.heap.size NL).heap.size) := HO1.out.lt
  generalize (W0.alloc (.cells NL 97)).setRow W0.heap.size NL = W1 at HO1 HR1 HK1 HS1 ⊢
  rw [hO] at HO1 HS1 ⊢
  have HK1w := Lib.hid (HK0.out.trans HK1.out)
  have HM1 := Lib.hid (HM.out.keeps HK1w.out id)
  have HWO : Hid (w.heap.size ≤ O) := by show _ ≤ O; rw [HRE.out]; exact Nat.le_of_lt HRO.out
  clear hO HK0 HK1 HR0
  go_upto_region 3 with (
    at_range
    refine wpList_range_f _ byte_ks rfl _ _ rfl 65 Try.underlying40 b (tabV tb) rfl HM1.out ?_
    intro w2 cn hrg2 hk2
    have HRG := Lib.hid hrg2
    have HO2 := Lib.hid (HO1.out.keeps hk2 id)
    have HR2 := Lib.hid (HR1.out.keeps hk2 id)
    have HK2 := Lib.hid (HK1w.out.trans hk2)
    clear hrg2 hk2 HO1 HR1 HK1w HM1)
  obtain ⟨r1, hr1⟩ : ∃ r1, W1.heap.size = r1 := ⟨_, rfl⟩
  rw [hr1] at HRG HS1 ⊢
  clear hr1
  go_frame
  go_loopw [4, 5, 6, 7, 8] (fun _ _ _ _ _ wr => ∃ (seen : List Nat) (cn : Nat) (cs : Array Value), RgF Try.prog 5 256 bkl wr b r1 (tabV tb) seen cn ∧ Blk wr O 97 cs ∧ Rows_ tb seen r1 cs wr ∧ Blk wr RR 97 NL ∧ Keeps (fun _ => False) w wr) (fun _ _ _ _ _ wr => wr.rangeLeft b r1)
  case atStart =>
    exact ⟨[], cn, NL, HRG.out, HO2.out, ⟨HNS.out, HN1.out, by simp, fun a _ h => HNG.out a h⟩, HR2.out, HK2.out⟩
  case round =>
    clear HRG HO2 HR2 HK2
    obtain ⟨seen, cn, cs, hrg, hbo, hro, hrr, hk⟩ := hrel
    have HG := Lib.hid hrg
    have HBO := Lib.hid hbo
    have HRO2 := Lib.hid hro
    have HRR2 := Lib.hid hrr
    have HK := Lib.hid hk
    clear hrg hbo hro hrr hk
    go_wp2_with (
      at_next
      refine wpList_next_f _ byte_ks rfl _ rfl b r1 (tabV tb) seen cn rfl HG.out ?_ ?_)
    · intro hall
      have HIFF : Hid (∀ a, a < 256 → (tb a ≠ none ↔ a ∈ seen)) := by
        refine Lib.hid fun a ha => ⟨fun h => hall a ha (by cases hx : tb a with | none => exact absurd hx h | some l => simp [tabV, hx]), fun h => ?_⟩
        obtain ⟨l, _, _, e, _⟩ := HRO2.out.in_ a h ha
        rw [e]; simp
      have HCI : Hid ((Try.prog.info? 97).map (·.size) = some cs.size) := oa_size HRO2.out.size
      have HC1 : Hid (cs.all (·.oneCell') = true) := HRO2.out.one
      have HCS : Hid (NL.size = cs.size) := by show _ = _; rw [HNS.out, HRO2.out.size]
      clear hall HG
      go_wp2_with (first
        | ((with_reducible refine ld_row HBO.out Try.underlying97 HCI.out ?_ ?_); rfl)
        | ((with_reducible refine st_row HRR2.out HCI.out HCS.out HC1.out ?_ ?_ ?_); rfl; rfl))
      have hk9 : Keeps (· = RR) wr (wr.setRow RR cs) := Keeps.setRow (Keeps.refl (· = RR) wr) (.inl rfl) _
      refine bodyPost_ret (v := .agg cs) ?_ rfl ⟨cs, r1, seen, rfl, ?_, (by have := HWO.out; have := HS1.out; omega), HIFF.out, Keeps.setRow HK.out (.inr (by rw [HRE.out]; exact Nat.le_refl _)) _⟩
      · exact ret_oa rfl _ _ RR cs HRO2.out.size rfl (Blk.setRow HRR2.out _)
      · refine ⟨HRO2.out.size, HRO2.out.one, fun a h1 h2 => ?_, HRO2.out.out⟩
        obtain ⟨l, g, c, e1, e2, e3, e4⟩ := HRO2.out.in_ a h1 h2
        refine ⟨l, g, c, e1, e2, e3, e4.keeps hk9 (fun b o e hb => ?_)⟩
        injection e with e
        injection e with e
        have h1 := HRO.out
        have h2 : b = RR := hb
        have h3 : O < r1 := HS1.out
        omega
    · intro a v w3 cn3 ha hv hns hrg3 hlt3 hk3 hen
      obtain ⟨l, hl⟩ : ∃ l, tb a = some l := by
        cases hx : tb a with
        | none => rw [tabV, hx] at hv; cases hv
        | some l => exact ⟨l, rfl⟩
      obtain ⟨V, hV⟩ : ∃ V, vs l = V := ⟨_, rfl⟩
      obtain rfl : v = .agg V := by
        have h : tabV tb a = some (.agg V) := by rw [tabV, hl, ← hV]; rfl
        rw [h] at hv
        injection hv with hv
        exact hv.symm
      have hT := HT.out a l hl
      have hrO : O < r1 := HS1.out
      have HK3 : Hid (Keeps (fun _ => False) w w3) := Lib.hid (keeps_low HK.out hk3 (fun z hz => by subst hz; have := HWO.out; omega))
      have HG3 := Lib.hid hrg3
      have HBO3 := Lib.hid (HBO.out.keeps hk3 (fun e => by omega))
      have HRR3 := Lib.hid (HRR2.out.keeps hk3 (fun e => by have := HRO.out; omega))
      have HRO3 : Hid (Rows_ tb seen r1 cs w3) := Lib.hid (HRO2.out.keeps hk3 (fun z hz => Nat.le_of_eq hz))
      have HLT : Hid (cn3 < wr.rangeLeft b r1) := by show _ < _; rw [HG.out.left_eq]; exact hlt3
      have HVI : Hid ((Try.prog.info? 65).map (·.size) = some V.size) := by show _ = _; rw [← hV]; exact tab_size hT.len
      have HV1 : Hid (V.all (·.oneCell') = true) := by show _ = _; rw [← hV]; exact vs_one _
      have HVZ : Hid (Z.size = V.size) := by show _ = _; rw [HZS.out, ← hV, vs_size, hT.len]
      have HV := Lib.hid hV
      have HA := Lib.hid ha
      have HL := Lib.hid hl
      have HTb := Lib.hid hT
      have HNSn := Lib.hid hns
      have HrO := Lib.hid hrO
      unfold bkv at hen ⊢
      clear hv hns hrg3 hlt3 hk3 HG HBO HRO2 HRR2 HK hV hT ha hl hrO
      go_upto_region 5 with ((with_reducible refine st_row (Blk.new _ 65 Z) HVI.out HVZ.out HV1.out ?_ ?_ ?_); rfl; rfl)
      obtain ⟨p, hp⟩ : ∃ p, w3.heap.size = p := ⟨_, rfl⟩
      have HB4 : Hid (Blk ((w3.alloc (.cells Z 65)).setRow w3.heap.size V) w3.heap.size 65 V) := new_put
      have HK4 : Hid (Keeps (fun _ => False) w3 ((w3.alloc (.cells Z 65)).setRow w3.heap.size V)) := Keeps.put_new (Keeps.refl _ _)
      generalize (w3.alloc (.cells Z 65)).setRow w3.heap.size V = W4 at HB4 HK4 ⊢
      rw [hp] at HB4 ⊢
      clear hp hen
      obtain ⟨MZ, hmk, hown⟩ := make_room 4096 (by omega) W4
      have hmk : (Instr.makeSlice 22 (.int .i64 0) (.int .i64 4096)).run Try.prog W4 = .ok (.slice (some ⟨W4.heap.size, 0, none⟩) 0 4096) (W4.alloc (.cells MZ 5)) := hmk
      have HO5 := Lib.hid (hown W4.heap.size (Nat.le_refl _))
      have HKm : Hid (Keeps (fun _ => False) W4 (W4.alloc (.cells MZ 5))) := (Keeps.refl _ _).alloc _
      have HO4 : Hid (O < W4.heap.size) := Nat.lt_of_lt_of_le HBO3.out.lt HK4.out.size
      clear hown
      go_upto_region 6 with fail
      obtain ⟨base, hbase⟩ : ∃ base, W4.heap.size = base := ⟨_, rfl⟩
      generalize W4.alloc (.cells MZ 5) = W5 at HO5 HKm ⊢
      rw [hbase] at HO5 HO4 ⊢
      have HBA := Lib.hid hbase
      clear hbase hmk
      have HB5 := Lib.hid (HB4.out.keeps HKm.out id)
      go_wp2_with ((with_reducible refine ld_row HB5.out Try.underlying65 HVI.out ?_ ?_); rfl)
      have HKw4 := Lib.hid (HK3.out.trans HK4.out)
      have HG4 := Lib.hid (HG3.out.keeps HK4.out id id)
      have HBO4 := Lib.hid (HBO3.out.keeps HK4.out id)
      have HRR4 := Lib.hid (HRR3.out.keeps HK4.out id)
      have HRO4 := Lib.hid (HRO3.out.keeps HK4.out (fun _ h => h.elim))
      have HrB : Hid (r1 < base) := by show r1 < base; rw [← HBA.out]; exact HG4.out.lt
      clear HK3 HG3 HBO3 HRR3 HRO3 HK4 HB4 HB5
      go_loopw [6, 7, 8, 19] (fun sv _ _ iv wr => ∃ (d : Nat) (A : Option Addr) (k c : Nat), sv = .slice A k c ∧ iv = .int .i64 (d : Int) ∧ d ≤ 256 ∧ Hid (wr.ownsRow base 5 1 (.slice A k c) k (bv (ow l d)) ∧ (ow l d).length = k ∧ Keeps (fun _ => False) W4 wr)) (fun _ _ _ iv _ => 256 - (intOf iv).toNat)
      case atStart => exact ⟨0, _, 0, _, rfl, rfl, by omega, Lib.hid ⟨HO5.out, rfl, HKm.out⟩⟩
      case round =>
        clear HO5 HKm
        obtain ⟨d, A, k, c, rfl, rfl, hd, HH⟩ := hrel
        by_cases hlt : d < 256
        · have hd1 : (d : Int) < 256 := by omega
          have hfin := HTb.out.fine _ (getD_mem (l := l) (d := d) (by rw [HTb.out.len]; exact hlt))
          obtain ⟨x, hx⟩ : ∃ x : Nat, l.getD d 0 = (x : Int) := ⟨(l.getD d 0).toNat, by omega⟩
          have hgd : ∀ w, (Instr.index 65 (.agg V) (.int .i64 (d : Int))).run Try.prog w = .ok (.int .i64 (x : Int)) w := run_idx 65 256 Try.underlying65 V .i64 d _ hlt (by rw [← HV.out, vs_get (by rw [HTb.out.len]; exact hlt), hx])
          have hxb : x ≤ 4096 := by omega
          have hol := ow_len HTb.out.fine HTb.out.len (d := d) (by omega)
          have hsb := (sum_bound HTb.out.fine HTb.out.len d).2
          have hsm := sum_mono HTb.out.fine (a := d) (b := 256) (by omega) (by rw [HTb.out.len]; exact Nat.le_refl _)
          rw [List.take_of_length_le (l := l) (i := 256) (by rw [HTb.out.len]; exact Nat.le_refl _), HTb.out.sum] at hsm
          have HOL : Hid ((ow l d).length ≤ 4096) := by show _ ≤ _; omega
          have HOW : Hid (ow l (d + 1) = ow l d ++ List.replicate x (d : Int)) := by show _ = _; rw [ow, hx, Int.toNat_natCast]
          have HXB := Lib.hid hxb
          have HD := Lib.hid hlt
          have hwd : IntKind.u8.wrap (d : Int) = (d : Int) := IntWalk.u8_in _ (by omega)
          clear hfin hx hxb hol hsb hsm hlt hd
          go_upto_region 10 with fail
          go_loopw [6, 24] (fun sv jv wr => ∃ (j : Nat) (A : Option Addr) (k c : Nat), sv = .slice A k c ∧ jv = .int .i64 (j : Int) ∧ j ≤ x ∧ Hid (wr.ownsRow base 5 1 (.slice A k c) k (bv (ow l d ++ List.replicate j (d : Int))) ∧ (ow l d ++ List.replicate j (d : Int)).length = k ∧ Keeps (fun _ => False) W4 wr)) (fun _ jv _ => x - (intOf jv).toNat)
          case atStart => exact ⟨0, A, k, c, rfl, rfl, by omega, Lib.hid ⟨by simpa using HH.out.1, by simpa using HH.out.2.1, HH.out.2.2⟩⟩
          case round =>
            clear HH
            obtain ⟨j, A, k, c, rfl, rfl, hj, HH⟩ := hrel
            by_cases hlt : j < x
            · have hj1 : (j : Int) < (x : Int) := by omega
              have HOa : Hid ((wr.alloc (.cells #[.int .u8 (d : Int)] 5)).ownsRow base 5 1 (.slice A k c) k (bv (ow l d ++ List.replicate j (d : Int)))) := Lib.hid (own_keeps HH.out.1 (S := fun _ => False) ((Keeps.refl _ _).alloc _) (fun _ _ => id))
              have HKa : Hid (Keeps (fun _ => False) W4 (wr.alloc (.cells #[.int .u8 (d : Int)] 5))) := HH.out.2.2.alloc _
              have HLa : Hid (Lies (wr.alloc (.cells #[.int .u8 (d : Int)] 5)) (some ⟨wr.heap.size, 0, none⟩) [(d : Int)]) := by
                refine Lib.hid (.inr ⟨_, _, rfl, by simp, fun i hi => ?_⟩)
                have hi0 : i = 0 := by simp at hi; omega
                subst hi0
                exact (Blk.new wr 5 #[.int .u8 (d : Int)]).cell 0
              have HKB : Hid (k + 1 ≤ 1000000) := by
                show _ ≤ _
                have h1 := HH.out.2.1
                have h2 := HOL.out
                have h3 := HXB.out
                rw [List.length_append, List.length_replicate] at h1
                omega
              have HBS : Hid (base ≤ (wr.alloc (.cells #[.int .u8 (d : Int)] 5)).heap.size) := by
                show _ ≤ _
                rw [← HBA.out]
                exact HKa.out.size
              have HJ := Lib.hid hlt
              have hwj : IntKind.i64.wrap ((j : Int) + 1) = (j : Int) + 1 := IntWalk.i64_in _ (by have := HXB.out; omega)
              clear hlt hj
              go_wp2_with (
                at_builtin
                refine Ap.wpList_app rfl (.tmp 26) (.tmp 29) rfl base k 1 1 (.slice A k c) (ow l d ++ List.replicate j (d : Int)) [(d : Int)] (some ⟨wr.heap.size, 0, none⟩) rfl HOa.out rfl HLa.out rfl HKB.out HBS.out ?_
                intro v7 w7 hown7 hg7 hat7
                obtain ⟨A7, c7, rfl, hc7⟩ := own_form hown7
                have HO7 := Lib.hid hown7
                have HK7 : Hid (Keeps (fun _ => False) W4 w7) := Lib.hid (HKa.out.grown hg7 (fun z hz => .inr (by rw [HBA.out]; exact (HOa.out.lt z hz).1)))
                clear hown7 hg7 hat7 hc7)
              exact ⟨⟨j + 1, A7, k + 1, c7, rfl, by go_num, HJ.out, Lib.hid ⟨by rw [ow_snoc]; exact HO7.out, by rw [ow_snoc, List.length_append, HH.out.2.1]; rfl, HK7.out⟩⟩, by have := HJ.out; simp [intOf]; omega⟩
            · obtain rfl : j = x := by omega
              have hge : ¬ ((j : Int) < (j : Int)) := by omega
              have HNX : Hid (wr.ownsRow base 5 1 (.slice A k c) k (bv (ow l (d + 1))) ∧ (ow l (d + 1)).length = k ∧ Keeps (fun _ => False) W4 wr) := by
                refine Lib.hid ?_
                rw [HOW.out]
                exact HH.out
              clear hlt hj HH
              go_wp2_with fail
              exact ⟨⟨d + 1, A, k, c, rfl, by go_num, HD.out, HNX⟩, by have := HD.out; simp [intOf]; omega⟩
        · obtain rfl : d = 256 := by omega
          have hge : ¬ ((256 : Int) < 256) := by omega
          have hol := ow_len HTb.out.fine HTb.out.len (d := 256) (Nat.le_refl _)
          rw [List.take_of_length_le (l := l) (i := 256) (by rw [HTb.out.len]; exact Nat.le_refl _), HTb.out.sum] at hol
          obtain rfl : k = 4096 := by have := HH.out.2.1; omega
          obtain ⟨g, rfl, _, _, hgb, hgl⟩ := Ap.own_cell HH.out.1 (j := 0) (by omega)
          have hnil := HRO4.out.out a HNSn.out HA.out
          have hcell : wr.cell? ⟨O, a, none⟩ = some (.slice none 0 0) := by rw [(HBO4.out.keeps HH.out.2.2 id).cell, hnil]
          have hfz := (HBO4.out.keeps HH.out.2.2 id).frozen a
          have ha0 : (0 : Int) ≤ (a : Int) := by omega
          have ha1 : (a : Int) < 256 := by have := HA.out; omega
          have hrg : r1 < g := by have := HrB.out; omega
          have hOg : O < g := by have := HrO.out; omega
          have hks : Keeps (· = O) wr (wr.setCell ⟨O, a, none⟩ (.slice (some ⟨g, 0, none⟩) 4096 c)) := (Keeps.refl _ _).setOwn a _
          have HLg : Lies (wr.setCell ⟨O, a, none⟩ (.slice (some ⟨g, 0, none⟩) 4096 c)) (some ⟨g, 0, none⟩) (ow l 256) := (Lies.of_own HH.out.1).keeps hks (fun b' o' e hb => by
            injection e with e
            injection e with e
            have hb : b' = O := hb
            omega)
          have HR9 : Hid (RgF Try.prog 5 256 bkl (wr.setCell ⟨O, a, none⟩ (.slice (some ⟨g, 0, none⟩) 4096 c)) b r1 (tabV tb) (seen ++ [a]) cn3) :=
            Lib.hid ((HG4.out.keeps HH.out.2.2 id id).keeps hks (fun e => (HG4.out.keeps HH.out.2.2 id id).isF.ne_blk (HBO4.out.keeps HH.out.2.2 id) e.symm) (fun e => by have := HrO.out; omega))
          have HBO9 := Lib.hid ((HBO4.out.keeps HH.out.2.2 id).setCell a (.slice (some ⟨g, 0, none⟩) 4096 c))
          have HRO9 := Lib.hid (((HRO4.out.keeps HH.out.2.2 (fun _ h => h.elim)).keeps hks (fun z hz => by have hz : z = O := hz; have := HrO.out; omega)).set HA.out HL.out hrg HLg (c := c))
          have HRR9 := Lib.hid ((HRR4.out.keeps HH.out.2.2 id).keeps hks (fun e => by have := HRO.out; omega))
          have HK9 : Hid (Keeps (fun _ => False) w (wr.setCell ⟨O, a, none⟩ (.slice (some ⟨g, 0, none⟩) 4096 c))) := Lib.hid ((HKw4.out.trans HH.out.2.2).setCell (p := ⟨O, a, none⟩) (.inr HWO.out) _)
          clear hol hnil hgb hgl hrg hOg hks HLg hlt hd HH
          go_wp2_with fail
          refine ⟨⟨seen ++ [a], cn3, _, HR9.out, HBO9.out, HRO9.out, HRR9.out, HK9.out⟩, ?_⟩
          exact Nat.lt_of_le_of_lt (Nat.le_of_eq HR9.out.left_eq) HLT.out
end Go.Proofs.Ytnanmenoemajfaa.Cq

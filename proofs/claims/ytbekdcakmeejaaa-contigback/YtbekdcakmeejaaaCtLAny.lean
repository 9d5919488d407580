/- The walk of the statement ContigAny: any bytes, any small numbers. -/
import Derived.Test.YtbekdcakmeejaaaCtSm
import Derived.Test.YtbekdcakmeejaaaAwake12
import Derived.Test.YtbekdcakmeejaaaAnyInv
namespace Go.Proofs.Ytbekdcakmeejaaa.Ct
open Go.RowKit Go.Proofs.Ytbekdcakmeejaaa.Gen Go.Proofs.Ytbekdcakmeejaaa.Ca Go.Proofs.Ytbekdcakmeejaaa.Cl

/-- Bytes that may be nil, behind three bytes of a text's constant. -/
theorem run_app3 (B m c : Nat) (x0 x1 x2 : Int) (ty : TypeId) (xs : List Int) (A : Option Addr) (w : World) (hB : Lies w (some ⟨B, 0, none⟩) [x0, x1, x2]) (hl : Lies w A xs) (hm : xs.length = m) (h63 : m ≤ 1000000) :
    ∃ A' c' w', (Builtin.append_ #[31, 31] ty #[.slice (some ⟨B, 0, none⟩) 3 3, .slice A m c]).run Try.prog w = .ok (.slice A' (3 + m) c') w' ∧ Lies w' A' ([x0, x1, x2] ++ xs) ∧ 3 + m ≤ c' ∧ Keeps (fun _ => False) w w' := by
  obtain ⟨i0, hi0, hz0, hz1, hz2⟩ := info_parts u8_info
  have ht : Try.prog.underlying 31 = some (.slice 5) := Try.underlying31
  by_cases h0 : m = 0
  · subst h0
    obtain rfl : xs = [] := List.eq_nil_of_length_eq_zero hm
    refine ⟨some ⟨B, 0, none⟩, 3, w, ?_, by simpa using hB, by omega, Keeps.refl _ _⟩
    cases A with
    | none => simp [Builtin.append_, run_underlying ht, sizeOf, typeInfo, hi0, Builtin.lenOf, Builtin.firstCells, storeCells]
    | some a => simp [Builtin.append_, run_underlying ht, sizeOf, typeInfo, hi0, Builtin.lenOf, Builtin.firstCells, storeCells, loadCells, loadCellsFrom]
  · cases A with
    | none =>
      rcases hl with h | ⟨b, o, h, _⟩
      · rw [h] at hm; simp at hm; omega
      · cases h
    | some ad =>
      have hr := run_append_grow (P := Try.prog) w 31 ty 5 i0 _ ht hi0 hz0 ⟨B, 0, none⟩ 3 3 (bv [x0, x1, x2]) (by rw [hz1]; rfl) hB.news ad m c (bv xs) (by rw [bv_len, hz1]; omega) hl.news (by omega) (by omega) (by rw [hz2]; exact growslice_fits (by omega) (by omega))
      refine ⟨_, _, _, hr, ?_, grownCap_ge w (3 + m) 3 5, ((Keeps.refl _ _).drewN 1).alloc _⟩
      refine .inr ⟨_, _, rfl, by simp, fun i hi => ?_⟩
      have h9 := cell_of_row _ w.heap.size (0 + i) _ 5 (0, 0) (heap_alloc_new w.drew (.cells ((bv [x0, x1, x2]).toArray ++ (bv xs).toArray ++ Builtin.zeroCells (Value.int .u8 0).cells (grownCap w (3 + m) 3 5 - (3 + m))) 5))
      rw [h9, Nat.zero_add]
      have hb : ([x0, x1, x2] ++ xs).length = 3 + m := by simp [hm]; omega
      have h1 := bv_at (xs := [x0, x1, x2] ++ xs) (j := i) hi
      rw [bv_append] at h1
      have hlen : (bv [x0, x1, x2] ++ bv xs).length = 3 + m := by rw [← bv_append, bv_len, hb]
      rw [← h1]
      have e : ((bv [x0, x1, x2]).toArray ++ (bv xs).toArray : Array Value) = (bv [x0, x1, x2] ++ bv xs).toArray := by simp
      rw [e, Array.getElem?_append_left (by simp only [List.size_toArray]; omega)]
      simp
theorem step_app3 {ops : Array Oper} {o : Oper} {a : Act} {w : World} {K : Act → World → Prop} {Q : Exit → Act → World → Prop} {E : Prop} (hgd : o.guard = none) (s x : Operand)
    (ho : o.op = .call { callee := .builtin .append, args := #[s, x], argTypes := #[31, 31] })
    (B m c : Nat) (x0 x1 x2 : Int) (xs : List Int) (A : Option Addr) (hs : a.eval s = .slice (some ⟨B, 0, none⟩) 3 3) (hB : Lies w (some ⟨B, 0, none⟩) [x0, x1, x2]) (hx : a.eval x = .slice A m c) (hl : Lies w A xs) (hm : xs.length = m) (h63 : m ≤ 1000000)
    (h : ∀ A' c' w', Lies w' A' ([x0, x1, x2] ++ xs) → 3 + m ≤ c' → Keeps (fun _ => False) w w' → K (a.put o.dst (.slice A' (3 + m) c')) w') :
    if Region.wanted o (yielded ops a.tmps) = true then Oper.wp Try.prog o a w K Q else E := by
  have hw : Region.wanted o (yielded ops a.tmps) = true := by simp [Region.wanted, hgd]
  rw [if_pos hw]
  obtain ⟨A', c', w', hr, h1, h2, h3⟩ := run_app3 B m c x0 x1 x2 o.type xs A w hB hl hm h63
  unfold Oper.wp execOp
  simp only [ho, resolve, invoke, builtin, Sem.run_bind, Sem.run_pure, Result.andThen_ok, List.map_toArray, List.map_cons, List.map_nil, hs, hx, hr]
  exact h A' c' w' h1 h2 h3
theorem getD_mem {l : List Int} {d : Nat} (h : d < l.length) : l.getD d 0 ∈ l := by
  rw [List.getD_eq_getElem?_getD, List.getElem?_eq_getElem h]
  exact List.getElem_mem h
theorem nm_len (i : Nat) : (nmOf i).length ≤ 4 := by
  unfold nmOf
  split <;> simp
theorem nm_byt (i : Nat) : Byt (nmOf i) := by
  intro x hx
  unfold nmOf at hx
  split at hx <;> simp at hx <;> omega
theorem text_byt {ps : List Pr} (h : ∀ p ∈ ps, Byt p.1 ∧ Byt p.2) : Byt (text ps) := by
  intro x hx
  simp only [text, List.mem_flatMap, line] at hx
  obtain ⟨p, hp, hx⟩ := hx
  have h1 := (h p hp).1 x
  have h2 := (h p hp).2 x
  simp at hx
  rcases hx with rfl | hx | rfl | hx | rfl
  · omega
  · exact h1 hx
  · omega
  · exact h2 hx
  · omega
theorem ps_mem {s : Sml} {k : Nat} {p : Pr} (h : p ∈ s.ps k) : ∃ i, i < k ∧ p = (nmOf i, letters (s.st i) (s.len i)) := by
  simp only [Sml.ps, List.mem_map, List.mem_range] at h
  obtain ⟨i, hi, rfl⟩ := h
  exact ⟨i, hi, rfl⟩
theorem ps_text (s : Sml) : ∀ k, (text (s.ps k)).length ≤ k * 130 ∧ k ≤ (text (s.ps k)).length
  | 0 => by simp [Sml.ps, text]
  | k + 1 => by
    have ih := ps_text s k
    rw [ps_succ, text_app, text_one, List.length_append, line_len]
    have h1 := nm_len k
    have h2 := len_le s k
    simp only [letters_len]
    omega

set_option maxHeartbeats 16000000 in
set_option maxRecDepth 100000 in
theorem any_ (A0 : Option Addr) (n0 c0 : Nat) (bs : List Int) (s : Sml) (at_ by_ : Nat) (w : World) (hl : Lies w A0 bs) (hx : bs.length = n0) (hb : Byt bs) (hnc : n0 ≤ c0) (hok : s.ok) (hat : at_ < 65536) (hby : by_ < 256) :
    Calls Try.prog 5 #[.slice A0 n0 c0, .agg s.cells, .int .u16 (at_ : Int), .int .u8 (by_ : Int)] w fun e w' => e = .returned (.bool true) ∧ Keeps (fun _ => False) w w' := by
  obtain ⟨W0, hW0⟩ : ∃ W0, W0 = w.alloc (.cells s.cells 25) := ⟨_, rfl⟩
  have hk0 : Keeps (fun _ => False) w W0 := by rw [hW0]; exact (Keeps.refl _ _).alloc _
  have hbx : Blk W0 w.heap.size 25 s.cells := by rw [hW0]; exact Blk.new _ _ _
  have HK0 := Lib.hid hk0
  have HBX := Lib.hid hbx
  have HL := Lib.hid hl
  have HX := Lib.hid hx
  have HB := Lib.hid hb
  have HN0 := Lib.hid hnc
  have HAW := Lib.hid (Aw.awake (w := W0))
  have HSR := Lib.hid (fun W => sref_ s hok W)
  have HAT := Lib.hid hat
  have HBYL := Lib.hid hby
  obtain ⟨N, hN⟩ : ∃ N, s.n = N := ⟨_, rfl⟩
  have hN4 : 1 ≤ N ∧ N ≤ 4 := by
    rw [← hN]
    have := Nat.mod_lt s.K (show 0 < 4 by decide)
    unfold Sml.n
    omega
  obtain ⟨G, hG⟩ : ∃ G, text (s.ps N) = G := ⟨_, rfl⟩
  obtain ⟨m, hm⟩ : ∃ m, G.length = m := ⟨_, rfl⟩
  have hmb : 1 ≤ m ∧ m ≤ 600 := by
    have := ps_text s N
    rw [hG, hm] at this
    omega
  have hGB : Byt G := by
    rw [← hG]
    refine text_byt fun p hp => ?_
    obtain ⟨i, _, rfl⟩ := ps_mem hp
    exact ⟨nm_byt i, all_byt (letters_all _ _)⟩
  have HN := Lib.hid hN
  have HG := Lib.hid hG
  have HM := Lib.hid hm
  have HMB := Lib.hid hmb
  have HGB := Lib.hid hGB
  have HN4 := Lib.hid hN4
  clear hk0 hbx hl hx hb hnc hok hat hby hN hG hm hmb hGB hN4
  obtain ⟨K, l0, l1, l2, l3, seed⟩ := s
  unfold Sml.cells at hW0 HBX HSR ⊢
  simp only at hW0 HBX HSR ⊢
  go_enter Try.func5, Try.ntmps5
  go_wp2_with fail
  rw [← hW0]
  obtain ⟨p0, hp0⟩ : ∃ p0, p0 = w.heap.size := ⟨_, rfl⟩
  rw [← hp0] at HBX ⊢
  clear hW0 hp0
  refine HAW.out.mono ?_
  rintro e w1 ⟨rfl, hk1⟩
  have HK1 := Lib.hid (HK0.out.trans hk1)
  have HBX1 := Lib.hid (HBX.out.keeps hk1 id)
  clear hk1 HAW HK0
  by_cases g : 300 < n0
  · have d1 : decide ((300 : Int) < (n0 : Int)) = true := by simp; omega
    go_wp2
    go_ret
    exact ⟨rfl, HK1.out⟩
  have d1 : decide ((300 : Int) < (n0 : Int)) = false := by simp; omega
  have hn3 : n0 ≤ 300 := by omega
  have a0 := HBX1.out.cell 0
  have a1 := HBX1.out.cell 1
  have a2 := HBX1.out.cell 2
  have a3 := HBX1.out.cell 3
  have a4 := HBX1.out.cell 4
  have a5 := HBX1.out.cell 5
  simp only [List.getElem?_toArray, List.getElem?_cons_zero, List.getElem?_cons_succ] at a0 a1 a2 a3 a4 a5
  clear g HBX HBX1
  go_wp2_with fail
  refine (HSR.out w1).mono ?_
  rintro e w2 ⟨A2, c2, es, rfl, hmine, hes, hk2⟩
  have HMI := Lib.hid hmine
  have HES := Lib.hid hes
  have HK2 := Lib.hid (HK1.out.trans hk2)
  rw [HN.out] at HMI HES ⊢
  clear hmine hes hk2 HSR a0 a1 a2 a3 a4 a5
  have HTX := Lib.hid (text_ A2 N c2 es w2 (HMI.out.isRef (by have := HN4.out; omega)) (by rw [HES.out, HG.out, HM.out]; have := HMB.out; omega))
  unfold OwnR at HTX
  rw [HES.out, HG.out, HM.out] at HTX
  go_upto_region 6 with (
    go_at_call 11
    refine HTX.out.mono ?_
    rintro e w5 ⟨A5, c5, rfl, ho5, hk5⟩
    have HO5 := Lib.hid ho5
    have HK5 := Lib.hid (HK2.out.trans hk5)
    clear ho5 hk5 HTX)
  have HL5a : Hid (Lies (w5.alloc (.cells #[] 5)) A5 G) := Lib.hid ((Lies.of_own HO5.out).keeps (S := fun _ => False) ((Keeps.refl _ _).alloc _) (fun _ _ _ => id))
  have HK5a : Hid (Keeps (fun _ => False) w5 (w5.alloc (.cells #[] 5))) := (Keeps.refl _ _).alloc _
  have HE5 : Hid ((w5.alloc (.cells #[] 5)).ownsRow w5.heap.size 5 1 (.slice (some ⟨w5.heap.size, 0, none⟩) 0 0) 0 (bv [])) := own_empty w5 _ (Nat.le_refl _)
  have HS5 : Hid (w5.heap.size ≤ (w5.alloc (.cells #[] 5)).heap.size) := by show _ ≤ _; simp
  go_upto_region 7 with (
    at_builtin
    refine wpList_app rfl (.tmp 23) (.tmp 24) rfl w5.heap.size 0 m c5 (.slice (some ⟨w5.heap.size, 0, none⟩) 0 0) [] G A5 rfl HE5.out rfl HL5a.out HM.out (by have := HMB.out; omega) HS5.out ?_
    intro v6 w6 hown6 hg6 hat6
    have HO6a := Lib.hid hown6
    have HK6a : Hid (Keeps (fun _ => False) w5 w6) := Lib.hid (HK5a.out.grown hg6 (fun k hk => .inr (by simp [Value.ownBlock] at hk; omega)))
    clear hown6 hg6 hat6)
  have ho6 := HO6a.out
  rw [List.nil_append, Nat.zero_add] at ho6
  obtain ⟨A6, c6, rfl, hc6⟩ := own_form ho6
  obtain ⟨j, hj⟩ : ∃ j, at_ % m = j := ⟨_, rfl⟩
  have hjm : j < m := by rw [← hj]; exact Nat.mod_lt _ HMB.out.1
  obtain ⟨g6, rfl, hcell, hfz, hgb, hgl⟩ := own_cell ho6 hjm
  have hxb := HGB.out _ (getD_mem (l := G) (d := j) (by rw [HM.out]; exact hjm))
  obtain ⟨x, hx⟩ : ∃ x : Nat, G.getD j 0 = (x : Int) := ⟨(G.getD j 0).toNat, by omega⟩
  obtain ⟨y, hy⟩ : ∃ y : Nat, x ^^^ by_ = y := ⟨_, rfl⟩
  have hxor : bits .xor .u8 (x : Int) (by_ : Int) = (y : Int) := by rw [u8_xor_nat x by_ (by omega) HBYL.out, hy]
  have hyb : y < 256 := by rw [← hy]; exact Nat.xor_lt_two_pow (n := 8) (by omega) HBYL.out
  have hwn2 : IntKind.i64.wrap (at_ : Int) = (at_ : Int) := IntWalk.i64_in _ (by have := HAT.out; omega)
  have hmod : (at_ : Int) % (m : Int) = (j : Int) := by rw [← hj]; simp
  have hmodt : Int.tmod (at_ : Int) (m : Int) = (j : Int) := by rw [Int.tmod_eq_emod_of_nonneg (by omega)]; exact hmod
  have hmz : ¬ ((m : Int) = 0) := by have := HMB.out; omega
  have hmz2 : ¬ (m = 0) := by have := HMB.out; omega
  have hj0 : (0 : Int) ≤ (j : Int) := by omega
  have hj1 : (j : Int) < (m : Int) := by omega
  have HJM := Lib.hid hjm
  have HYB := Lib.hid hyb
  rw [hx] at hcell
  have HO7 := Lib.hid (own_set ho6 (j := j) (y : Int))
  have HK7 : Hid (Keeps (fun _ => False) w5 (w6.setCell ⟨g6, j, none⟩ (.int .u8 (y : Int)))) := Lib.hid (HK6a.out.setCell (p := ⟨g6, j, none⟩) (.inr hgb) _)
  have HC6 := Lib.hid hc6
  clear HO6a ho6 hc6 hj hjm hgb hgl hxb hx hy hyb HAT HBYL HL5a HK5a HE5 HS5
  go_upto_region 8 with fail
  generalize w6.setCell ⟨g6, j, none⟩ (.int .u8 (y : Int)) = W7 at HO7 HK7 ⊢
  have HL7 := Lib.hid ((Lies.of_own HO5.out).keeps HK7.out (fun _ _ _ => id))
  have HKW : Hid (Keeps (fun _ => False) w W7) := Lib.hid (HK5.out.trans HK7.out)
  obtain ⟨T, hT⟩ : ∃ T, G.set j (y : Int) = T := ⟨_, rfl⟩
  rw [hT] at HO7
  have HTL : Hid (T.length = m) := by show _ = _; rw [← hT, List.length_set]; exact HM.out
  have HTB : Hid (Byt T) := by
    show Byt T
    rw [← hT]
    intro z hz
    rcases List.mem_or_eq_of_mem_set hz with hz | rfl
    · exact HGB.out z hz
    · have := HYB.out; omega
  have hjc0 : j ≤ c5 := by
    obtain ⟨_, _, he, hle⟩ := own_form HO5.out
    injection he with _ _ hcc
    have := HJM.out
    omega
  have hjc : (j : Int) ≤ (c5 : Int) := by omega
  have hcs0 := fun w => run_cut_to (P := Try.prog) 31 5 A5 m c5 j .i64 Try.underlying31 size_u8 hjc0 w
  have HL8 := Lib.hid (HL7.out.cutAt c5 0 j (by rw [HM.out]; obtain ⟨_, _, he, hle⟩ := own_form HO5.out; injection he with _ _ hcc; omega) (by rw [HM.out]; have := HJM.out; omega))
  generalize cutAt A5 c5 0 = A9 at hcs0 HL8
  have hmk : Lies (W7.alloc (.cells #[.int .u8 62, .int .u8 113, .int .u8 10] 5 (3, 4))) (some ⟨W7.heap.size, 0, none⟩) [62, 113, 10] := lies_lit W7 [62, 113, 10] (3, 4)
  have HMK := Lib.hid hmk
  have hcc : (convert 31 31 (.slice (some ⟨W7.heap.size, 0, none⟩) 3 3)).run Try.prog ((W7.alloc (.cells #[.int .u8 62, .int .u8 113, .int .u8 10] 5)).drew) = .ok (.slice (some ⟨W7.heap.size, 0, none⟩) 3 3) ((W7.alloc (.cells #[.int .u8 62, .int .u8 113, .int .u8 10] 5 (3, 4))).drew) :=
    Lib.run_convert_bytes_const (P := Try.prog) W7.drew 31 5 #[.int .u8 62, .int .u8 113, .int .u8 10] 3 3 Try.underlying31 Try.underlying5
  have HLB := Lib.hid (HL.out.keeps HKW.out (fun _ _ _ => id))
  have HKA : Hid (Keeps (fun _ => False) W7 (W7.alloc (.cells #[.int .u8 62, .int .u8 113, .int .u8 10] 5 (3, 4)))) := (Keeps.refl _ _).alloc _
  clear hT hjc0 hmk HYB hcell hfz hxor hj1
  go_region_law (have H0 := HMK
                 refine step_app3 (by rfl) _ _ (by rfl) W7.heap.size n0 c0 62 113 10 bs A0 (by rfl) (by exact HMK.out) (by rfl) (by exact HLB.out.keeps (HKA.out.drewN 1) (fun _ _ _ => id)) HX.out (by omega) ?_
                 intro A10 c10 w10 hl10 hc10 hk10
                 have HL10 := Lib.hid hl10
                 have HC10 := Lib.hid hc10
                 have HK10 : Hid (Keeps (fun _ => False) W7 w10) := Lib.hid ((HKA.out.drewN 1).trans hk10)
                 clear hl10 hc10 hk10 HMK H0)
  simp only [Act.put, List.getElem_toArray, List.getElem_cons_succ, List.getElem_cons_zero, List.setIfInBounds_toArray, List.set_cons_zero, List.set_cons_succ]
  go_wp2_with fail
  obtain ⟨GG, hGG⟩ : ∃ GG, w10.heap.size = GG := ⟨_, rfl⟩
  have HBB : Hid (Blk (w10.alloc (.cells #[.slice A0 n0 c0, .slice (some ⟨g6, 0, none⟩) m c6, .slice A9 j c5, .slice A10 (3 + n0) c10] 31)) w10.heap.size 31 #[.slice A0 n0 c0, .slice (some ⟨g6, 0, none⟩) m c6, .slice A9 j c5, .slice A10 (3 + n0) c10]) := Blk.new _ _ _
  have HKB : Hid (Keeps (fun _ => False) W7 (w10.alloc (.cells #[.slice A0 n0 c0, .slice (some ⟨g6, 0, none⟩) m c6, .slice A9 j c5, .slice A10 (3 + n0) c10] 31))) := HK10.out.alloc _
  have HK10a : Hid (Keeps (fun _ => False) w10 (w10.alloc (.cells #[.slice A0 n0 c0, .slice (some ⟨g6, 0, none⟩) m c6, .slice A9 j c5, .slice A10 (3 + n0) c10] 31))) := (Keeps.refl _ _).alloc _
  generalize w10.alloc (.cells #[.slice A0 n0 c0, .slice (some ⟨g6, 0, none⟩) m c6, .slice A9 j c5, .slice A10 (3 + n0) c10] 31) = WB at HBB HKB HK10a ⊢
  rw [hGG] at HBB
  have HKT : Hid (Keeps (fun _ => False) w WB) := Lib.hid (HKW.out.trans HKB.out)
  have HXX : Hid (∀ d, d < 4 → ∃ A n c xs, (#[Value.slice A0 n0 c0, .slice (some ⟨g6, 0, none⟩) m c6, .slice A9 j c5, .slice A10 (3 + n0) c10] : Array Value)[d]? = some (.slice A n c) ∧ xs.length = n ∧ n ≤ c ∧ n ≤ 1000 ∧ Lies WB A xs ∧ Byt xs) := by
    refine Lib.hid fun d hd => ?_
    have hcap5 : m ≤ c5 := by
      obtain ⟨_, _, he, hle⟩ := own_form HO5.out
      injection he with _ _ hcc
      omega
    match d, hd with
    | 0, _ => exact ⟨A0, n0, c0, bs, rfl, HX.out, HN0.out, by omega, HL.out.keeps HKT.out (fun _ _ _ => id), HB.out⟩
    | 1, _ => exact ⟨_, m, c6, T, rfl, HTL.out, HC6.out, by have := HMB.out; omega, (Lies.of_own HO7.out).keeps HKB.out (fun _ _ _ => id), HTB.out⟩
    | 2, _ => exact ⟨A9, j, c5, (G.drop 0).take j, rfl, by rw [List.drop_zero, List.length_take, HM.out]; have := HJM.out; omega, by have := HJM.out; omega, by have := HJM.out; have := HMB.out; omega, HL8.out.keeps HKB.out (fun _ _ _ => id), (HGB.out.drop 0).take j⟩
    | 3, _ => exact ⟨A10, 3 + n0, c10, [62, 113, 10] ++ bs, rfl, by rw [List.length_append, HX.out]; rfl, HC10.out, by omega, HL10.out.keeps HK10a.out (fun _ _ _ => id), Byt.app (fun x hx => by simp at hx; omega) HB.out⟩
  generalize (#[Value.slice A0 n0 c0, .slice (some ⟨g6, 0, none⟩) m c6, .slice A9 j c5, .slice A10 (3 + n0) c10] : Array Value) = CS at HBB HXX
  clear HKB HK10a HKW HL7 HTL HTB HO7 HK10 HO5 HK5 HK7 HM HMB HGB HJM HC6 HC10 HL8 HL10 HLB HKA HK1 hcs0 hcc
  rw [hGG]
  go_loopw [12, 13, 14, 52] (fun _ _ _ iv wr => ∃ d : Nat, iv = .int .i64 (d : Int) ∧ d ≤ 4 ∧ Hid (Keeps (fun _ => False) WB wr)) (fun _ _ _ iv _ => 4 - (intOf iv).toNat)
  case atStart => exact ⟨0, rfl, by omega, Lib.hid (Keeps.refl _ _)⟩
  case round =>
    obtain ⟨d, rfl, hd, HH⟩ := hrel
    by_cases hlt : d < 4
    · obtain ⟨A, n, c, xs, hcs, hxn, hnn, hnk, hli, hxb⟩ := HXX.out d hlt
      have hd0 : (0 : Int) ≤ (d : Int) := by omega
      have hd1 : (d : Int) < 4 := by omega
      have hcd : wr.cell? ⟨GG, d, none⟩ = some (.slice A n c) := by rw [(HBB.out.keeps HH.out id).cell, hcs]
      have HPA := Lib.hid (parse_ A n c xs wr hxn hnn (hli.keeps HH.out (fun _ _ _ => id)) hxb)
      have HLX := Lib.hid hli
      have HXN := Lib.hid hxn
      have HXB := Lib.hid hxb
      cases hT : parse xs with
      | error e0 =>
        have hne : (e0 != 0) = true := by simpa using parse_err hT
        have HPE : Hid (∀ r w', ParseR xs wr r w' → r = .returned (.tuple #[.agg #[.slice none 0 0], .int .i64 e0]) ∧ Keeps (fun _ => False) wr w') := Lib.hid (fun r w' h => by
          obtain ⟨hk, hm⟩ := h
          rw [hT] at hm
          exact ⟨hm, hk⟩)
        clear hcs hxn hnn hli hxb hT hlt hd hnk
        go_upto_region 12 with (
          go_at_call 10
          refine HPA.out.mono ?_
          intro r w8 hp
          obtain ⟨rfl, hk8⟩ := HPE.out _ _ hp
          have HK8 := Lib.hid (HH.out.trans hk8)
          clear hk8 hp HPA)
        go_wp2_with fail
        exact ⟨⟨d + 1, by go_num, by omega, Lib.hid (HK8.out.alloc _)⟩, by simp [intOf]; omega⟩
      | ok ps =>
        have hpk := parse_ok hT
        have HPO : Hid (∀ r w', ParseR xs wr r w' → (∃ A n c es, r = .returned (.tuple #[.agg #[.slice A n c], .int .i64 0]) ∧ IsRef w' A n es ∧ pairs es = ps) ∧ Keeps (fun _ => False) wr w') := Lib.hid (fun r w' h => by
          obtain ⟨hk, hm⟩ := h
          rw [hT] at hm
          exact ⟨hm, hk⟩)
        obtain ⟨sx, hsx⟩ : ∃ sx, strOfNums xs = sx := ⟨_, rfl⟩
        have HSX := Lib.hid hsx
        have HPK := Lib.hid hpk
        have HNK := Lib.hid hnk
        clear hcs hxn hnn hli hxb hT hsx hlt hd hpk hnk
        go_upto_region 15 with (
          go_at_call 10
          refine HPA.out.mono ?_
          intro r w8 hp
          obtain ⟨⟨A8, k8, c8, es8, rfl, hr8, hp8⟩, hk8⟩ := HPO.out _ _ hp
          have HR8 := Lib.hid hr8
          have HP8 := Lib.hid hp8
          have HK8 := Lib.hid (HH.out.trans hk8)
          clear hk8 hp HPA hr8 hp8)
        have HB8 := Lib.hid (Blk.new w8 29 #[.slice A8 k8 c8])
        have HKW8 : Hid (Keeps (fun _ => False) w8 (w8.alloc (.cells #[.slice A8 k8 c8] 29))) := (Keeps.refl _ _).alloc _
        generalize w8.alloc (.cells #[.slice A8 k8 c8] 29) = W8 at HB8 HKW8 ⊢
        obtain ⟨r8, hr8⟩ : ∃ r8, w8.heap.size = r8 := ⟨_, rfl⟩
        rw [hr8] at HB8 ⊢
        have HRW := Lib.hid (HR8.out.more HKW8.out)
        have HBW : Hid (Keeps (fun _ => False) WB W8) := Lib.hid (HK8.out.trans HKW8.out)
        have HCW : Hid (∀ W, Keeps (fun _ => False) W8 W → Calls Try.prog 12 #[.agg #[.slice A8 k8 c8]] W fun r w' => r = .returned (.int .i64 0) ∧ Keeps (fun _ => False) W w') := Lib.hid (fun W k => by
          have := check_ A8 k8 c8 es8 W (HRW.out.more k)
          unfold ChkR at this
          rw [HP8.out, HPK.out.2] at this
          exact this)
        have HTW : Hid (∀ W, Keeps (fun _ => False) W8 W → Calls Try.prog 11 #[.agg #[.slice A8 k8 c8]] W fun r w' => ∃ A c, r = .returned (.slice A n c) ∧ Lies w' A xs ∧ Keeps (fun _ => False) W w') := Lib.hid (fun W k => by
          have := text_ A8 k8 c8 es8 W (HRW.out.more k) (by rw [HP8.out, HPK.out.1, HXN.out]; have := HNK.out; omega)
          refine this.mono fun r w' h => ?_
          obtain ⟨A, c, h1, h2, h3⟩ := h
          rw [HP8.out, HPK.out.1] at h2
          rw [HP8.out, HPK.out.1, HXN.out] at h1
          exact ⟨A, c, h1, Lies.of_own h2, h3⟩)
        clear hr8
        have KD : Hid (Keeps (fun _ => False) W8 W8.drew) := (Keeps.refl (fun _ => False) W8).drewN 1
        refine wp_region_noPanic ?_
        refine wp_region_held_drew (S := fun w' => Keeps (fun _ => False) W8 w') (by kernel_rfl) KD.out (fun hHeld => ?_)
        refine wpAnyH_take (i := 0) (v := ?vz0x1) rfl (by kernel_rfl) (by kernel_rfl) (by kernel_rfl) (fun _ _ _ h => h) (Or.inl ⟨by rfl, ?yz0x1⟩) hHeld ?rz0x1
        case yz0x1 => (intro w' hSw; have f0 := (HB8.out.keeps hSw id).cell 0; go_simp; try with_reducible rfl)
        simp only [Act.put, List.getElem_toArray, List.getElem_cons_succ, List.getElem_cons_zero, List.setIfInBounds_toArray, List.set_cons_zero, List.set_cons_succ]
        refine wpAnyH_ready (rs := [1]) (by kernel_rfl) (by simp) ?_
        refine AllReadyH.cons rfl (fun KR hK => ?_) AllReadyH.nil
        go_simp
        refine (HCW.out _ hHeld).mono ?_
        rintro r w9 ⟨rfl, hk⟩
        dsimp only
        refine hK.out _ _ (hHeld.trans hk) (fun hHeld => ?_)
        clear hK KR hk
        try simp only [Act.put, List.getElem_toArray, List.getElem_cons_succ, List.getElem_cons_zero, List.setIfInBounds_toArray, List.set_cons_zero, List.set_cons_succ]
        refine wpAnyH_take (i := 2) (v := ?vz2x2) rfl (by kernel_rfl) (by kernel_rfl) (by kernel_rfl) (fun _ _ _ h => h) (Or.inl ⟨by rfl, ?yz2x2⟩) hHeld ?rz2x2
        case yz2x2 => (intro w' hSw; go_simp; try with_reducible rfl)
        simp only [Act.put, List.getElem_toArray, List.getElem_cons_succ, List.getElem_cons_zero, List.setIfInBounds_toArray, List.set_cons_zero, List.set_cons_succ]
        refine wpAnyH_take (i := 3) (v := ?vz3x3) rfl (by kernel_rfl) (by kernel_rfl) (by kernel_rfl) (fun _ _ _ h => h) (Or.inl ⟨by rfl, ?yz3x3⟩) hHeld ?rz3x3
        case yz3x3 => (intro w' hSw; go_simp; try with_reducible rfl)
        simp only [Act.put, List.getElem_toArray, List.getElem_cons_succ, List.getElem_cons_zero, List.setIfInBounds_toArray, List.set_cons_zero, List.set_cons_succ]
        refine wpAnyH_take (i := 4) (v := ?vz4x4) rfl (by kernel_rfl) (by kernel_rfl) (by kernel_rfl) (fun _ _ _ h => h) (Or.inl ⟨by rfl, ?yz4x4⟩) hHeld ?rz4x4
        case yz4x4 => (intro w' hSw; have f0 := (HB8.out.keeps hSw id).cell 0; go_simp; try with_reducible rfl)
        simp only [Act.put, List.getElem_toArray, List.getElem_cons_succ, List.getElem_cons_zero, List.setIfInBounds_toArray, List.set_cons_zero, List.set_cons_succ]
        refine wpAnyH_take (i := 7) (v := ?vz7x5) rfl (by kernel_rfl) (by kernel_rfl) (by kernel_rfl) (fun _ _ _ h => h) (Or.inl ⟨by rfl, ?yz7x5⟩) hHeld ?rz7x5
        case yz7x5 => (intro w' hSw; go_simp; try with_reducible rfl)
        simp only [Act.put, List.getElem_toArray, List.getElem_cons_succ, List.getElem_cons_zero, List.setIfInBounds_toArray, List.set_cons_zero, List.set_cons_succ]
        refine wpAnyH_take (i := 8) (v := ?vz8x6) rfl (by kernel_rfl) (by kernel_rfl) (by kernel_rfl) (fun _ _ _ h => h) (Or.inl ⟨by rfl, ?yz8x6⟩) hHeld ?rz8x6
        case yz8x6 => (intro w' hSw; have hcv := (HLX.out.keeps (HBW.out.trans hSw) (fun _ _ _ => id)).str_n (P := Try.prog) n HXN.out 31 9 5 c Try.underlying31 Try.underlying5 Try.underlying9; go_simp; try with_reducible rfl)
        simp only [Act.put, List.getElem_toArray, List.getElem_cons_succ, List.getElem_cons_zero, List.setIfInBounds_toArray, List.set_cons_zero, List.set_cons_succ]
        refine wpAnyH_ready (rs := [5]) (by kernel_rfl) (by simp) ?_
        refine AllReadyH.cons rfl (fun KR hK => ?_) AllReadyH.nil
        go_simp
        refine (HTW.out _ hHeld).mono ?_
        rintro r w9b ⟨A9b, c9b, rfl, hl9, hk⟩
        have HL9 := Lib.hid hl9
        have HK9 := Lib.hid (hHeld.trans hk)
        clear hl9
        dsimp only
        refine hK.out _ _ (hHeld.trans hk) (fun hHeld => ?_)
        clear hK KR hk
        try simp only [Act.put, List.getElem_toArray, List.getElem_cons_succ, List.getElem_cons_zero, List.setIfInBounds_toArray, List.set_cons_zero, List.set_cons_succ]
        refine Ao.wpAnyH_as (S' := fun w' => Keeps (fun _ => False) w9b w') (fun w' k => hHeld.trans k) _ _ _ _ ?_
        replace hHeld : Keeps (fun _ => False) w9b w9b := Keeps.refl _ _
        refine wpAnyH_take (i := 6) (v := ?vz6x7) rfl (by kernel_rfl) (by kernel_rfl) (by kernel_rfl) (fun _ _ _ h => h) (Or.inl ⟨by rfl, ?yz6x7⟩) hHeld ?rz6x7
        case yz6x7 => (intro w' hSw; have hcv := (HL9.out.keeps hSw (fun _ _ _ => id)).str_n (P := Try.prog) n HXN.out 31 9 5 c9b Try.underlying31 Try.underlying5 Try.underlying9; go_simp; try with_reducible rfl)
        simp only [Act.put, List.getElem_toArray, List.getElem_cons_succ, List.getElem_cons_zero, List.setIfInBounds_toArray, List.set_cons_zero, List.set_cons_succ]
        refine wpAnyH_take (i := 9) (v := ?vz9x8) rfl (by kernel_rfl) (by kernel_rfl) (by kernel_rfl) (fun _ _ _ h => h) (Or.inl ⟨by rfl, ?yz9x8⟩) hHeld ?rz9x8
        case yz9x8 => (intro w' hSw; go_simp; try with_reducible rfl)
        simp only [Act.put, List.getElem_toArray, List.getElem_cons_succ, List.getElem_cons_zero, List.setIfInBounds_toArray, List.set_cons_zero, List.set_cons_succ]
        refine wpAnyH_take (i := 10) (v := ?vz10x9) rfl (by kernel_rfl) (by kernel_rfl) (by kernel_rfl) (fun _ _ _ h => h) (Or.inl ⟨by rfl, ?yz10x9⟩) hHeld ?rz10x9
        case yz10x9 => (intro w' hSw; go_simp; try with_reducible rfl)
        simp only [Act.put, List.getElem_toArray, List.getElem_cons_succ, List.getElem_cons_zero, List.setIfInBounds_toArray, List.set_cons_zero, List.set_cons_succ]
        have HKF := Lib.hid hHeld
        refine wpAnyH_done (by kernel_rfl) ?_ _
        clear hHeld
        refine NoPanic.normal ?_
        go_wp2_with fail
        exact ⟨⟨d + 1, by go_num, by omega, Lib.hid (HBW.out.trans (HK9.out.trans HKF.out))⟩, by simp [intOf]; omega⟩
    · obtain rfl : d = 4 := by omega
      have hge : ¬ ((4 : Int) < 4) := by omega
      go_wp2_with fail
      go_ret
      exact ⟨rfl, HKT.out.trans HH.out⟩
end Go.Proofs.Ytbekdcakmeejaaa.Ct

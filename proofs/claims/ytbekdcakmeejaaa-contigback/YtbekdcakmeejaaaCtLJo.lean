/- The walk of the statement ContigJoins: any small numbers, any name, any numbers for letters. -/
import Derived.Test.YtbekdcakmeejaaaCtJo
import Derived.Test.YtbekdcakmeejaaaCtLAny
import Derived.Test.YtbekdcakmeejaaaCtLNm
import Derived.Deep.CutBlock
namespace Go.Proofs.Ytbekdcakmeejaaa.Ct
open Go.RowKit Go.Proofs.Ytbekdcakmeejaaa.Gen Go.Proofs.Ytbekdcakmeejaaa.Ca Go.Proofs.Ytbekdcakmeejaaa.Cl

def lt5 (x : Int) : Int := [65, 67, 71, 84, 78].getD (x.toNat % 5) 65
theorem lt5_ltr (x : Int) : ltr (lt5 x) = true := by
  have h : x.toNat % 5 < 5 := Nat.mod_lt _ (by decide)
  unfold lt5
  generalize x.toNat % 5 = q at h ⊢
  match q, h with
  | 0, _ => rfl
  | 1, _ => rfl
  | 2, _ => rfl
  | 3, _ => rfl
  | 4, _ => rfl
theorem lt5_at (x : Int) (q : Nat) (y : Int) (hq : x.toNat % 5 = q) (hy : lt5 x = y) (h : q < (⟨#[65, 67, 71, 84, 78]⟩ : ByteArray).size) : (((⟨#[65, 67, 71, 84, 78]⟩ : ByteArray)[q]'h).toNat : Int) = y := by
  have h5 : q < 5 := by rw [← hq]; exact Nat.mod_lt _ (by decide)
  unfold lt5 at hy
  rw [hq] at hy
  match q, h5 with
  | 0, _ => subst hy; rfl
  | 1, _ => subst hy; rfl
  | 2, _ => subst hy; rfl
  | 3, _ => subst hy; rfl
  | 4, _ => subst hy; rfl
/-- The letters so far. -/
def lts (xs : List Int) (j : Nat) : List Int := 65 :: (xs.take j).map lt5
theorem lts_succ {xs : List Int} {j : Nat} (h : j < xs.length) : lts xs (j + 1) = lts xs j ++ [lt5 (xs.getD j 0)] := by
  rw [lts, lts, List.take_succ_eq_append_getElem h, List.map_append, List.getD_eq_getElem?_getD, List.getElem?_eq_getElem h]
  rfl
theorem lts_len {xs : List Int} {j : Nat} (h : j ≤ xs.length) : (lts xs j).length = j + 1 := by simp [lts]; omega
theorem lts_all (xs : List Int) (j : Nat) : (lts xs j).all ltr = true := by
  rw [lts, List.all_cons]
  simp only [Bool.and_eq_true]
  refine ⟨rfl, ?_⟩
  rw [List.all_eq_true]
  intro y hy
  simp only [List.mem_map] at hy
  obtain ⟨x, _, rfl⟩ := hy
  exact lt5_ltr x
/-- Letters in a row of one's own, or in a text's constant that is full. -/
def Gro (base : Nat) (A : Option Addr) (n c : Nat) (ys : List Int) (w : World) : Prop :=
  ys.length = n ∧ n ≤ c ∧ Lies w A ys ∧ (w.ownsRow base 5 1 (.slice A n c) n (bv ys) ∨ (n = c ∧ A ≠ none))
theorem Gro.more {base n c : Nat} {A : Option Addr} {ys : List Int} {w w1 : World} (h : Gro base A n c ys w) (k : Keeps (fun _ => False) w w1) : Gro base A n c ys w1 :=
  ⟨h.1, h.2.1, h.2.2.1.keeps k (fun _ _ _ => id), h.2.2.2.elim (fun h => .inl (own_keeps h k (fun _ _ => id))) .inr⟩
theorem run_gro (base n c : Nat) (ty : TypeId) (A : Option Addr) (ys : List Int) (x : Int) (ad : Addr) (w w0 : World) (h : Gro base A n c ys w) (hx : Lies w (some ad) [x]) (h63 : n ≤ 1000000) (hbase : base ≤ w.heap.size) (h0 : Keeps (fun _ => False) w0 w) (hb0 : w0.heap.size ≤ base) :
    ∃ A' c' w', (Builtin.append_ #[31, 31] ty #[.slice A n c, .slice (some ad) 1 1]).run Try.prog w = .ok (.slice A' (n + 1) c') w' ∧ Gro base A' (n + 1) c' (ys ++ [x]) w' ∧ Keeps (fun _ => False) w0 w' ∧ w.heap.size ≤ w'.heap.size := by
  obtain ⟨i0, hi0, hz0, hz1, hz2⟩ := info_parts u8_info
  have ht : Try.prog.underlying 31 = some (.slice 5) := Try.underlying31
  obtain ⟨hl, hnc, hli, ho | ⟨rfl, hA⟩⟩ := h
  · obtain ⟨v', w', h1, h2, h3, _⟩ := run_app base n 1 1 ty (.slice A n c) ys [x] (some ad) w ho hx rfl (by omega) hbase
    obtain ⟨A', c', rfl, hc⟩ := own_form h2
    exact ⟨A', c', w', h1, ⟨by simp [hl], hc, Lies.of_own h2, .inl h2⟩, h0.grown h3 (fun k hk => .inr (by have := (ho.lt k hk).1; omega)), h3.size⟩
  · cases A with
    | none => exact absurd rfl hA
    | some b =>
      have hr := run_append_grow (P := Try.prog) w 31 ty 5 i0 _ ht hi0 hz0 b n n (bv ys) (by rw [hz1, bv_len]; omega) hli.news ad 1 1 (bv [x]) (by rw [hz1]; rfl) hx.news (by omega) (by omega) (by rw [hz2]; exact growslice_fits (by omega) (by omega))
      have hge := grownCap_ge w (n + 1) n 5
      have ho : (w.drew.alloc (.cells ((bv ys).toArray ++ (bv [x]).toArray ++ Builtin.zeroCells (Value.int .u8 0).cells (grownCap w (n + 1) n 5 - (n + 1))) 5)).ownsRow base 5 1 (.slice (some ⟨w.heap.size, 0, none⟩) (n + 1) (grownCap w (n + 1) n 5)) (n + 1) (bv (ys ++ [x])) := by
        refine ⟨by rw [bv_len]; simp [hl], .inr ⟨w.heap.size, _, _, rfl, hbase, heap_alloc_new w.drew _, hge, grownCap_le_maxLen w (n + 1) n 5 (by simp only [maxLen]; omega), ?_, ?_⟩⟩
        · have hz1 : (Value.int IntKind.u8 0).cells.size = 1 := rfl
          simp only [Array.size_append, List.size_toArray, size_zeroCells, hz1, bv_len, hl, List.length_singleton]
          omega
        · simp only [Array.toList_append]
          have hlen : (bv ys ++ bv [x]).length = (n + 1) * 1 := by simp [bv, hl]
          rw [← hlen, bv_append]
          exact List.take_left
      exact ⟨_, _, _, hr, ⟨by simp [hl], hge, Lies.of_own ho, .inl ho⟩, (h0.drewN 1).alloc _, by simp⟩
theorem wpList_gro {ops : Array Oper} {rest : List Oper} {o : Oper} {a : Act} {w : World} {Q : Exit → Act → World → Prop} (hgd : o.guard = none) (s x : Operand)
    (ho : o.op = .call { callee := .builtin .append, args := #[s, x], argTypes := #[31, 31] })
    (base n c : Nat) (A : Option Addr) (ys : List Int) (y : Int) (ad : Addr) (w0 : World) (hs : a.eval s = .slice A n c) (hx : a.eval x = .slice (some ad) 1 1) (h : Gro base A n c ys w) (hl : Lies w (some ad) [y]) (h63 : n ≤ 1000000) (hbase : base ≤ w.heap.size) (h0 : Keeps (fun _ => False) w0 w) (hb0 : w0.heap.size ≤ base)
    (hk : ∀ A' c' w', Gro base A' (n + 1) c' (ys ++ [y]) w' → Keeps (fun _ => False) w0 w' → w.heap.size ≤ w'.heap.size → wpList Try.prog ops Q rest (a.put o.dst (.slice A' (n + 1) c')) w') :
    wpList Try.prog ops Q (o :: rest) a w := by
  refine wpList_plain hgd fun K hK => ?_
  obtain ⟨A', c', w', hr, h1, h2, h3⟩ := run_gro base n c o.type A ys y ad w w0 h hl h63 hbase h0 hb0
  unfold Oper.wp execOp
  simp only [ho, resolve, invoke, builtin, Sem.run_bind, Sem.run_pure, Result.andThen_ok, List.map_toArray, List.map_cons, List.map_nil, hs, hx, hr]
  exact hK _ _ (hk A' c' w' h1 h2 h3)

theorem lies_far {w : World} {A X : Option Addr} {xs : List Int} {q n c : Nat} {t : TypeId} (h : Lies w A xs) (b : Blk w q t #[.slice X n c]) (u : Value) : Lies (w.setCell ⟨q, 0, none⟩ u) A xs := by
  rcases h with h | ⟨b0, o, rfl, hb, hc⟩
  · exact .inl h
  · by_cases e : b0 = q
    · subst e
      cases xs with
      | nil => exact .inl rfl
      | cons x l =>
        have h0 := hc 0 (by simp)
        rw [b.cell] at h0
        rcases o with _ | o
        · simp at h0
        · simp at h0
    · exact Lies.keeps (.inr ⟨b0, o, rfl, hb, hc⟩) ((Keeps.refl (fun j => j = q) w).setOwn 0 u) (fun b1 o1 h1 e1 => by injection h1 with h1; injection h1 with h1; exact e (h1.trans e1))
theorem isRef_far {w : World} {A X : Option Addr} {m q n c : Nat} {t : TypeId} {es : List Ct} (h : IsRef w A m es) (b : Blk w q t #[.slice X n c]) (u : Value) : IsRef (w.setCell ⟨q, 0, none⟩ u) A m es := by
  refine ⟨h.1, h.2.1, ?_, fun e he => ?_⟩
  · rcases h.2.2.1 with h1 | ⟨b0, o, rfl, hb, hc⟩
    · exact .inl h1
    · by_cases e : b0 = q
      · subst e
        cases es with
        | nil => exact .inl rfl
        | cons x l =>
          have h0 := hc 0 (by simp [cvs])
          rw [b.cell] at h0
          rcases o with _ | o
          · simp [cvs] at h0
          · simp [cvs] at h0
      · refine .inr ⟨b0, o, rfl, Nat.lt_of_lt_of_le hb ((Keeps.refl (fun j => j = q) w).setOwn 0 u).size, fun j hj => ?_⟩
        exact (((Keeps.refl (fun j => j = q) w).setOwn 0 u).cell (p := ⟨b0, o + j, none⟩) hb e).trans (hc j hj)
  · have hg := h.2.2.2 e he
    exact ⟨lies_far hg.lies b u, hg.bs, hg.bn, hg.ls, hg.ln⟩
theorem ref_end {W5 w : World} {Ar : Option Addr} {nr cr qa : Nat} {esr : List Ct} {E : Int} {X : List Pr} (k : Keeps (fun _ => False) W5 w) (b : Blk w qa 29 #[.slice none 0 0]) (hP : W5.heap.size ≤ qa) (h : E = 0 → IsRef w Ar nr esr ∧ pairs esr = X) :
    Keeps (fun _ => False) W5 (w.setCell ⟨qa, 0, none⟩ (.slice Ar nr cr)) ∧ Blk (w.setCell ⟨qa, 0, none⟩ (.slice Ar nr cr)) qa 29 #[.slice Ar nr cr] ∧ (E = 0 → IsRef (w.setCell ⟨qa, 0, none⟩ (.slice Ar nr cr)) Ar nr esr ∧ pairs esr = X) :=
  ⟨k.setCell (.inr hP) _, b.setCell 0 _, fun h0 => ⟨isRef_far (h h0).1 b _, (h h0).2⟩⟩
set_option maxHeartbeats 16000000 in
set_option maxRecDepth 100000 in
theorem joins_ (s : Sml) (nm : ByteArray) (A0 : Option Addr) (n0 c0 : Nat) (xs : List Int) (w : World) (hok : s.ok) (hs : nm.size ≤ maxLen) (hl : Lies w A0 xs) (hx : xs.length = n0) (hb : Byt xs) (hn : n0 ≤ maxLen) :
    Calls Try.prog 7 #[.agg s.cells, .string nm, .slice A0 n0 c0] w fun e w' => e = .returned (.bool true) ∧ Keeps (fun _ => False) w w' := by
  unfold maxLen at hs hn
  obtain ⟨W0, hW0⟩ : ∃ W0, W0 = w.alloc (.cells s.cells 25) := ⟨_, rfl⟩
  have hk0 : Keeps (fun _ => False) w W0 := by rw [hW0]; exact (Keeps.refl _ _).alloc _
  have hbx : Blk W0 w.heap.size 25 s.cells := by rw [hW0]; exact Blk.new _ _ _
  have HK0 := Lib.hid hk0
  have HBX := Lib.hid hbx
  have HL := Lib.hid hl
  have HX := Lib.hid hx
  have HB := Lib.hid hb
  have HAW := Lib.hid (Aw.awake (w := W0))
  have HSR := Lib.hid (fun W => sref_ s hok W)
  have HNL := Lib.hid (nums_len nm)
  obtain ⟨N, hN⟩ : ∃ N, s.n = N := ⟨_, rfl⟩
  have hN4 : 1 ≤ N ∧ N ≤ 4 := by
    rw [← hN]
    have := Nat.mod_lt s.K (show 0 < 4 by decide)
    unfold Sml.n
    omega
  obtain ⟨ps, hps⟩ : ∃ ps, s.ps N = ps := ⟨_, rfl⟩
  have HPC : Hid (chkL [] 0 ps = 0 ∧ ps.length = N ∧ tot ps ≤ N * 119 ∧ (text ps).length ≤ N * 130 ∧ (∀ p ∈ ps, 10 ∉ p.1 ∧ 10 ∉ p.2)) := by
    show _
    rw [← hps]
    exact ⟨ps_chkL s N hN4.2, ps_len s N, ps_tot s N, (ps_text s N).1, ps_no10 s N⟩
  have HN := Lib.hid hN
  have HPS := Lib.hid hps
  have HN4 := Lib.hid hN4
  clear hk0 hbx hl hx hb hok hN hps hN4
  obtain ⟨K, l0, l1, l2, l3, seed⟩ := s
  unfold Sml.cells at hW0 HBX HSR ⊢
  simp only at hW0 HBX HSR ⊢
  go_enter Try.func7, Try.ntmps7
  go_wp2_with fail
  rw [← hW0]
  obtain ⟨p0, hp0⟩ : ∃ p0, p0 = w.heap.size := ⟨_, rfl⟩
  rw [← hp0] at HBX ⊢
  clear hW0 hp0
  refine HAW.out.mono ?_
  rintro e w1 ⟨rfl, hk1⟩
  have HK1 := Lib.hid (HK0.out.trans hk1)
  have HBX1 := Lib.hid (HBX.out.keeps hk1 id)
  clear hk1 HAW HK0
  by_cases g1 : 100 < nm.size
  · have d1 : decide ((100 : Int) < (nm.size : Int)) = true := by simp; omega
    go_wp2
    go_ret
    exact ⟨rfl, HK1.out⟩
  have d1 : decide ((100 : Int) < (nm.size : Int)) = false := by simp; omega
  by_cases g2 : 100 < n0
  · have d2 : decide ((100 : Int) < (n0 : Int)) = true := by simp; omega
    go_wp2
    go_ret
    exact ⟨rfl, HK1.out⟩
  have d2 : decide ((100 : Int) < (n0 : Int)) = false := by simp; omega
  have hn1 : nm.size ≤ 100 := by omega
  have hn2 : n0 ≤ 100 := by omega
  clear g1 g2 hs hn
  go_wp2
  go_loop [7, 31] (fun _ iv => ∃ j : Nat, iv = .int .i64 (j : Int) ∧ j ≤ nm.size ∧ Hid (∀ i, i < j → (numsOf nm).getD i 0 ≠ 10)) (fun _ iv => nm.size - (intOf iv).toNat)
  case atStart => exact ⟨0, rfl, by omega, Lib.hid (fun i hi => by omega)⟩
  case round =>
    obtain ⟨j, rfl, hj, HI⟩ := hrel
    by_cases hlt : j < nm.size
    · have hg := nums_at nm j hlt
      have hlt' : (j : Int) < (nm.size : Int) := by omega
      have hjw : IntKind.i64.wrap ((j : Int) + 1) = (j : Int) + 1 := IntWalk.i64_in _ (by omega)
      obtain ⟨x, hx⟩ : ∃ x : Int, ((nm[j]'hlt).toNat : Int) = x := ⟨_, rfl⟩
      rw [hx] at hg
      have HG := Lib.hid hg
      clear hg
      by_cases h10 : x = 10
      · have d : (x == 10) = true := by simpa using h10
        clear h10
        go_wp2
        go_ret
        exact ⟨rfl, HK1.out⟩
      · have d : (x == 10) = false := by simpa using h10
        have H10 := Lib.hid h10
        clear h10
        go_wp2
        go_round
        case rel =>
          refine ⟨j + 1, by go_num, by omega, Lib.hid (fun i hi => ?_)⟩
          by_cases e : i = j
          · rw [e, HG.out]; exact H10.out
          · exact HI.out i (by omega)
        case measure => simp [intOf]; omega
    · have HNN : Hid (10 ∉ numsOf nm) := Lib.hid (fun h => by
        obtain ⟨i, hi, he⟩ := List.getElem_of_mem h
        have := HI.out i (by rw [HNL.out] at hi; omega)
        rw [List.getD_eq_getElem?_getD, List.getElem?_eq_getElem hi] at this
        exact this he)
      clear HI
      have a0 := HBX1.out.cell 0
      have a1 := HBX1.out.cell 1
      have a2 := HBX1.out.cell 2
      have a3 := HBX1.out.cell 3
      have a4 := HBX1.out.cell 4
      have a5 := HBX1.out.cell 5
      simp only [List.getElem?_toArray, List.getElem?_cons_zero, List.getElem?_cons_succ] at a0 a1 a2 a3 a4 a5
      clear HBX HBX1
      go_upto_region 12 with (
        go_at_call 9
        refine (HSR.out w1).mono ?_
        rintro e w2 ⟨A2, c2, es, rfl, hmine, hes, hk2⟩
        have HMI := Lib.hid hmine
        have HES := Lib.hid hes
        have HK2 := Lib.hid (HK1.out.trans hk2)
        rw [HN.out] at HMI HES ⊢
        clear hmine hes hk2 HSR)
      clear a0 a1 a2 a3 a4 a5
      have HB8 := Lib.hid (Blk.new w2 29 #[.slice A2 N c2])
      have HMA := Lib.hid (HMI.out.more ((Keeps.refl (fun _ => False) w2).alloc (.cells #[.slice A2 N c2] 29)))
      have HK3 := Lib.hid (HK2.out.alloc (.cells #[.slice A2 N c2] 29))
      have HZ3 : Hid (w2.heap.size < (w2.alloc (.cells #[.slice A2 N c2] 29)).heap.size) := by show _ < _; simp
      generalize w2.alloc (.cells #[.slice A2 N c2] 29) = w3 at HB8 HMA HK3 HZ3 ⊢
      obtain ⟨p8, hp8⟩ : ∃ p8, w2.heap.size = p8 := ⟨_, rfl⟩
      rw [hp8] at HB8 HZ3 ⊢
      have hcc := Lib.run_convert_bytes_const (P := Try.prog) w3 31 5 #[.int .u8 65] 1 1 Try.underlying31 Try.underlying5
      rw [show (#[Value.int .u8 65] : Array Value).size = 1 from rfl] at hcc
      have k4 := (Keeps.refl (fun _ => False) w3).alloc (.cells #[.int .u8 65] 5 (1, 2))
      have HGR : Hid (Gro w3.heap.size (some ⟨w3.heap.size, 0, none⟩) 1 1 [65] (w3.alloc (.cells #[.int .u8 65] 5 (1, 2)))) := ⟨rfl, by omega, lies_lit w3 [65] (1, 2), .inr ⟨rfl, by simp⟩⟩
      have HK4 := Lib.hid k4
      have HS4 : Hid (w3.heap.size ≤ (w3.alloc (.cells #[.int .u8 65] 5 (1, 2))).heap.size) := by show _ ≤ _; simp
      clear hp8 k4
      go_wp2
      obtain ⟨wo, rfl⟩ : ∃ wo, wo = w3 := ⟨_, rfl⟩
      go_loopw [9, 11, 45] (fun lv _ iv wr => ∃ (j : Nat) (A : Option Addr) (c : Nat), lv = .slice A (j + 1) c ∧ iv = .int .i64 (j : Int) ∧ j ≤ n0 ∧ Hid (Gro wo.heap.size A (j + 1) c (lts xs j) wr ∧ Keeps (fun _ => False) wo wr ∧ wo.heap.size ≤ wr.heap.size)) (fun _ _ iv _ => n0 - (intOf iv).toNat)
      case atStart => exact ⟨0, _, 1, rfl, rfl, by omega, Lib.hid ⟨HGR.out, HK4.out, HS4.out⟩⟩
      case round =>
        clear HGR HK4 HS4 hcc
        obtain ⟨k, A, c, rfl, rfl, hk, HH⟩ := hrel
        by_cases hkn : k < n0
        · obtain ⟨b, o, rfl, hb, hc⟩ := lies_at ((HL.out.keeps (HK3.out.trans HH.out.2.1) (fun _ _ _ => id))) (j := k) (by rw [HX.out]; exact hkn)
          obtain ⟨x, hx⟩ : ∃ x, xs.getD k 0 = x := ⟨_, rfl⟩
          rw [hx] at hc
          have hxb : 0 ≤ x := by rw [← hx]; exact (HB.out _ (getD_mem (by rw [HX.out]; exact hkn))).1
          have hkn' : (k : Int) < (n0 : Int) := by omega
          have hkw : IntKind.i64.wrap ((k : Int) + 1) = (k : Int) + 1 := IntWalk.i64_in _ (by omega)
          obtain ⟨q, hq⟩ : ∃ q, x.toNat % 5 = q := ⟨_, rfl⟩
          obtain ⟨y, hy⟩ : ∃ y, lt5 x = y := ⟨_, rfl⟩
          have hix := lt5_at x q y hq hy
          have hq5 : q < 5 := by omega
          have hq6 : x % 5 = (q : Int) := by omega
          have hq7 : x.tmod 5 = (q : Int) := by rw [Int.tmod_eq_emod_of_nonneg hxb]; exact hq6
          have hq8 : (q : Int) < 5 := by omega
          have HXX := Lib.hid hx
          have HY := Lib.hid hy
          have k5 := (Keeps.refl (fun _ => False) wr).alloc (.cells #[.int .u8 y] 5)
          have HG5 := Lib.hid (HH.out.1.more k5)
          have HK5 := Lib.hid (HH.out.2.1.trans k5)
          have HL5 := Lib.hid (lies_lit1 wr y)
          have HS5 : Hid (wo.heap.size ≤ (wr.alloc (.cells #[.int .u8 y] 5)).heap.size) := Lib.hid (Nat.le_trans HH.out.2.2 k5.size)
          clear hx hy hq k5
          go_wp2_with (at_builtin
                       refine wpList_gro rfl (.tmp 49) (.tmp 53) rfl wo.heap.size (k + 1) c A (lts xs k) y ⟨wr.heap.size, 0, none⟩ wo (by rfl) (by rfl) (by exact HG5.out) (by exact HL5.out) (by omega) (by exact HS5.out) (by exact HK5.out) (Nat.le_refl _) ?_
                       intro A6 c6 w6 hg6 hk6 hs6
                       have HG6 := Lib.hid hg6
                       have HK6 := Lib.hid hk6
                       have HS6 := Lib.hid hs6
                       clear hg6 hk6 hs6)
          clear hq6 hq7
          go_roundw
          case rel =>
            refine ⟨k + 1, A6, c6, rfl, by go_num, by omega, Lib.hid ⟨?_, HK6.out, Nat.le_trans HS5.out HS6.out⟩⟩
            rw [lts_succ (by rw [HX.out]; exact hkn), HXX.out, HY.out]
            exact HG6.out
          case measure => simp [intOf]; omega
        · obtain rfl : k = n0 := by omega
          go_upto_region 19 with fail
          have hkb := ((Keeps.refl (fun _ => False) wr).alloc (.cells #[.string nm, .slice A (k + 1) c] 33)).alloc (.cells #[.slice (some ⟨wr.heap.size, 0, none⟩) 1 1] 29)
          have bcon := Blk.new wr 33 #[.string nm, .slice A (k + 1) c]
          have bref := Blk.new (wr.alloc (.cells #[.string nm, .slice A (k + 1) c] 33)) 29 #[.slice (some ⟨wr.heap.size, 0, none⟩) 1 1]
          rw [show (wr.alloc (.cells #[.string nm, .slice A (k + 1) c] 33)).heap.size = wr.heap.size + 1 by simp] at bref
          have HLT : Hid ((lts xs k).length = k + 1) := Lib.hid (lts_len (by rw [HX.out]; exact Nat.le_refl _))
          obtain ⟨W5, hW5⟩ : ∃ W5, W5 = (wr.alloc (.cells #[.string nm, .slice A (k + 1) c] 33)).alloc (.cells #[.slice (some ⟨wr.heap.size, 0, none⟩) 1 1] 29) := ⟨_, rfl⟩
          have bc5 : Blk W5 wr.heap.size 33 #[.string nm, .slice A (k + 1) c] := by rw [hW5]; exact bcon.alloc _
          rw [← hW5] at hkb bref ⊢
          have hq : Good W5 ⟨numsOf nm, A, c, lts xs k⟩ := ⟨HH.out.1.2.2.1.keeps hkb (fun _ _ _ => id), all_byt (lts_all _ _), nums_byt nm, by show (lts xs k).length ≤ _; rw [HLT.out]; omega, by show (numsOf nm).length ≤ _; rw [HNL.out]; omega⟩
          have HRB : Hid (IsRef W5 (some ⟨wr.heap.size, 0, none⟩) 1 [⟨numsOf nm, A, c, lts xs k⟩]) := Lib.hid (isRef_blk bc5 (by simp [cvs, str_nums, Ct.v, HLT.out]) rfl (by omega) (fun e he => by simp at he; rw [he]; exact hq))
          have HB12 := Lib.hid bref
          have HKW : Hid (Keeps (fun _ => False) wo W5) := Lib.hid (HH.out.2.1.trans hkb)
          have HMA5 := Lib.hid (HMA.out.more HKW.out)
          have HB85 := Lib.hid (HB8.out.keeps HKW.out id)
          obtain ⟨p12, hp12⟩ : ∃ p12, wr.heap.size + 1 = p12 := ⟨_, rfl⟩
          obtain ⟨rb, hrb⟩ : ∃ rb, wr.heap.size = rb := ⟨_, rfl⟩
          rw [hp12] at HB12 ⊢
          rw [hrb] at HRB HB12 ⊢
          clear hkb bcon bref hW5 bc5 hq hp12 hrb
          obtain ⟨ma, hma⟩ : ∃ ma, (text ps).length = ma := ⟨_, rfl⟩
          obtain ⟨mb, hmb⟩ : ∃ mb, (text [(numsOf nm, lts xs k)]).length = mb := ⟨_, rfl⟩
          have HMA2 : Hid (ma ≤ 520) := by
            show ma ≤ 520
            have h1 := HPC.out.2.2.2.1
            have h2 := HN4.out
            omega
          have HMB2 : Hid (mb ≤ 300) := by
            show mb ≤ 300
            rw [← hmb, text_one, line_len]
            simp only [HLT.out, HNL.out]
            omega
          have HMB := Lib.hid hmb
          have HPSE : Hid (pairs es = ps) := Lib.hid (HES.out.trans HPS.out)
          have HTA : Hid (∀ W, Keeps (fun _ => False) W5 W → Calls Try.prog 11 #[.agg #[.slice A2 N c2]] W fun r w' => ∃ A c, r = .returned (.slice A ma c) ∧ w'.ownsRow W5.heap.size 5 1 (.slice A ma c) ma (bv (text ps)) ∧ Keeps (fun _ => False) W w') := Lib.hid (fun W kW => by
            have := text_ A2 N c2 es W ((HMA5.out.isRef (by have := HN4.out; omega)).more kW) (by rw [HPSE.out, hma]; have := HMA2.out; omega)
            refine this.mono fun r w' h => ?_
            obtain ⟨A, c, h1, h2, h3⟩ := h
            rw [HPSE.out, hma] at h1 h2
            exact ⟨A, c, h1, own_base h2 kW.size, h3⟩)
          have HTB : Hid (∀ W, Keeps (fun _ => False) W5 W → Calls Try.prog 11 #[.agg #[.slice (some ⟨rb, 0, none⟩) 1 1]] W fun r w' => ∃ A c, r = .returned (.slice A mb c) ∧ Lies w' A (text [(numsOf nm, lts xs k)]) ∧ Keeps (fun _ => False) W w') := Lib.hid (fun W kW => by
            have := text_ _ 1 1 _ W (HRB.out.more kW) (by rw [show pairs [⟨numsOf nm, A, c, lts xs k⟩] = [(numsOf nm, lts xs k)] from rfl, hmb]; have := HMB2.out; omega)
            refine this.mono fun r w' h => ?_
            obtain ⟨A', c', h1, h2, h3⟩ := h
            rw [show pairs [⟨numsOf nm, A, c, lts xs k⟩] = [(numsOf nm, lts xs k)] from rfl] at h1 h2
            rw [hmb] at h1 h2
            exact ⟨A', c', h1, Lies.of_own h2, h3⟩)
          obtain ⟨E, hE⟩ : ∃ E, chk (ps ++ [(numsOf nm, lts xs k)]) = E := ⟨_, rfl⟩
          have hPX : parse (text (ps ++ [(numsOf nm, lts xs k)])) = if E = 0 then .ok (ps ++ [(numsOf nm, lts xs k)]) else .error E := by
            rw [parse_text, hE]
            · rw [text_app, List.length_append, hma, hmb]
              have := HMA2.out
              have := HMB2.out
              omega
            · intro p hp
              rcases List.mem_append.1 hp with h | h
              · exact HPC.out.2.2.2.2 p h
              · simp at h
                subst h
                refine ⟨HNN.out, fun h => ?_⟩
                have := lts_all xs k
                rw [List.all_eq_true] at this
                have := this _ h
                simp [ltr] at this
          have HPA : Hid (∀ W A c, Lies W A (text (ps ++ [(numsOf nm, lts xs k)])) → ma + mb ≤ c → Calls Try.prog 10 #[.slice A (ma + mb) c] W fun r w' => ∃ Ar nr cr esr, r = .returned (.tuple #[.agg #[.slice Ar nr cr], .int .i64 E]) ∧ (E = 0 → IsRef w' Ar nr esr ∧ pairs esr = ps ++ [(numsOf nm, lts xs k)]) ∧ Keeps (fun _ => False) W w') := Lib.hid (fun W A c hL hc => by
            have hb : Byt (text (ps ++ [(numsOf nm, lts xs k)])) := by
              refine text_byt fun p hp => ?_
              rcases List.mem_append.1 hp with h | h
              · rw [← HPS.out] at h
                obtain ⟨i, _, rfl⟩ := ps_mem h
                exact ⟨nm_byt i, all_byt (letters_all _ _)⟩
              · simp at h
                subst h
                exact ⟨nums_byt nm, all_byt (lts_all _ _)⟩
            have := parse_ A (ma + mb) c _ W (by rw [text_app, List.length_append, hma, hmb]) hc hL hb
            refine this.mono fun r w' h => ?_
            obtain ⟨h1, h2⟩ := h
            rw [hPX] at h2
            by_cases h0 : E = 0
            · rw [if_pos h0] at h2
              obtain ⟨A, n, c, es, h3, h4, h5⟩ := h2
              rw [h0]
              exact ⟨A, n, c, es, h3, fun _ => ⟨h4, h5⟩, h1⟩
            · rw [if_neg h0] at h2
              exact ⟨none, 0, 0, [], h2, fun h => absurd h h0, h1⟩)
          have HE := Lib.hid hE
          clear hma hmb hE hPX
          have KD : Hid (Keeps (fun _ => False) W5 W5.drew) := (Keeps.refl (fun _ => False) W5).drewN 1
          go_cut [13, 14] from 61 to 69 (fun v13 v14 wx => ∃ P Ar nr cr esr, v13 = .pointer (some ⟨P, 0, none⟩) ∧ v14 = .int .i64 E ∧ Hid (Keeps (fun _ => False) W5 wx ∧ Blk wx P 29 #[.slice Ar nr cr] ∧ (E = 0 → IsRef wx Ar nr esr ∧ pairs esr = ps ++ [(numsOf nm, lts xs k)])))
          case first =>
            refine wp_region_noPanic ?_
            refine wp_region_held_drew (S := fun w' => Keeps (fun _ => False) W5 w') (by kernel_rfl) KD.out (fun hHeld => ?_)
            generalize W5.drew = wd at hHeld ⊢
            refine wpAnyH_take (i := 0) (v := ?vz0x1) rfl (by kernel_rfl) (by kernel_rfl) (by kernel_rfl) (fun _ _ _ h => h) (Or.inl ⟨by rfl, ?yz0x1⟩) hHeld ?rz0x1
            case yz0x1 => (intro w' hSw; have f0 := (HB85.out.keeps hSw id).cell 0; go_simp; try with_reducible rfl)
            simp only [Act.put, List.getElem_toArray, List.getElem_cons_succ, List.getElem_cons_zero, List.setIfInBounds_toArray, List.set_cons_zero, List.set_cons_succ]
            refine wpAnyH_take (i := 2) (v := ?vz2x2) rfl (by kernel_rfl) (by kernel_rfl) (by kernel_rfl) (fun _ _ _ h => h) (Or.inl ⟨by rfl, ?yz2x2⟩) hHeld ?rz2x2
            case yz2x2 => (intro w' hSw; have f0 := (HB12.out.keeps hSw id).cell 0; go_simp; try with_reducible rfl)
            simp only [Act.put, List.getElem_toArray, List.getElem_cons_succ, List.getElem_cons_zero, List.setIfInBounds_toArray, List.set_cons_zero, List.set_cons_succ]
            refine wpAnyH_ready (rs := [1, 9]) (by kernel_rfl) (by simp) ?_
            refine AllReadyH.cons rfl (fun KR hK => ?_) (AllReadyH.cons rfl (fun KR hK => ?_) AllReadyH.nil)
            · go_simp
              refine (HTA.out _ hHeld).mono ?_
              rintro r w5 ⟨A5, c5, rfl, ho5, hk⟩
              have HO63 := Lib.hid ho5
              clear ho5
              dsimp only
              refine hK.out _ _ (hHeld.trans hk) (fun hHeld => ?_)
              clear hK KR hk
              try simp only [Act.put, List.getElem_toArray, List.getElem_cons_succ, List.getElem_cons_zero, List.setIfInBounds_toArray, List.set_cons_zero, List.set_cons_succ]
              refine wpAnyH_ready (rs := [3, 9]) (by kernel_rfl) (by simp) ?_
              refine AllReadyH.cons rfl (fun KR hK => ?_) (AllReadyH.cons rfl (fun KR hK => ?_) AllReadyH.nil)
              · go_simp
                refine (HTB.out _ hHeld).mono ?_
                rintro r w6 ⟨B6, d6, rfl, hl6, hk⟩
                have HL65 := Lib.hid hl6
                clear hl6
                replace HO63 := Lib.hid (own_keeps (S := fun _ => False) HO63.out hk (fun _ _ => id))
                dsimp only
                refine hK.out _ _ (hHeld.trans hk) (fun hHeld => ?_)
                clear hK KR hk
                try simp only [Act.put, List.getElem_toArray, List.getElem_cons_succ, List.getElem_cons_zero, List.setIfInBounds_toArray, List.set_cons_zero, List.set_cons_succ]
                refine wpAnyH_ready (rs := [4, 9]) (by kernel_rfl) (by simp) ?_
                refine AllReadyH.cons rfl (fun KR hK => ?_) (AllReadyH.cons rfl (fun KR hK => ?_) AllReadyH.nil)
                · refine step_app (by rfl) _ _ (by rfl) W5.heap.size ma mb d6 (.slice A5 ma c5) (text ps) (text [(numsOf nm, lts xs k)]) B6 (by rfl) (by exact HO63.out) (by rfl) (by exact HL65.out) HMB.out (by have := HMA2.out; have := HMB2.out; omega) (by exact hHeld.size) ?_
                  intro v7 w7 ho7 hg7 _
                  rw [← text_app] at ho7
                  obtain ⟨A7, c7, rfl, hc7⟩ := own_form ho7
                  have HL66 := Lib.hid (Lies.of_own ho7)
                  have HC66 := Lib.hid hc7
                  have hk := (Keeps.refl (fun j => (Value.slice A5 ma c5).ownBlock = some j) _).grown hg7 (fun j hj => .inl hj)
                  have hk0 := hHeld.grown hg7 (fun j hj => .inr (HO63.out.lt j hj).1)
                  clear ho7 hg7 hc7
                  refine hK.out _ _ hk0 (fun hHeld => ?_)
                  clear hK KR hk hk0 HO63 HL65
                  try simp only [Act.put, List.getElem_toArray, List.getElem_cons_succ, List.getElem_cons_zero, List.setIfInBounds_toArray, List.set_cons_zero, List.set_cons_succ]
                  refine wpAnyH_ready (rs := [5, 9]) (by kernel_rfl) (by simp) ?_
                  refine AllReadyH.cons rfl (fun KR hK => ?_) (AllReadyH.cons rfl (fun KR hK => ?_) AllReadyH.nil)
                  · go_simp
                    refine (HPA.out _ A7 c7 HL66.out HC66.out).mono ?_
                    rintro r w8 ⟨Ar, nr, cr, esr, rfl, hpr, hk⟩
                    have HPR := Lib.hid hpr
                    clear hpr
                    replace HL66 := Lib.hid (HL66.out.keeps hk (fun _ _ _ => id))
                    dsimp only
                    refine hK.out _ _ (hHeld.trans hk) (fun hHeld => ?_)
                    clear hK KR hk
                    try simp only [Act.put, List.getElem_toArray, List.getElem_cons_succ, List.getElem_cons_zero, List.setIfInBounds_toArray, List.set_cons_zero, List.set_cons_succ]
                    refine wpAnyH_take (i := 6) (v := ?vz6q1) rfl (by kernel_rfl) (by kernel_rfl) (by kernel_rfl) (fun _ _ _ h => h) (Or.inl ⟨by rfl, ?yz6q1⟩) hHeld ?rz6q1
                    case yz6q1 => (intro w' hSw; go_simp; try with_reducible rfl)
                    simp only [Act.put, List.getElem_toArray, List.getElem_cons_succ, List.getElem_cons_zero, List.setIfInBounds_toArray, List.set_cons_zero, List.set_cons_succ]
                    refine wpAnyH_take (i := 7) (v := ?vz7q2) rfl (by kernel_rfl) (by kernel_rfl) (by kernel_rfl) (fun _ _ _ h => h) (Or.inl ⟨by rfl, ?yz7q2⟩) hHeld ?rz7q2
                    case yz7q2 => (intro w' hSw; go_simp; try with_reducible rfl)
                    simp only [Act.put, List.getElem_toArray, List.getElem_cons_succ, List.getElem_cons_zero, List.setIfInBounds_toArray, List.set_cons_zero, List.set_cons_succ]
                    refine wpAnyH_take (i := 8) (v := ?vz8q3) rfl (by kernel_rfl) (by kernel_rfl) (by kernel_rfl) (fun _ _ _ h => h) (Or.inl ⟨by rfl, ?yz8q3⟩) hHeld ?rz8q3
                    case yz8q3 => (intro w' hSw; go_simp; try with_reducible rfl)
                    simp only [Act.put, List.getElem_toArray, List.getElem_cons_succ, List.getElem_cons_zero, List.setIfInBounds_toArray, List.set_cons_zero, List.set_cons_succ]
                    refine wpAnyH_ready (rs := [9]) (by kernel_rfl) (by simp) ?_
                    refine AllReadyH.cons rfl (fun KR hK => ?_) AllReadyH.nil
                    go_simp
                    have hk := (Keeps.refl (fun _ => False) (w8)).alloc (.cells #[.slice none 0 0] 29)
                    have HAL := Lib.hid (Blk.new (w8) 29 #[.slice none 0 0])
                    have HALP : Hid (W5.heap.size ≤ (w8).heap.size) := Lib.hid hHeld.size
                    refine hK.out _ _ (hHeld.trans hk) (fun hHeld => ?_)
                    clear hK KR
                    try simp only [Act.put, List.getElem_toArray, List.getElem_cons_succ, List.getElem_cons_zero, List.setIfInBounds_toArray, List.set_cons_zero, List.set_cons_succ]
                    generalize (w8).alloc (.cells #[.slice none 0 0] 29) = wa at hk HAL hHeld ⊢
                    obtain ⟨qa, hqa⟩ : ∃ q, (w8).heap.size = q := ⟨_, rfl⟩
                    rw [hqa] at HAL HALP ⊢
                    clear hqa
                    replace HPR := Lib.hid (fun h => And.intro ((HPR.out h).1.more hk) (HPR.out h).2)
                    clear hk
                    have f0 := HAL.out.frozen 0
                    have e0 := HAL.out.cell 0
                    refine wpAnyH_ready (rs := [10]) (by kernel_rfl) (by simp) ?_
                    refine AllReadyH.cons rfl (fun KR hK => ?_) AllReadyH.nil
                    go_simp
                    have HFIN := Lib.hid (ref_end (cr := cr) hHeld HAL.out HALP.out HPR.out)
                    have hS9 := HFIN.out.1
                    refine hK.out _ _ hS9 (fun hHeld => ?_)
                    clear hK KR
                    try simp only [Act.put, List.getElem_toArray, List.getElem_cons_succ, List.getElem_cons_zero, List.setIfInBounds_toArray, List.set_cons_zero, List.set_cons_succ]
                    refine wpAnyH_take (i := 11) (v := ?vz11q4) rfl (by kernel_rfl) (by kernel_rfl) (by kernel_rfl) (fun _ _ _ h => h) (Or.inl ⟨by rfl, ?yz11q4⟩) hHeld ?rz11q4
                    case yz11q4 => (intro w' hSw; go_simp; try with_reducible rfl)
                    simp only [Act.put, List.getElem_toArray, List.getElem_cons_succ, List.getElem_cons_zero, List.setIfInBounds_toArray, List.set_cons_zero, List.set_cons_succ]
                    refine wpAnyH_done (by kernel_rfl) ?_ _
                    clear hHeld
                    refine NoPanic.normal ?_
                    go_wp2_with fail
                    go_meet
                    exact ⟨qa, Ar, nr, cr, esr, rfl, rfl, HFIN⟩
                  · go_simp
                    have hk := (Keeps.refl (fun _ => False) (w7)).alloc (.cells #[.slice none 0 0] 29)
                    have HAL := Lib.hid (Blk.new (w7) 29 #[.slice none 0 0])
                    have HALP : Hid (W5.heap.size ≤ (w7).heap.size) := Lib.hid hHeld.size
                    refine hK.out _ _ (hHeld.trans hk) (fun hHeld => ?_)
                    clear hK KR
                    try simp only [Act.put, List.getElem_toArray, List.getElem_cons_succ, List.getElem_cons_zero, List.setIfInBounds_toArray, List.set_cons_zero, List.set_cons_succ]
                    generalize (w7).alloc (.cells #[.slice none 0 0] 29) = wa at hk HAL hHeld ⊢
                    obtain ⟨qa, hqa⟩ : ∃ q, (w7).heap.size = q := ⟨_, rfl⟩
                    rw [hqa] at HAL HALP ⊢
                    clear hqa
                    replace HL66 := Lib.hid (HL66.out.keeps hk (fun _ _ _ => id))
                    clear hk
                    refine wpAnyH_ready (rs := [5]) (by kernel_rfl) (by simp) ?_
                    refine AllReadyH.cons rfl (fun KR hK => ?_) AllReadyH.nil
                    go_simp
                    refine (HPA.out _ A7 c7 HL66.out HC66.out).mono ?_
                    rintro r w8 ⟨Ar, nr, cr, esr, rfl, hpr, hk⟩
                    have HPR := Lib.hid hpr
                    clear hpr
                    replace HL66 := Lib.hid (HL66.out.keeps hk (fun _ _ _ => id))
                    replace HAL := Lib.hid (HAL.out.keeps hk id)
                    dsimp only
                    refine hK.out _ _ (hHeld.trans hk) (fun hHeld => ?_)
                    clear hK KR hk
                    try simp only [Act.put, List.getElem_toArray, List.getElem_cons_succ, List.getElem_cons_zero, List.setIfInBounds_toArray, List.set_cons_zero, List.set_cons_succ]
                    refine wpAnyH_take (i := 6) (v := ?vz6q5) rfl (by kernel_rfl) (by kernel_rfl) (by kernel_rfl) (fun _ _ _ h => h) (Or.inl ⟨by rfl, ?yz6q5⟩) hHeld ?rz6q5
                    case yz6q5 => (intro w' hSw; go_simp; try with_reducible rfl)
                    simp only [Act.put, List.getElem_toArray, List.getElem_cons_succ, List.getElem_cons_zero, List.setIfInBounds_toArray, List.set_cons_zero, List.set_cons_succ]
                    refine wpAnyH_take (i := 7) (v := ?vz7q6) rfl (by kernel_rfl) (by kernel_rfl) (by kernel_rfl) (fun _ _ _ h => h) (Or.inl ⟨by rfl, ?yz7q6⟩) hHeld ?rz7q6
                    case yz7q6 => (intro w' hSw; go_simp; try with_reducible rfl)
                    simp only [Act.put, List.getElem_toArray, List.getElem_cons_succ, List.getElem_cons_zero, List.setIfInBounds_toArray, List.set_cons_zero, List.set_cons_succ]
                    refine wpAnyH_take (i := 8) (v := ?vz8q7) rfl (by kernel_rfl) (by kernel_rfl) (by kernel_rfl) (fun _ _ _ h => h) (Or.inl ⟨by rfl, ?yz8q7⟩) hHeld ?rz8q7
                    case yz8q7 => (intro w' hSw; go_simp; try with_reducible rfl)
                    simp only [Act.put, List.getElem_toArray, List.getElem_cons_succ, List.getElem_cons_zero, List.setIfInBounds_toArray, List.set_cons_zero, List.set_cons_succ]
                    have f0 := HAL.out.frozen 0
                    have e0 := HAL.out.cell 0
                    refine wpAnyH_ready (rs := [10]) (by kernel_rfl) (by simp) ?_
                    refine AllReadyH.cons rfl (fun KR hK => ?_) AllReadyH.nil
                    go_simp
                    have HFIN := Lib.hid (ref_end (cr := cr) hHeld HAL.out HALP.out HPR.out)
                    have hS9 := HFIN.out.1
                    refine hK.out _ _ hS9 (fun hHeld => ?_)
                    clear hK KR
                    try simp only [Act.put, List.getElem_toArray, List.getElem_cons_succ, List.getElem_cons_zero, List.setIfInBounds_toArray, List.set_cons_zero, List.set_cons_succ]
                    refine wpAnyH_take (i := 11) (v := ?vz11q8) rfl (by kernel_rfl) (by kernel_rfl) (by kernel_rfl) (fun _ _ _ h => h) (Or.inl ⟨by rfl, ?yz11q8⟩) hHeld ?rz11q8
                    case yz11q8 => (intro w' hSw; go_simp; try with_reducible rfl)
                    simp only [Act.put, List.getElem_toArray, List.getElem_cons_succ, List.getElem_cons_zero, List.setIfInBounds_toArray, List.set_cons_zero, List.set_cons_succ]
                    refine wpAnyH_done (by kernel_rfl) ?_ _
                    clear hHeld
                    refine NoPanic.normal ?_
                    go_wp2_with fail
                    go_meet
                    exact ⟨qa, Ar, nr, cr, esr, rfl, rfl, HFIN⟩
                · go_simp
                  have hk := (Keeps.refl (fun _ => False) (w6)).alloc (.cells #[.slice none 0 0] 29)
                  have HAL := Lib.hid (Blk.new (w6) 29 #[.slice none 0 0])
                  have HALP : Hid (W5.heap.size ≤ (w6).heap.size) := Lib.hid hHeld.size
                  refine hK.out _ _ (hHeld.trans hk) (fun hHeld => ?_)
                  clear hK KR
                  try simp only [Act.put, List.getElem_toArray, List.getElem_cons_succ, List.getElem_cons_zero, List.setIfInBounds_toArray, List.set_cons_zero, List.set_cons_succ]
                  generalize (w6).alloc (.cells #[.slice none 0 0] 29) = wa at hk HAL hHeld ⊢
                  obtain ⟨qa, hqa⟩ : ∃ q, (w6).heap.size = q := ⟨_, rfl⟩
                  rw [hqa] at HAL HALP ⊢
                  clear hqa
                  replace HO63 := Lib.hid (own_keeps (S := fun _ => False) HO63.out hk (fun _ _ => id))
                  replace HL65 := Lib.hid (HL65.out.keeps hk (fun _ _ _ => id))
                  clear hk
                  refine wpAnyH_ready (rs := [4]) (by kernel_rfl) (by simp) ?_
                  refine AllReadyH.cons rfl (fun KR hK => ?_) AllReadyH.nil
                  refine step_app (by rfl) _ _ (by rfl) W5.heap.size ma mb d6 (.slice A5 ma c5) (text ps) (text [(numsOf nm, lts xs k)]) B6 (by rfl) (by exact HO63.out) (by rfl) (by exact HL65.out) HMB.out (by have := HMA2.out; have := HMB2.out; omega) (by exact hHeld.size) ?_
                  intro v7 w7 ho7 hg7 _
                  rw [← text_app] at ho7
                  obtain ⟨A7, c7, rfl, hc7⟩ := own_form ho7
                  have HL66 := Lib.hid (Lies.of_own ho7)
                  have HC66 := Lib.hid hc7
                  have hk := (Keeps.refl (fun j => (Value.slice A5 ma c5).ownBlock = some j) _).grown hg7 (fun j hj => .inl hj)
                  have hk0 := hHeld.grown hg7 (fun j hj => .inr (HO63.out.lt j hj).1)
                  clear ho7 hg7 hc7
                  replace HAL := Lib.hid (HAL.out.keeps hk (fun e => own_ne HO63.out HAL.out (by decide) e))
                  refine hK.out _ _ hk0 (fun hHeld => ?_)
                  clear hK KR hk hk0 HO63 HL65
                  try simp only [Act.put, List.getElem_toArray, List.getElem_cons_succ, List.getElem_cons_zero, List.setIfInBounds_toArray, List.set_cons_zero, List.set_cons_succ]
                  refine wpAnyH_ready (rs := [5]) (by kernel_rfl) (by simp) ?_
                  refine AllReadyH.cons rfl (fun KR hK => ?_) AllReadyH.nil
                  go_simp
                  refine (HPA.out _ A7 c7 HL66.out HC66.out).mono ?_
                  rintro r w8 ⟨Ar, nr, cr, esr, rfl, hpr, hk⟩
                  have HPR := Lib.hid hpr
                  clear hpr
                  replace HL66 := Lib.hid (HL66.out.keeps hk (fun _ _ _ => id))
                  replace HAL := Lib.hid (HAL.out.keeps hk id)
                  dsimp only
                  refine hK.out _ _ (hHeld.trans hk) (fun hHeld => ?_)
                  clear hK KR hk
                  try simp only [Act.put, List.getElem_toArray, List.getElem_cons_succ, List.getElem_cons_zero, List.setIfInBounds_toArray, List.set_cons_zero, List.set_cons_succ]
                  refine wpAnyH_take (i := 6) (v := ?vz6q9) rfl (by kernel_rfl) (by kernel_rfl) (by kernel_rfl) (fun _ _ _ h => h) (Or.inl ⟨by rfl, ?yz6q9⟩) hHeld ?rz6q9
                  case yz6q9 => (intro w' hSw; go_simp; try with_reducible rfl)
                  simp only [Act.put, List.getElem_toArray, List.getElem_cons_succ, List.getElem_cons_zero, List.setIfInBounds_toArray, List.set_cons_zero, List.set_cons_succ]
                  refine wpAnyH_take (i := 7) (v := ?vz7q10) rfl (by kernel_rfl) (by kernel_rfl) (by kernel_rfl) (fun _ _ _ h => h) (Or.inl ⟨by rfl, ?yz7q10⟩) hHeld ?rz7q10
                  case yz7q10 => (intro w' hSw; go_simp; try with_reducible rfl)
                  simp only [Act.put, List.getElem_toArray, List.getElem_cons_succ, List.getElem_cons_zero, List.setIfInBounds_toArray, List.set_cons_zero, List.set_cons_succ]
                  refine wpAnyH_take (i := 8) (v := ?vz8q11) rfl (by kernel_rfl) (by kernel_rfl) (by kernel_rfl) (fun _ _ _ h => h) (Or.inl ⟨by rfl, ?yz8q11⟩) hHeld ?rz8q11
                  case yz8q11 => (intro w' hSw; go_simp; try with_reducible rfl)
                  simp only [Act.put, List.getElem_toArray, List.getElem_cons_succ, List.getElem_cons_zero, List.setIfInBounds_toArray, List.set_cons_zero, List.set_cons_succ]
                  have f0 := HAL.out.frozen 0
                  have e0 := HAL.out.cell 0
                  refine wpAnyH_ready (rs := [10]) (by kernel_rfl) (by simp) ?_
                  refine AllReadyH.cons rfl (fun KR hK => ?_) AllReadyH.nil
                  go_simp
                  have HFIN := Lib.hid (ref_end (cr := cr) hHeld HAL.out HALP.out HPR.out)
                  have hS9 := HFIN.out.1
                  refine hK.out _ _ hS9 (fun hHeld => ?_)
                  clear hK KR
                  try simp only [Act.put, List.getElem_toArray, List.getElem_cons_succ, List.getElem_cons_zero, List.setIfInBounds_toArray, List.set_cons_zero, List.set_cons_succ]
                  refine wpAnyH_take (i := 11) (v := ?vz11q12) rfl (by kernel_rfl) (by kernel_rfl) (by kernel_rfl) (fun _ _ _ h => h) (Or.inl ⟨by rfl, ?yz11q12⟩) hHeld ?rz11q12
                  case yz11q12 => (intro w' hSw; go_simp; try with_reducible rfl)
                  simp only [Act.put, List.getElem_toArray, List.getElem_cons_succ, List.getElem_cons_zero, List.setIfInBounds_toArray, List.set_cons_zero, List.set_cons_succ]
                  refine wpAnyH_done (by kernel_rfl) ?_ _
                  clear hHeld
                  refine NoPanic.normal ?_
                  go_wp2_with fail
                  go_meet
                  exact ⟨qa, Ar, nr, cr, esr, rfl, rfl, HFIN⟩
              · go_simp
                have hk := (Keeps.refl (fun _ => False) (w5)).alloc (.cells #[.slice none 0 0] 29)
                have HAL := Lib.hid (Blk.new (w5) 29 #[.slice none 0 0])
                have HALP : Hid (W5.heap.size ≤ (w5).heap.size) := Lib.hid hHeld.size
                refine hK.out _ _ (hHeld.trans hk) (fun hHeld => ?_)
                clear hK KR
                try simp only [Act.put, List.getElem_toArray, List.getElem_cons_succ, List.getElem_cons_zero, List.setIfInBounds_toArray, List.set_cons_zero, List.set_cons_succ]
                generalize (w5).alloc (.cells #[.slice none 0 0] 29) = wa at hk HAL hHeld ⊢
                obtain ⟨qa, hqa⟩ : ∃ q, (w5).heap.size = q := ⟨_, rfl⟩
                rw [hqa] at HAL HALP ⊢
                clear hqa
                replace HO63 := Lib.hid (own_keeps (S := fun _ => False) HO63.out hk (fun _ _ => id))
                clear hk
                refine wpAnyH_ready (rs := [3]) (by kernel_rfl) (by simp) ?_
                refine AllReadyH.cons rfl (fun KR hK => ?_) AllReadyH.nil
                go_simp
                refine (HTB.out _ hHeld).mono ?_
                rintro r w6 ⟨B6, d6, rfl, hl6, hk⟩
                have HL65 := Lib.hid hl6
                clear hl6
                replace HO63 := Lib.hid (own_keeps (S := fun _ => False) HO63.out hk (fun _ _ => id))
                replace HAL := Lib.hid (HAL.out.keeps hk id)
                dsimp only
                refine hK.out _ _ (hHeld.trans hk) (fun hHeld => ?_)
                clear hK KR hk
                try simp only [Act.put, List.getElem_toArray, List.getElem_cons_succ, List.getElem_cons_zero, List.setIfInBounds_toArray, List.set_cons_zero, List.set_cons_succ]
                refine wpAnyH_ready (rs := [4]) (by kernel_rfl) (by simp) ?_
                refine AllReadyH.cons rfl (fun KR hK => ?_) AllReadyH.nil
                refine step_app (by rfl) _ _ (by rfl) W5.heap.size ma mb d6 (.slice A5 ma c5) (text ps) (text [(numsOf nm, lts xs k)]) B6 (by rfl) (by exact HO63.out) (by rfl) (by exact HL65.out) HMB.out (by have := HMA2.out; have := HMB2.out; omega) (by exact hHeld.size) ?_
                intro v7 w7 ho7 hg7 _
                rw [← text_app] at ho7
                obtain ⟨A7, c7, rfl, hc7⟩ := own_form ho7
                have HL66 := Lib.hid (Lies.of_own ho7)
                have HC66 := Lib.hid hc7
                have hk := (Keeps.refl (fun j => (Value.slice A5 ma c5).ownBlock = some j) _).grown hg7 (fun j hj => .inl hj)
                have hk0 := hHeld.grown hg7 (fun j hj => .inr (HO63.out.lt j hj).1)
                clear ho7 hg7 hc7
                replace HAL := Lib.hid (HAL.out.keeps hk (fun e => own_ne HO63.out HAL.out (by decide) e))
                refine hK.out _ _ hk0 (fun hHeld => ?_)
                clear hK KR hk hk0 HO63 HL65
                try simp only [Act.put, List.getElem_toArray, List.getElem_cons_succ, List.getElem_cons_zero, List.setIfInBounds_toArray, List.set_cons_zero, List.set_cons_succ]
                refine wpAnyH_ready (rs := [5]) (by kernel_rfl) (by simp) ?_
                refine AllReadyH.cons rfl (fun KR hK => ?_) AllReadyH.nil
                go_simp
                refine (HPA.out _ A7 c7 HL66.out HC66.out).mono ?_
                rintro r w8 ⟨Ar, nr, cr, esr, rfl, hpr, hk⟩
                have HPR := Lib.hid hpr
                clear hpr
                replace HL66 := Lib.hid (HL66.out.keeps hk (fun _ _ _ => id))
                replace HAL := Lib.hid (HAL.out.keeps hk id)
                dsimp only
                refine hK.out _ _ (hHeld.trans hk) (fun hHeld => ?_)
                clear hK KR hk
                try simp only [Act.put, List.getElem_toArray, List.getElem_cons_succ, List.getElem_cons_zero, List.setIfInBounds_toArray, List.set_cons_zero, List.set_cons_succ]
                refine wpAnyH_take (i := 6) (v := ?vz6q13) rfl (by kernel_rfl) (by kernel_rfl) (by kernel_rfl) (fun _ _ _ h => h) (Or.inl ⟨by rfl, ?yz6q13⟩) hHeld ?rz6q13
                case yz6q13 => (intro w' hSw; go_simp; try with_reducible rfl)
                simp only [Act.put, List.getElem_toArray, List.getElem_cons_succ, List.getElem_cons_zero, List.setIfInBounds_toArray, List.set_cons_zero, List.set_cons_succ]
                refine wpAnyH_take (i := 7) (v := ?vz7q14) rfl (by kernel_rfl) (by kernel_rfl) (by kernel_rfl) (fun _ _ _ h => h) (Or.inl ⟨by rfl, ?yz7q14⟩) hHeld ?rz7q14
                case yz7q14 => (intro w' hSw; go_simp; try with_reducible rfl)
                simp only [Act.put, List.getElem_toArray, List.getElem_cons_succ, List.getElem_cons_zero, List.setIfInBounds_toArray, List.set_cons_zero, List.set_cons_succ]
                refine wpAnyH_take (i := 8) (v := ?vz8q15) rfl (by kernel_rfl) (by kernel_rfl) (by kernel_rfl) (fun _ _ _ h => h) (Or.inl ⟨by rfl, ?yz8q15⟩) hHeld ?rz8q15
                case yz8q15 => (intro w' hSw; go_simp; try with_reducible rfl)
                simp only [Act.put, List.getElem_toArray, List.getElem_cons_succ, List.getElem_cons_zero, List.setIfInBounds_toArray, List.set_cons_zero, List.set_cons_succ]
                have f0 := HAL.out.frozen 0
                have e0 := HAL.out.cell 0
                refine wpAnyH_ready (rs := [10]) (by kernel_rfl) (by simp) ?_
                refine AllReadyH.cons rfl (fun KR hK => ?_) AllReadyH.nil
                go_simp
                have HFIN := Lib.hid (ref_end (cr := cr) hHeld HAL.out HALP.out HPR.out)
                have hS9 := HFIN.out.1
                refine hK.out _ _ hS9 (fun hHeld => ?_)
                clear hK KR
                try simp only [Act.put, List.getElem_toArray, List.getElem_cons_succ, List.getElem_cons_zero, List.setIfInBounds_toArray, List.set_cons_zero, List.set_cons_succ]
                refine wpAnyH_take (i := 11) (v := ?vz11q16) rfl (by kernel_rfl) (by kernel_rfl) (by kernel_rfl) (fun _ _ _ h => h) (Or.inl ⟨by rfl, ?yz11q16⟩) hHeld ?rz11q16
                case yz11q16 => (intro w' hSw; go_simp; try with_reducible rfl)
                simp only [Act.put, List.getElem_toArray, List.getElem_cons_succ, List.getElem_cons_zero, List.setIfInBounds_toArray, List.set_cons_zero, List.set_cons_succ]
                refine wpAnyH_done (by kernel_rfl) ?_ _
                clear hHeld
                refine NoPanic.normal ?_
                go_wp2_with fail
                go_meet
                exact ⟨qa, Ar, nr, cr, esr, rfl, rfl, HFIN⟩
            · go_simp
              have hk := (Keeps.refl (fun _ => False) (wd)).alloc (.cells #[.slice none 0 0] 29)
              have HAL := Lib.hid (Blk.new (wd) 29 #[.slice none 0 0])
              have HALP : Hid (W5.heap.size ≤ (wd).heap.size) := Lib.hid hHeld.size
              refine hK.out _ _ (hHeld.trans hk) (fun hHeld => ?_)
              clear hK KR
              try simp only [Act.put, List.getElem_toArray, List.getElem_cons_succ, List.getElem_cons_zero, List.setIfInBounds_toArray, List.set_cons_zero, List.set_cons_succ]
              generalize (wd).alloc (.cells #[.slice none 0 0] 29) = wa at hk HAL hHeld ⊢
              obtain ⟨qa, hqa⟩ : ∃ q, (wd).heap.size = q := ⟨_, rfl⟩
              rw [hqa] at HAL HALP ⊢
              clear hqa
              clear hk
              refine wpAnyH_ready (rs := [1]) (by kernel_rfl) (by simp) ?_
              refine AllReadyH.cons rfl (fun KR hK => ?_) AllReadyH.nil
              go_simp
              refine (HTA.out _ hHeld).mono ?_
              rintro r w5 ⟨A5, c5, rfl, ho5, hk⟩
              have HO63 := Lib.hid ho5
              clear ho5
              replace HAL := Lib.hid (HAL.out.keeps hk id)
              dsimp only
              refine hK.out _ _ (hHeld.trans hk) (fun hHeld => ?_)
              clear hK KR hk
              try simp only [Act.put, List.getElem_toArray, List.getElem_cons_succ, List.getElem_cons_zero, List.setIfInBounds_toArray, List.set_cons_zero, List.set_cons_succ]
              refine wpAnyH_ready (rs := [3]) (by kernel_rfl) (by simp) ?_
              refine AllReadyH.cons rfl (fun KR hK => ?_) AllReadyH.nil
              go_simp
              refine (HTB.out _ hHeld).mono ?_
              rintro r w6 ⟨B6, d6, rfl, hl6, hk⟩
              have HL65 := Lib.hid hl6
              clear hl6
              replace HO63 := Lib.hid (own_keeps (S := fun _ => False) HO63.out hk (fun _ _ => id))
              replace HAL := Lib.hid (HAL.out.keeps hk id)
              dsimp only
              refine hK.out _ _ (hHeld.trans hk) (fun hHeld => ?_)
              clear hK KR hk
              try simp only [Act.put, List.getElem_toArray, List.getElem_cons_succ, List.getElem_cons_zero, List.setIfInBounds_toArray, List.set_cons_zero, List.set_cons_succ]
              refine wpAnyH_ready (rs := [4]) (by kernel_rfl) (by simp) ?_
              refine AllReadyH.cons rfl (fun KR hK => ?_) AllReadyH.nil
              refine step_app (by rfl) _ _ (by rfl) W5.heap.size ma mb d6 (.slice A5 ma c5) (text ps) (text [(numsOf nm, lts xs k)]) B6 (by rfl) (by exact HO63.out) (by rfl) (by exact HL65.out) HMB.out (by have := HMA2.out; have := HMB2.out; omega) (by exact hHeld.size) ?_
              intro v7 w7 ho7 hg7 _
              rw [← text_app] at ho7
              obtain ⟨A7, c7, rfl, hc7⟩ := own_form ho7
              have HL66 := Lib.hid (Lies.of_own ho7)
              have HC66 := Lib.hid hc7
              have hk := (Keeps.refl (fun j => (Value.slice A5 ma c5).ownBlock = some j) _).grown hg7 (fun j hj => .inl hj)
              have hk0 := hHeld.grown hg7 (fun j hj => .inr (HO63.out.lt j hj).1)
              clear ho7 hg7 hc7
              replace HAL := Lib.hid (HAL.out.keeps hk (fun e => own_ne HO63.out HAL.out (by decide) e))
              refine hK.out _ _ hk0 (fun hHeld => ?_)
              clear hK KR hk hk0 HO63 HL65
              try simp only [Act.put, List.getElem_toArray, List.getElem_cons_succ, List.getElem_cons_zero, List.setIfInBounds_toArray, List.set_cons_zero, List.set_cons_succ]
              refine wpAnyH_ready (rs := [5]) (by kernel_rfl) (by simp) ?_
              refine AllReadyH.cons rfl (fun KR hK => ?_) AllReadyH.nil
              go_simp
              refine (HPA.out _ A7 c7 HL66.out HC66.out).mono ?_
              rintro r w8 ⟨Ar, nr, cr, esr, rfl, hpr, hk⟩
              have HPR := Lib.hid hpr
              clear hpr
              replace HL66 := Lib.hid (HL66.out.keeps hk (fun _ _ _ => id))
              replace HAL := Lib.hid (HAL.out.keeps hk id)
              dsimp only
              refine hK.out _ _ (hHeld.trans hk) (fun hHeld => ?_)
              clear hK KR hk
              try simp only [Act.put, List.getElem_toArray, List.getElem_cons_succ, List.getElem_cons_zero, List.setIfInBounds_toArray, List.set_cons_zero, List.set_cons_succ]
              refine wpAnyH_take (i := 6) (v := ?vz6q17) rfl (by kernel_rfl) (by kernel_rfl) (by kernel_rfl) (fun _ _ _ h => h) (Or.inl ⟨by rfl, ?yz6q17⟩) hHeld ?rz6q17
              case yz6q17 => (intro w' hSw; go_simp; try with_reducible rfl)
              simp only [Act.put, List.getElem_toArray, List.getElem_cons_succ, List.getElem_cons_zero, List.setIfInBounds_toArray, List.set_cons_zero, List.set_cons_succ]
              refine wpAnyH_take (i := 7) (v := ?vz7q18) rfl (by kernel_rfl) (by kernel_rfl) (by kernel_rfl) (fun _ _ _ h => h) (Or.inl ⟨by rfl, ?yz7q18⟩) hHeld ?rz7q18
              case yz7q18 => (intro w' hSw; go_simp; try with_reducible rfl)
              simp only [Act.put, List.getElem_toArray, List.getElem_cons_succ, List.getElem_cons_zero, List.setIfInBounds_toArray, List.set_cons_zero, List.set_cons_succ]
              refine wpAnyH_take (i := 8) (v := ?vz8q19) rfl (by kernel_rfl) (by kernel_rfl) (by kernel_rfl) (fun _ _ _ h => h) (Or.inl ⟨by rfl, ?yz8q19⟩) hHeld ?rz8q19
              case yz8q19 => (intro w' hSw; go_simp; try with_reducible rfl)
              simp only [Act.put, List.getElem_toArray, List.getElem_cons_succ, List.getElem_cons_zero, List.setIfInBounds_toArray, List.set_cons_zero, List.set_cons_succ]
              have f0 := HAL.out.frozen 0
              have e0 := HAL.out.cell 0
              refine wpAnyH_ready (rs := [10]) (by kernel_rfl) (by simp) ?_
              refine AllReadyH.cons rfl (fun KR hK => ?_) AllReadyH.nil
              go_simp
              have HFIN := Lib.hid (ref_end (cr := cr) hHeld HAL.out HALP.out HPR.out)
              have hS9 := HFIN.out.1
              refine hK.out _ _ hS9 (fun hHeld => ?_)
              clear hK KR
              try simp only [Act.put, List.getElem_toArray, List.getElem_cons_succ, List.getElem_cons_zero, List.setIfInBounds_toArray, List.set_cons_zero, List.set_cons_succ]
              refine wpAnyH_take (i := 11) (v := ?vz11q20) rfl (by kernel_rfl) (by kernel_rfl) (by kernel_rfl) (fun _ _ _ h => h) (Or.inl ⟨by rfl, ?yz11q20⟩) hHeld ?rz11q20
              case yz11q20 => (intro w' hSw; go_simp; try with_reducible rfl)
              simp only [Act.put, List.getElem_toArray, List.getElem_cons_succ, List.getElem_cons_zero, List.setIfInBounds_toArray, List.set_cons_zero, List.set_cons_succ]
              refine wpAnyH_done (by kernel_rfl) ?_ _
              clear hHeld
              refine NoPanic.normal ?_
              go_wp2_with fail
              go_meet
              exact ⟨qa, Ar, nr, cr, esr, rfl, rfl, HFIN⟩
          case rest =>
            obtain ⟨P, Ar, nr, cr, esr, rfl, rfl, HR⟩ := hcut
            have HKE : Hid (Keeps (fun _ => False) w wc) := Lib.hid (HK3.out.trans (HKW.out.trans HR.out.1))
            have c8 : wc.cell? ⟨p8, 0, none⟩ = some (.slice A2 N c2) := (HB85.out.keeps HR.out.1 id).cell 0
            obtain ⟨F1, hF1⟩ : ∃ F1, fnd (numsOf nm) ps = F1 := ⟨_, rfl⟩
            obtain ⟨FB, hFB⟩ : ∃ FB, fnb (numsOf nm) ps = FB := ⟨_, rfl⟩
            have HFI : Hid (Calls Try.prog 14 #[.agg #[.slice A2 N c2], .string nm] wc fun r w' => r = .returned (.tuple #[.int .i64 (F1 : Int), .bool FB]) ∧ Keeps (fun _ => False) wc w') := Lib.hid (by
              have := find_ A2 N c2 es (numsOf nm) wc ((HMA5.out.isRef (by have := HN4.out; omega)).more HR.out.1) (nums_byt nm)
              unfold FindR at this
              rw [HPSE.out, hF1, hFB, str_nums] at this
              exact this)
            obtain ⟨Nm, hNm⟩ : ∃ Nm, named (numsOf nm) = Nm := ⟨_, rfl⟩
            have HNA : Hid (∀ w0, Calls Try.prog 17 #[.string nm] w0 fun r w' => r = .returned (.bool Nm) ∧ Keeps (fun _ => False) w0 w') := Lib.hid (fun w0 => by
              have := named_ nm w0
              unfold NamedR at this
              rw [hNm] at this
              exact this)
            have hEE : E = if Nm = false then 14 else if FB = true then 12 else 0 := by
              rw [← HE.out, chk_more HPC.out.1 (by rw [HPC.out.2.1]; have := HN4.out; omega), err1, hNm]
              have h1 : (FB = true) = (numsOf nm ∈ ps.map Prod.fst) := by
                rw [← hFB, fnb, decide_eq_true_iff]
                exact propext (find_lt _ _)
              have h2 : ¬ (lts xs k = [] ∨ 1048576 < tot ps + (lts xs k).length) := by
                rw [HLT.out]
                intro h
                rcases h with h | h
                · have := HLT.out
                  rw [h] at this
                  simp at this
                · have h3 := HPC.out.2.2.1
                  have h4 := HN4.out
                  omega
              simp only [h1, h2, if_false, lts_all]
              simp
            have HEE := Lib.hid hEE
            have HFF : Hid (FB = false → numsOf nm ∉ ps.map Prod.fst) := Lib.hid (fun h hm => by
              have := (find_lt _ _).2 hm
              rw [← hFB, fnb, decide_eq_false_iff_not] at h
              exact h this)
            clear hF1 hFB hNm hEE
            go_upto_region 21 with (
              go_at_call 14
              refine HFI.out.mono ?_
              rintro r w9 ⟨rfl, hk9⟩
              have HK9 := Lib.hid (HR.out.1.trans hk9)
              have HR9 := Lib.hid (fun h => And.intro ((HR.out.2.2 h).1.more hk9) (HR.out.2.2 h).2)
              have HBP := Lib.hid (HR.out.2.1.keeps hk9 id)
              clear hk9 HFI)
            clear c8
            cases Nm with
            | false =>
              have hE14 : E = 14 := HEE.out
              subst hE14
              go_wp2_with (go_at_call 17; refine (HNA.out _).mono ?_; rintro r w10 ⟨rfl, hk10⟩; have HK10 := Lib.hid (HK9.out.trans hk10); clear hk10)
              go_ret
              exact ⟨rfl, HK3.out.trans (HKW.out.trans HK10.out)⟩
            | true =>
              cases FB with
              | true =>
                have hE12 : E = 12 := HEE.out
                subst hE12
                go_wp2_with (go_at_call 17; refine (HNA.out _).mono ?_; rintro r w10 ⟨rfl, hk10⟩; have HK10 := Lib.hid (HK9.out.trans hk10); clear hk10)
                go_ret
                exact ⟨rfl, HK3.out.trans (HKW.out.trans HK10.out)⟩
              | false =>
                have hE0 : E = 0 := HEE.out
                subst hE0
                have HRX := Lib.hid (HR9.out rfl)
                have hnr : nr = N + 1 := by
                  have h1 := HRX.out.1.1
                  have h2 := congrArg List.length HRX.out.2
                  rw [pairs_len, List.length_append, HPC.out.2.1] at h2
                  simp at h2
                  omega
                have hfa : find (numsOf nm) (ps ++ [(numsOf nm, lts xs k)]) = N := by
                  rw [find_app_not _ _ _ (HFF.out rfl), HPC.out.2.1]
                  simp [find]
                have HF2 : Hid (∀ W, Keeps (fun _ => False) w9 W → Calls Try.prog 14 #[.agg #[.slice Ar nr cr], .string nm] W fun r w' => r = .returned (.tuple #[.int .i64 (N : Int), .bool true]) ∧ Keeps (fun _ => False) W w') := Lib.hid (fun W kW => by
                  have := find_ Ar nr cr esr (numsOf nm) W (HRX.out.1.more kW) (nums_byt nm)
                  unfold FindR at this
                  have hl : N < (ps ++ [(numsOf nm, lts xs k)]).length := by rw [List.length_append, HPC.out.2.1]; simp
                  rw [HRX.out.2, fnd, fnb, hfa, if_pos hl, decide_eq_true hl, str_nums] at this
                  exact this)
                obtain ⟨e9, he9, hp9⟩ : ∃ e9, esr[N]? = some e9 ∧ e9.p = (numsOf nm, lts xs k) := by
                  have h1 : (pairs esr)[N]? = some (numsOf nm, lts xs k) := by
                    rw [HRX.out.2, List.getElem?_append_right (by rw [HPC.out.2.1]; exact Nat.le_refl _), HPC.out.2.1]
                    simp
                  obtain ⟨e, h2, h3⟩ := pairs_at h1
                  exact ⟨e, h2, h3.symm⟩
                have hsq : e9.sq = lts xs k := congrArg Prod.snd hp9
                have hlo : lenOf esr (N : Int) = ((k : Int) + 1) := by
                  rw [lenOf, if_pos (by have := HRX.out.1.1; omega)]
                  simp [List.getD_eq_getElem?_getD, he9, hsq, HLT.out]
                have hat : atOf esr (N : Int) 1 = 65 := by
                  rw [atOf, if_pos (by rw [hlo]; omega)]
                  simp [List.getD_eq_getElem?_getD, he9, hsq, lts]
                have HLN : Hid (∀ W, Keeps (fun _ => False) w9 W → Calls Try.prog 15 #[.agg #[.slice Ar nr cr], .int .i64 (N : Int)] W fun r w' => r = .returned (.int .i64 ((k : Int) + 1)) ∧ Keeps (fun _ => False) W w') := Lib.hid (fun W kW => by
                  have := len_ Ar nr cr esr (N : Int) W (HRX.out.1.more kW)
                  rw [hlo] at this
                  exact this)
                have HAT : Hid (∀ W, Keeps (fun _ => False) w9 W → Calls Try.prog 16 #[.agg #[.slice Ar nr cr], .int .i64 (N : Int), .int .i64 1] W fun r w' => r = .returned (.int .u8 65) ∧ Keeps (fun _ => False) W w') := Lib.hid (fun W kW => by
                  have := at_ Ar nr cr esr (N : Int) 1 W (HRX.out.1.more kW)
                  rw [hat] at this
                  exact this)
                clear hnr hfa he9 hp9 hsq hlo hat
                go_wp2_with fail
                refine (HNA.out _).mono ?_
                rintro r w10 ⟨rfl, hk10⟩
                have HK10 := Lib.hid hk10
                have d0 : w10.cell? ⟨P, 0, none⟩ = some (.slice Ar nr cr) := (HBP.out.keeps hk10 id).cell 0
                clear hk10
                go_wp2_with fail
                refine (HF2.out _ HK10.out).mono ?_
                rintro r w11 ⟨rfl, hk11⟩
                have HK11 := Lib.hid (HK10.out.trans hk11)
                have d1 : w11.cell? ⟨P, 0, none⟩ = some (.slice Ar nr cr) := (HBP.out.keeps HK11.out id).cell 0
                have d2 : w11.cell? ⟨p8, 0, none⟩ = some (.slice A2 N c2) := (HB85.out.keeps (HK9.out.trans HK11.out) id).cell 0
                have dnn : ((N : Int) == (N : Int)) = true := by simp
                have dkk : ((k : Int) + 1 == (k : Int) + 1) = true := by simp
                clear hk11 d0
                go_wp2_with fail
                refine (HLN.out _ HK11.out).mono ?_
                rintro r w12 ⟨rfl, hk12⟩
                have HK12 := Lib.hid (HK11.out.trans hk12)
                have d3 : w12.cell? ⟨P, 0, none⟩ = some (.slice Ar nr cr) := (HBP.out.keeps HK12.out id).cell 0
                clear hk12 d1 d2
                go_wp2_with fail
                refine (HAT.out _ HK12.out).mono ?_
                rintro r w13 ⟨rfl, hk13⟩
                have HK13 := Lib.hid (HK12.out.trans hk13)
                clear hk13 d3
                go_wp2
                go_ret
                exact ⟨by simp, HK3.out.trans (HKW.out.trans (HK9.out.trans HK13.out))⟩
end Go.Proofs.Ytbekdcakmeejaaa.Ct

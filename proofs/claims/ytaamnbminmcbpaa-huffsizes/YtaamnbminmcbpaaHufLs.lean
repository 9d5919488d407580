/- The least sum of counts times sizes, by merging the two lightest (the statements' own function). -/
import Derived.Test.YtaamnbminmcbpaaHufNd
import Derived.StillTailTactics
import Derived.Deep.RegionLaw
namespace Go.Proofs.Ytaamnbminmcbpaa.Nd
open Go.RowKit Go.Shelf Go.Lib Go.Sort Go.Proofs.Ytaamnbminmcbpaa.Gen Go.Proofs.Ytaamnbminmcbpaa.Mp Go.Proofs.Ytaamnbminmcbpaa.Hr Go.Proofs.Ytaamnbminmcbpaa.Hp Go.Proofs.Ytaamnbminmcbpaa.Hg Go.Proofs.Ytaamnbminmcbpaa.So Go.Proofs.Ytaamnbminmcbpaa.Hs Go.Proofs.Ytaamnbminmcbpaa.Hf Go.Proofs.Ytaamnbminmcbpaa.Hz Go.Proofs.Ytaamnbminmcbpaa.Hc

theorem node_info : (Try.prog.info? 81).map (fun i => (i.zero, i.size, i.bytes)) = some (some (.agg #[.int .i64 0, .int .i64 0]), 2, 16) := by kernel_rfl
theorem node_size (w : World) : (Go.sizeOf 81).run Try.prog w = .ok 2 w := by kernel_rfl
theorem run_max2 {P : Program} (ts : Array TypeId) (t : TypeId) (a b : Nat) (w : World) : (Builtin.max_ ts t #[.int .i64 (a : Int), .int .i64 (b : Int)]).run P w = .ok (.int .i64 ((max a b : Nat) : Int)) w := by
  simp [Builtin.max_, Builtin.max2]
  split <;> congr 2 <;> omega
theorem run_min2 {P : Program} (ts : Array TypeId) (t : TypeId) (a b : Nat) (w : World) : (Builtin.min_ ts t #[.int .i64 (a : Int), .int .i64 (b : Int)]).run P w = .ok (.int .i64 ((min a b : Nat) : Int)) w := by
  simp [Builtin.min_, Builtin.min2]
  split <;> congr 2 <;> omega
/-- append, by an equation of its run, as one step of a region that draws. -/
theorem step_append_run {P : Program} {ops : Array Oper} {o : Oper} {a : Act} {w : World} {K : Act → World → Prop} {Q : Exit → Act → World → Prop} {E : Prop}
    (hg : o.guard = none) (s x : Operand) (t : TypeId) (hop : o.op = Op.call { callee := Callee.builtin Builtin.append, args := #[s, x], argTypes := #[t, t] })
    (v1 v2 v' : Value) (w' : World) (hs : a.eval s = v1) (hx : a.eval x = v2) (ty : TypeId) (hty : o.type = ty) (hrun : (Builtin.append_ #[t, t] ty #[v1, v2]).run P w = .ok v' w') (hK : K (a.put o.dst v') w') :
    if Region.wanted o (yielded ops a.tmps) = true then Oper.wp P o a w K Q else E := by
  have hw : Region.wanted o (yielded ops a.tmps) = true := by simp [Region.wanted, hg]
  rw [if_pos hw]
  subst hty
  unfold Oper.wp execOp
  simp only [hop, resolve, invoke, builtin, Sem.run_bind, Sem.run_pure, Result.andThen_ok, List.map_toArray, List.map_cons, List.map_nil, hs, hx, hrun]
  exact hK
theorem wpList_append_run {P : Program} {ops : Array Oper} {rest : List Oper} {o : Oper} {a : Act} {w : World} {Q : Exit → Act → World → Prop}
    (hg : o.guard = none) (s x : Operand) (t : TypeId) (hop : o.op = Op.call { callee := Callee.builtin Builtin.append, args := #[s, x], argTypes := #[t, t] })
    (v1 v2 v' : Value) (w' : World) (hs : a.eval s = v1) (hx : a.eval x = v2) (ty : TypeId) (hty : o.type = ty) (hrun : (Builtin.append_ #[t, t] ty #[v1, v2]).run P w = .ok v' w') (h : wpList P ops Q rest (a.put o.dst v') w') :
    wpList P ops Q (o :: rest) a w := by
  refine wpList_plain hg fun K hK => ?_
  subst hty
  unfold Oper.wp execOp
  simp only [hop, resolve, invoke, builtin, Sem.run_bind, Sem.run_pure, Result.andThen_ok, List.map_toArray, List.map_cons, List.map_nil, hs, hx, hrun]
  exact hK _ _ h
/-- What all weigh. -/
def tot (N : List Node) : Nat := (N.map (·.1)).sum
theorem tot_perm {N M : List Node} (h : N.Perm M) : tot N = tot M := (h.map _).sum_nat
theorem tot_le {N : List Node} {j : Nat} : (N.getD j (0, 0)).1 ≤ tot N := by
  induction N generalizing j with
  | nil => simp
  | cons a N ih =>
    cases j with
    | zero => simp [tot]
    | succ j =>
      have := ih (j := j)
      simp [tot] at this ⊢
      omega
theorem tot_app (N M : List Node) : tot (N ++ M) = tot N + tot M := by simp [tot]
/-- While nodes are merged. -/
structure Lst (w wr : World) (A : Option Addr) (k c : Nat) (N N0 : List Node) (s n0 T : Nat) : Prop where
  own : wr.ownsRow w.heap.size 81 2 (.slice A k c) k (nds N)
  len : N.length = k
  tot : tot N = T
  deep : ∀ x ∈ N, x.2 + k ≤ n0
  sum : s + k * T ≤ n0 * T
  back : ∀ s' H, Merges N s' H → Merges N0 (s + s') H
  keeps : Keeps (fun _ => False) w wr
theorem Lst.merged {w wr w1 : World} {A A1 : Option Addr} {k c c1 : Nat} {N N0 : List Node} {s n0 T ja jb : Nat} (h : Lst w wr A (k + 1) c N N0 s n0 T) (hk : 1 ≤ k) (ht : Two N (k + 1) (ja : Int) (jb : Int)) (hown : w1.ownsRow w.heap.size 81 2 (.slice A1 k c1) k (nds (merge N ja jb))) (hkp : Keeps (fun _ => False) w w1) : Lst w w1 A1 k c1 (merge N ja jb) N0 (s + (joined N ja jb).1) n0 T := by
  have hl := h.len
  have hj : ja < k + 1 ∧ jb < k + 1 ∧ ja ≠ jb := by
    rcases ht with ⟨h1, _⟩ | ⟨ja', e, h1, _, ⟨h2, _⟩ | ⟨jb', e2, h2, h3, _⟩⟩ <;> omega
  obtain ⟨R, p1, p2, _⟩ := merge_perm (N := N) (by omega) (by omega) hj.2.2
  have hT : Nd.tot (merge N ja jb) = T := by
    rw [tot_perm p2, ← h.tot, tot_perm p1]
    simp [Nd.tot, joined]
    omega
  refine ⟨hown, by rw [merge_len (by omega) (by omega), hl]; omega, hT, ?_, ?_, ?_, hkp⟩
  · intro x hx
    have hx2 := p2.subset hx
    have hda := h.deep _ (p1.symm.subset (show N.getD ja (0, 0) ∈ _ by simp))
    have hdb := h.deep _ (p1.symm.subset (show N.getD jb (0, 0) ∈ _ by simp))
    rcases List.mem_cons.1 hx2 with rfl | hx2
    · simp only [joined]
      omega
    · have := h.deep x (p1.symm.subset (by simp [hx2]))
      omega
  · have h1 := h.sum
    have h2 : (joined N ja jb).1 ≤ T := by
      rw [← h.tot, tot_perm p1]
      simp [Nd.tot, joined]
    rw [Nat.add_mul] at h1
    omega
  · intro s' H hM
    have h1 := h.back _ _ (merge_step (by omega) (by rw [hl]; exact ht) hM)
    rw [← Nat.add_assoc] at h1
    exact h1
def slLen : Value → Nat
  | .slice _ n _ => n
  | _ => 0
theorem tmin {N : List Node} {a b k : Nat} (h : Two N k (a : Int) (b : Int)) (hk : 2 ≤ k) : a < k ∧ b < k ∧ a ≠ b := by
  rcases h with ⟨h1, _⟩ | ⟨ja', e, h1, _, ⟨h2, _⟩ | ⟨jb', e2, h2, h3, _⟩⟩ <;> omega
/-- Nodes of counts. -/
def ofC (m : List (Int × Nat)) : List Node := m.map fun p => (p.2, 0)
/-- While counts come. -/
structure Gst (w wr : World) (b r : Nat) (m met : List (Int × Nat)) (A : Option Addr) (k c cn : Nat) : Prop where
  rg : Rgs Try.prog 3 wr b r (mv m) (mv met) cn
  own : wr.ownsRow w.heap.size 81 2 (.slice A k c) k (nds (ofC met))
  keeps : Keeps (fun _ => False) w wr
theorem cell_two (w : World) (x y : Value) (t : TypeId) : ∀ (j : Nat) (u : Value), [x, y][j]? = some u → (w.alloc (.cells #[x, y] t)).cell? ((⟨w.heap.size, 0, none⟩ : Addr).add j) = some u := by
  intro j u hu
  rw [add_none, (Blk.new w t #[x, y]).cell]
  simpa using hu

set_option maxHeartbeats 4000000 in
set_option maxRecDepth 100000 in
theorem least_ (b n : Nat) (m : List (Int × Nat)) (w : World) (h : IsM Try.prog 3 w b (mv m)) (hn : m.length = n) (h0 : 1 ≤ n) (hs : n ≤ 40) (hc : ∀ p ∈ m, p.2 ≤ 999) :
    Calls Try.prog 12 #[.map (some b)] w fun r w' => ∃ s H : Nat, r = .returned (.tuple #[.int .i64 (s : Int), .int .i64 (H : Int)]) ∧ (∃ N0, Merges N0 s H ∧ (N0.map (·.1)).Perm (m.map (·.2))) ∧ Keeps (fun _ => False) w w' := by
  have HM := Lib.hid h
  have HN := Lib.hid hn
  have HC := Lib.hid hc
  have hbw := h.lt
  clear h hn hc
  obtain ⟨i0, hi0, hz0, hz1, hz2⟩ := info_parts node_info
  go_enter Try.func12, Try.ntmps12
  go_wp2_with (
    at_range
    refine wpList_range_m _ rfl _ _ rfl 3 3 int_key Try.underlying24 b (mv m) rfl HM.out ?_
    intro w2 hrg2 hk2
    have HG : Hid (Gst w w2 b w.heap.size m [] none 0 0 (mv m).length) := ⟨hrg2, World.ownsRow_nil _ _ _ _, hk2⟩
    clear hrg2 hk2)
  go_frame
  obtain ⟨r, hr⟩ : ∃ r, r = w.heap.size := ⟨_, rfl⟩
  rw [← hr] at HG ⊢
  have HRR := Lib.hid hr
  clear hr
  go_loopw [4] (fun sv wr => ∃ (met : List (Int × Nat)) (A : Option Addr) (k c cn : Nat), sv = .slice A k c ∧ met.length = k ∧ Gst w wr b r m met A k c cn) (fun _ wr => wr.rangeLeft b r)
  case atStart => exact ⟨[], none, 0, 0, _, rfl, rfl, HG.out⟩
  case round =>
    clear HG
    obtain ⟨met, A, k, c, cn, rfl, hk, hst⟩ := hrel
    have HT := Lib.hid hst
    have HK := Lib.hid hk
    have hkn : k ≤ n := by
      have := hst.rg.len
      rw [mv_len, mv_len, HN.out, hk] at this
      exact this
    clear hst hk
    go_wp2_with (
      at_next
      refine wpList_next_m _ rfl _ rfl 3 int_key (Value.int .i64) (fun c : Nat => Value.int .i64 (c : Int)) int_shape b r (mv m) (mv met) cn (mv_shape m) rfl HT.out.rg ?_ ?_)
    · intro hperm
      have hpm : met.Perm m := by
        have := hperm.map un
        rw [un_mv, un_mv] at this
        exact this
      clear hperm
      have hkn2 : k = n := by rw [← HK.out, hpm.length_eq]; exact HN.out
      subst hkn2
      have HPM : Hid (((ofC met).map (·.1)).Perm (m.map (·.2))) := by
        have e : (ofC met).map (·.1) = met.map (·.2) := by simp [ofC, Function.comp_def]
        rw [e]
        exact hpm.map _
      obtain ⟨T, hT⟩ : ∃ T, T = tot (ofC met) := ⟨_, rfl⟩
      have hTb : T ≤ 39960 := by
        have h1 : ∀ l : List (Int × Nat), (∀ p ∈ l, p.2 ≤ 999) → tot (ofC l) ≤ 999 * l.length := by
          intro l
          induction l with
          | nil => intro _; simp [ofC, tot]
          | cons a l ih =>
            intro h2
            have h3 := ih (fun p hp => h2 p (by simp [hp]))
            have h4 := h2 a (by simp)
            simp [ofC, tot] at h3 ⊢
            omega
        have h2 := h1 met (fun p hp => HC.out p (hpm.subset hp))
        rw [HK.out] at h2
        rw [hT]
        have : 999 * k ≤ 999 * 40 := Nat.mul_le_mul_left _ hs
        omega
      have HL0 : Hid (Lst w wr A k c (ofC met) (ofC met) 0 k T) := ⟨HT.out.own, by simp [ofC, HK.out], hT.symm, fun x hx => by
        simp only [ofC, List.mem_map] at hx
        obtain ⟨q, _, rfl⟩ := hx
        simp, by simp, fun s' H hM => by simpa using hM, HT.out.keeps⟩
      obtain ⟨N0, hN0⟩ : ∃ N0, N0 = ofC met := ⟨_, rfl⟩
      rw [← hN0] at HPM HL0
      clear hN0 hpm hT HT HK
      go_wp2
      go_loopw [4, 7] (fun lv sv wx => ∃ (A' : Option Addr) (k' c' s : Nat) (N : List Node), lv = .slice A' k' c' ∧ sv = .int .i64 (s : Int) ∧ 1 ≤ k' ∧ k' ≤ k ∧ Lst w wx A' k' c' N N0 s k T) (fun lv _ _ => slLen lv)
      case atStart => exact ⟨A, k, c, 0, N0, rfl, rfl, h0, Nat.le_refl _, HL0.out⟩
      case round =>
        clear HL0
        obtain ⟨A', k', c', s, N, rfl, rfl, hk1, hk2, hst⟩ := hrel
        have HST := Lib.hid hst
        obtain ⟨g, rfl⟩ := own_some hst.own (.inl (by omega))
        have hsb : s ≤ 40 * 39960 := by
          have h1 := hst.sum
          have h2 : k * T ≤ 40 * 39960 := Nat.mul_le_mul hs hTb
          omega
        clear hst
        by_cases hgt : 1 < k'
        · go_wp2
          go_loopw [8, 9, 30] (fun av bv iv' wx => ∃ (i : Nat) (a b : Int), av = .int .i64 a ∧ bv = .int .i64 b ∧ iv' = .int .i64 (i : Int) ∧ i ≤ k' ∧ Two N i a b ∧ Keeps (fun _ => False) wr wx) (fun _ _ iv' _ => k' - (intOf iv').toNat)
          case atStart => exact ⟨0, -1, -1, rfl, rfl, rfl, by omega, .inl ⟨rfl, rfl, rfl⟩, Keeps.refl _ _⟩
          case round =>
            obtain ⟨i, a, b', rfl, rfl, rfl, hik, htw, hkx⟩ := hrel
            have HTW := Lib.hid htw
            have HKX := Lib.hid hkx
            clear htw hkx
            by_cases hlt : i < k'
            · have HOW := Lib.hid (own_keeps HST.out.own HKX.out (fun _ _ => id))
              obtain ⟨hx0, hx1, _, _⟩ := own_at HOW.out hlt
              obtain ⟨xw, hxw⟩ : ∃ xw, xw = (N.getD i (0, 0)).1 := ⟨_, rfl⟩
              obtain ⟨xd, hxd⟩ : ∃ xd, xd = (N.getD i (0, 0)).2 := ⟨_, rfl⟩
              rw [← hxw] at hx0
              rw [← hxd] at hx1
              have HXW := Lib.hid hxw
              have HKA := Lib.hid (HKX.out.alloc (.cells #[.int .i64 (xw : Int), .int .i64 (xd : Int)] 81))
              have HOA := Lib.hid (own_keeps HOW.out ((Keeps.refl (fun _ => False) _).alloc (.cells #[.int .i64 (xw : Int), .int .i64 (xd : Int)] 81)) (fun _ _ => id))
              have HBA := Lib.hid (Blk.new wr 81 #[.int .i64 (xw : Int), .int .i64 (xd : Int)])
              have hi0' : (i : Int) < (k' : Int) := by omega
              clear hxw hxd
              go_upto_region 12 with fail
              obtain ⟨wa, hwa⟩ : ∃ wa, wa = wr.alloc (.cells #[.int .i64 (xw : Int), .int .i64 (xd : Int)] 81) := ⟨_, rfl⟩
              obtain ⟨px, hpx⟩ : ∃ px, px = wr.heap.size := ⟨_, rfl⟩
              rw [← hwa, ← hpx] at HBA
              rw [← hwa] at HKA HOA
              rw [← hwa, ← hpx]
              clear hwa hpx hx0 hx1 HOW HKX
              have hb0 : wa.cell? ⟨px, 0, none⟩ = some (.int .i64 (xw : Int)) := HBA.out.cell 0
              rcases HTW.out with ⟨rfl, rfl, rfl⟩ | ⟨ja, rfl, hja, hmin, hbb⟩
              · go_big_quiet (fail)
                go_wp2
                exact ⟨⟨1, 0, -1, by go_num, by go_num, by go_num, by omega, Two.first, HKA.out.drewN nq⟩, by simp [intOf]; omega⟩
              · obtain ⟨ha0, _, _, _⟩ := own_at HOA.out (show ja < k' by omega)
                obtain ⟨aw, haw⟩ : ∃ aw, aw = (N.getD ja (0, 0)).1 := ⟨_, rfl⟩
                rw [← haw] at ha0
                have HAW := Lib.hid haw
                have hjd : decide ((ja : Int) < 0) = false := by simp
                have hjk : (ja : Int) < (k' : Int) := by omega
                clear haw hmin
                by_cases hlw : xw < aw
                · have hld : decide ((xw : Int) < (aw : Int)) = true := by simpa using hlw
                  have HNEW : Hid (Two N (i + 1) (i : Int) (ja : Int)) := HTW.out.less (by rw [← HXW.out, ← HAW.out]; exact hlw)
                  clear hbb
                  go_big_quiet (fail)
                  go_wp2
                  exact ⟨⟨i + 1, (i : Int), (ja : Int), rfl, rfl, by go_num, by omega, HNEW.out, HKA.out.drewN nq⟩, by simp [intOf]; omega⟩
                · have hld : decide ((xw : Int) < (aw : Int)) = false := by simp; omega
                  have HNL : Hid (¬ (N.getD i (0, 0)).1 < (N.getD ja (0, 0)).1) := by rw [← HXW.out, ← HAW.out]; exact hlw
                  have HBB := Lib.hid hbb
                  clear hbb
                  go_big_quiet (fail)
                  have HK2 := Lib.hid (HKA.out.drewN nq)
                  have HO2 := Lib.hid (own_keeps HOA.out ((Keeps.refl (fun _ => False) wa).drewN nq) (fun _ _ => id))
                  have HB2 := Lib.hid (HBA.out.keeps ((Keeps.refl (fun _ => False) wa).drewN nq) id)
                  go_upto_region 14 with fail
                  clear HKA HOA HBA hb0 ha0
                  generalize wa.drewN nq = wb at HK2 HO2 HB2 ⊢
                  have hb0 : wb.cell? ⟨px, 0, none⟩ = some (.int .i64 (xw : Int)) := HB2.out.cell 0
                  rcases HBB.out with ⟨rfl, rfl⟩ | ⟨jb, rfl, hjb, hne, _⟩
                  · have HNEW := Lib.hid (HTW.out.second HNL.out)
                    go_big_quiet (fail)
                    go_wp2
                    exact ⟨⟨2, (ja : Int), 1, rfl, by go_num, by go_num, by omega, HNEW.out, HK2.out.drewN _⟩, by simp [intOf]; omega⟩
                  · obtain ⟨hc0, _, _, _⟩ := own_at HO2.out (show jb < k' by omega)
                    obtain ⟨bw, hbw'⟩ : ∃ bw, bw = (N.getD jb (0, 0)).1 := ⟨_, rfl⟩
                    rw [← hbw'] at hc0
                    have HBW := Lib.hid hbw'
                    have hjbd : decide ((jb : Int) < 0) = false := by simp
                    have hjbk : (jb : Int) < (k' : Int) := by omega
                    clear hbw'
                    by_cases hlb : xw < bw
                    · have hlbd : decide ((xw : Int) < (bw : Int)) = true := by simpa using hlb
                      have HNEW : Hid (Two N (i + 1) (ja : Int) (i : Int)) := HTW.out.other HNL.out (by rw [← HXW.out, ← HBW.out]; exact hlb)
                      go_big_quiet (fail)
                      go_wp2
                      exact ⟨⟨i + 1, (ja : Int), (i : Int), rfl, rfl, by go_num, by omega, HNEW.out, HK2.out.drewN _⟩, by simp [intOf]; omega⟩
                    · have hlbd : decide ((xw : Int) < (bw : Int)) = false := by simp; omega
                      have HNEW : Hid (Two N (i + 1) (ja : Int) (jb : Int)) := HTW.out.none_ HNL.out (by rw [← HXW.out, ← HBW.out]; exact hlb)
                      go_big_quiet (fail)
                      go_wp2
                      exact ⟨⟨i + 1, (ja : Int), (jb : Int), rfl, rfl, by go_num, by omega, HNEW.out, HK2.out.drewN _⟩, by simp [intOf]; omega⟩
            · obtain rfl : k' = i := by omega
              clear hlt hik
              obtain ⟨ja, jb, rfl, rfl⟩ : ∃ ja jb : Nat, a = (ja : Int) ∧ b' = (jb : Int) := by
                rcases HTW.out with ⟨h1, _⟩ | ⟨ja, e, _, _, ⟨h2, _⟩ | ⟨jb, e2, _⟩⟩
                · omega
                · omega
                · exact ⟨ja, jb, e, e2⟩
              obtain ⟨hja, hjb, hjne⟩ := tmin HTW.out (by omega)
              have HOW := Lib.hid (own_keeps HST.out.own HKX.out (fun _ _ => id))
              obtain ⟨ha0, ha1, _, _⟩ := own_at HOW.out hja
              obtain ⟨hb0, hb1, _, _⟩ := own_at HOW.out hjb
              obtain ⟨aw, haw⟩ : ∃ aw, aw = (N.getD ja (0, 0)).1 := ⟨_, rfl⟩
              obtain ⟨ad, had⟩ : ∃ ad, ad = (N.getD ja (0, 0)).2 := ⟨_, rfl⟩
              obtain ⟨bw, hbw'⟩ : ∃ bw, bw = (N.getD jb (0, 0)).1 := ⟨_, rfl⟩
              obtain ⟨bd, hbd⟩ : ∃ bd, bd = (N.getD jb (0, 0)).2 := ⟨_, rfl⟩
              rw [← haw] at ha0
              rw [← had] at ha1
              rw [← hbw'] at hb0
              rw [← hbd] at hb1
              have HJN : Hid (joined N ja jb = (aw + bw, max ad bd + 1)) := by show _ = _; rw [haw, had, hbw', hbd]; rfl
              have hab : aw + bw ≤ 39960 := by
                have hl := HST.out.len
                obtain ⟨R, p1, _⟩ := merge_perm (N := N) (by omega) (by omega) hjne
                have h1 := tot_perm p1
                rw [HST.out.tot] at h1
                simp [tot] at h1
                simp only [List.getD_eq_getElem?_getD] at haw hbw'
                omega
              have had2 : ad ≤ 40 ∧ bd ≤ 40 := by
                have hl := HST.out.len
                have g1 := HST.out.deep (N.getD ja (0, 0)) (by rw [getD_eq (by omega)]; exact List.getElem_mem _)
                have g2 := HST.out.deep (N.getD jb (0, 0)) (by rw [getD_eq (by omega)]; exact List.getElem_mem _)
                omega
              obtain ⟨md, hmd⟩ : ∃ md, md = max ad bd := ⟨_, rfl⟩
              have hmax := fun (ts : Array TypeId) (t : TypeId) (w : World) => run_max2 (P := Try.prog) ts t ad bd w
              rw [← hmd] at hmax HJN
              have hmd2 : md ≤ 40 := by omega
              have hjak : (ja : Int) < (k' : Int) := by omega
              have hjbk : (jb : Int) < (k' : Int) := by omega
              clear haw had hbw' hbd hmd
              have hgl : g < wr.heap.size := (HOW.out.lt g rfl).2
              have hgn : g ≠ wr.heap.size := by omega
              go_upto_region 17 with fail
              go_big_region
              go_upto_region 18 with fail
              have HKB := Lib.hid (((Keeps.refl (fun _ => False) wr).alloc (.cells #[.int .i64 ((aw : Int) + (bw : Int)), .int .i64 ((md : Int) + 1)] 81)).drewN 1)
              have HBX : Hid (Blk ((wr.alloc (.cells #[.int .i64 ((aw : Int) + (bw : Int)), .int .i64 ((md : Int) + 1)] 81)).drewN 1) wr.heap.size 81 #[.int .i64 ((aw : Int) + (bw : Int)), .int .i64 ((md : Int) + 1)]) := (Blk.new wr 81 #[.int .i64 ((aw : Int) + (bw : Int)), .int .i64 ((md : Int) + 1)]).drewN 1
              obtain ⟨wd, hwd⟩ : ∃ wd, wd = (wr.alloc (.cells #[.int .i64 ((aw : Int) + (bw : Int)), .int .i64 ((md : Int) + 1)] 81)).drewN 1 := ⟨_, rfl⟩
              rw [← hwd] at HKB HBX
              change wd = (wr.alloc (.cells #[.int .i64 ((aw : Int) + (bw : Int)), .int .i64 ((md : Int) + 1)] 81)).drew at hwd
              rw [← hwd]
              obtain ⟨px, hpx⟩ : ∃ px, px = wr.heap.size := ⟨_, rfl⟩
              rw [← hpx] at HBX hgl hgn
              rw [← hpx]
              clear hwd hpx ha0 ha1 hb0 hb1 hmax
              have HOD := Lib.hid (own_keeps HOW.out HKB.out (fun _ _ => id))
              have HKD := Lib.hid (HKX.out.trans HKB.out)
              clear HOW HKX HKB
              have hx0 : wd.cell? ⟨px, 0, none⟩ = some (.int .i64 ((aw : Int) + (bw : Int))) := HBX.out.cell 0
              have hx1 : wd.cell? ⟨px, 1, none⟩ = some (.int .i64 ((md : Int) + 1)) := HBX.out.cell 1
              obtain ⟨p, hp⟩ : ∃ p, p = min ja jb := ⟨_, rfl⟩
              obtain ⟨q, hq⟩ : ∃ q, q = max ja jb := ⟨_, rfl⟩
              have hmin := fun (ts : Array TypeId) (t : TypeId) (w : World) => run_min2 (P := Try.prog) ts t ja jb w
              have hmax := fun (ts : Array TypeId) (t : TypeId) (w : World) => run_max2 (P := Try.prog) ts t ja jb w
              rw [← hp] at hmin
              rw [← hq] at hmax
              have hpk : p < k' := by omega
              have hqk : q < k' := by omega
              have hpki : (p : Int) < (k' : Int) := by omega
              have HPQ := Lib.hid (show p = min ja jb ∧ q = max ja jb from ⟨hp, hq⟩)
              obtain ⟨hp0, hp1, hf0, hf1⟩ := own_at HOD.out hpk
              have HSE : Hid (((wd.setCell ⟨g, p * 2, none⟩ (.int .i64 ((aw : Int) + (bw : Int)))).setCell ⟨g, p * 2 + 1, none⟩ (.int .i64 ((md : Int) + 1))).ownsRow w.heap.size 81 2 (.slice (some ⟨g, 0, none⟩) k' c') k' (nds (N.set p (joined N ja jb)))) := by
                have h1 := own_set2 HOD.out hpk (joined N ja jb)
                show World.ownsRow _ _ _ _ _ _ _
                rw [HJN.out] at h1 ⊢
                simpa using h1
              have HKS : Hid (Keeps (fun _ => False) w ((wd.setCell ⟨g, p * 2, none⟩ (.int .i64 ((aw : Int) + (bw : Int)))).setCell ⟨g, p * 2 + 1, none⟩ (.int .i64 ((md : Int) + 1)))) := by
                have hg1 := (HOD.out.lt g rfl).1
                exact ((HST.out.keeps.trans HKD.out).setCell (p := ⟨g, p * 2, none⟩) (.inr hg1) _).setCell (p := ⟨g, p * 2 + 1, none⟩) (.inr hg1) _
              clear hp hq
              go_upto_region 20 with fail
              obtain ⟨we, hwe⟩ : ∃ we, we = (wd.setCell ⟨g, p * 2, none⟩ (.int .i64 ((aw : Int) + (bw : Int)))).setCell ⟨g, p * 2 + 1, none⟩ (.int .i64 ((md : Int) + 1)) := ⟨_, rfl⟩
              rw [← hwe] at HSE HKS
              rw [← hwe]
              clear hwe hx0 hx1 hp0 hp1 hf0 hf1 hmin HBX HOD HKD
              have hkc : k' ≤ c' := by obtain ⟨_, _, e, hc⟩ := own_form HSE.out; injection e with _ _ e; subst e; exact hc
              have hcut1 := fun (W : World) => So.run_cut_to (P := Try.prog) 79 81 2 (some ⟨g, 0, none⟩) k' c' q Try.underlying79 node_size (by omega) W
              obtain ⟨ad', had'⟩ : ∃ ad' : Addr, ad' = if c' = q + 1 then ⟨g, 0, none⟩ else ⟨g, (q + 1) * 2, none⟩ := ⟨_, rfl⟩
              have hcut2 : ∀ W : World, (Instr.slice 79 (.slice (some ⟨g, 0, none⟩) k' c') (some (.int .i64 ((q : Int) + 1))) none none).run Try.prog W = .ok (.slice (some ad') (k' - (q + 1)) (c' - (q + 1))) W := by
                intro W
                have hel : Try.prog.elem 79 = 81 := by simp [Program.elem, Try.underlying79]
                rw [run_slice_l (P := Try.prog) W 79 (some ⟨g, 0, none⟩) k' c' (by rw [hel]; exact Try.underlying79) .i64 ((q : Int) + 1) (by omega) (by omega), hel, node_size]
                simp only [Result.andThen, sliced, show ((q : Int) + 1).toNat = q + 1 by omega]
                rw [had']
                by_cases he : c' = q + 1
                · rw [if_pos he, if_pos he]
                · rw [if_neg he, if_neg he, Option.map_some, add_none, Nat.zero_add]
              have HNW : Hid (∀ (W : World), W.heap = we.heap → ∀ j u, (nds ((N.set p (joined N ja jb)).drop (q + 1)))[j]? = some u → W.cell? (ad'.add j) = some u) := by
                intro W hW j u hu
                have hlen := HST.out.len
                have hj := (List.getElem?_eq_some_iff.1 hu).1
                rw [nds_len, List.length_drop, List.length_set] at hj
                have hne : c' ≠ q + 1 := by omega
                rw [had', if_neg hne, add_none]
                have h1 : (nds (N.set p (joined N ja jb)))[(q + 1) * 2 + j]? = some u := by
                  rw [← hu]
                  conv => lhs; rw [← List.take_append_drop (q + 1) (N.set p (joined N ja jb)), nds_app]
                  rw [List.getElem?_append_right (by rw [nds_len, List.length_take, List.length_set]; omega)]
                  congr 1
                  rw [nds_len, List.length_take, List.length_set]
                  omega
                have h2 := HSE.out.cells (g := g) rfl _ _ h1
                rw [add_none, Nat.zero_add] at h2
                have h3 : W.cell? ⟨g, (q + 1) * 2 + j, none⟩ = we.cell? ⟨g, (q + 1) * 2 + j, none⟩ := by unfold World.cell?; rw [hW]
                rw [h3]
                exact h2
              clear had'
              obtain ⟨q1, hq1⟩ : ∃ q1, q1 = q + 1 := ⟨_, rfl⟩
              have hq1i : (q : Int) + 1 = (q1 : Int) := by omega
              have HWQ : Hid (IntKind.i64.wrap ((q : Int) + 1) = (q1 : Int)) := by show _ = _; rw [IntKind.wrap_i64]; omega
              rw [hq1i] at hcut2
              rw [← hq1] at hcut2
              have HQ1 := Lib.hid hq1
              have HSD : Hid (we.drew.ownsRow w.heap.size 81 2 (.slice (some ⟨g, 0, none⟩) q c') q (nds ((N.set p (joined N ja jb)).take q))) := own_prefix (own_keeps HSE.out ((Keeps.refl (fun _ => False) we).drewN 1) (fun _ _ => id)) (by omega)
              have HKD : Hid (Keeps (fun _ => False) w we.drew) := HKS.out.drewN 1
              have HLD : Hid ((nds ((N.set p (joined N ja jb)).drop (q + 1))).length = (k' - q1) * 2) := by show _ = _; rw [nds_len, List.length_drop, List.length_set, HST.out.len, hq1]
              obtain ⟨v1, w5, hrun, hown1, hg1, _, _⟩ := run_append_own_at (P := Try.prog) we.drew w.heap.size 79 79 81 i0 _ 2 16 Try.underlying79 hi0 hz0 hz1 hz2 rfl (by omega) (.slice (some ⟨g, 0, none⟩) q c') q (nds ((N.set p (joined N ja jb)).take q)) HSD.out ad' (k' - q1) (c' - q1) (nds ((N.set p (joined N ja jb)).drop (q + 1))) HLD.out (HNW.out we.drew rfl) (nds_one _) (by simp only [maxLen]; omega) (by omega) HKD.out.size
              obtain ⟨A4, hA4⟩ : ∃ A4 c4, v1 = .slice A4 (q + (k' - q1)) c4 := by
                obtain ⟨A4, c4, rfl, _⟩ := own_form hown1
                exact ⟨A4, c4, rfl⟩
              obtain ⟨c4, rfl⟩ := hA4
              have HOE : Hid (w5.ownsRow w.heap.size 81 2 (.slice A4 (q + (k' - q1)) c4) (q + (k' - q1)) (nds (merge N ja jb))) := by
                show World.ownsRow _ _ _ _ _ _ _
                rw [merge_cells N ja jb (by rw [HST.out.len, ← HPQ.out.2]; exact hqk), ← HPQ.out.1, ← HPQ.out.2, nds_app]
                exact hown1
              have HKE := Lib.hid (HKD.out.grown hg1 (fun j hj => .inr (HSD.out.lt j hj).1))
              clear hown1 hg1 HSD HKD HLD HNW HSE HKS hq1
              obtain ⟨nn, hnn⟩ : ∃ nn, nn = q + (k' - q1) := ⟨_, rfl⟩
              rw [← hnn] at hrun HOE
              have HNN := Lib.hid hnn
              obtain ⟨n1, hn1⟩ : ∃ n1, n1 = k' - q1 := ⟨_, rfl⟩
              obtain ⟨n2, hn2⟩ : ∃ n2, n2 = c' - q1 := ⟨_, rfl⟩
              rw [← hn1, ← hn2] at hcut2 hrun
              have hq1k : (q1 : Int) ≤ (k' : Int) := by omega
              clear hnn hn1 hn2 hq1i
              have HRUN := Lib.hid hrun
              clear hrun
              have HCU := Lib.hid hcut2
              clear hcut2
              refine wp_region_still_tail 11 (by kernel_rfl) (by kernel_rfl) ?_
              simp only [List.take_succ_cons, List.take_zero, List.drop_succ_cons, List.drop_zero]
              iterate 10 still_step
              rw [HWQ.out]
              have hcut2 := HCU.out
              still_step
              refine wpStill_nil ?_
              refine wpList_append_run rfl (.tmp 101) (.tmp 107) 79 rfl _ _ _ _ rfl rfl 79 rfl HRUN.out ?_
              clear hcut1 hcut2
              go_wp2
              obtain ⟨kk, hkk⟩ : ∃ kk, k' = kk + 1 := ⟨k' - 1, by omega⟩
              subst hkk
              obtain rfl : nn = kk := by have := HQ1.out; have := HNN.out; omega
              have hfin := HST.out.merged (by omega) HTW.out HOE.out HKE.out
              rw [HJN.out] at hfin
              refine ⟨⟨A4, nn, c4, s + (aw + bw), _, rfl, by go_num, by omega, by omega, hfin⟩, by simp [slLen]⟩
        · obtain rfl : k' = 1 := by omega
          obtain ⟨x, hx⟩ : ∃ x, N = [x] := List.length_eq_one_iff.1 HST.out.len
          subst hx
          obtain ⟨_, hd1, _, _⟩ := own_at HST.out.own (show 0 < 1 by omega)
          simp only [List.getD_cons_zero, Nat.zero_mul, Nat.zero_add] at hd1
          have HME := Lib.hid (HST.out.back 0 x.2 (Merges.one x))
          obtain ⟨x1, x2⟩ := x
          simp only [Nat.add_zero] at hd1 HME
          go_wp2
          go_ret2
          exact ⟨s, x2, rfl, ⟨N0, HME.out, HPM.out⟩, HST.out.keeps⟩
    · intro x cc kl w2 cn2 hkey hmem hnew hrg2 hlt hk2 hen
      obtain ⟨x', hx1, rfl, hwx⟩ := Go.Maps.keyOf_int_inv Try.underlying3 hkey
      injection hx1 with _ hx1
      subst hx1
      have hmt : mv met ++ [(Lit.int .i64 x, Value.int .i64 (cc : Int))] = mv (met ++ [(x, cc)]) := by rw [mv_app]; rfl
      rw [hmt] at hrg2
      have hor := own_ne_rg HT.out.own HT.out.rg
      have HOA := Lib.hid (own_keeps (own_keeps HT.out.own hk2 (fun b hb e => hor (by rw [hb, e]))) ((Keeps.refl (fun _ => False) _).alloc (.cells #[.int .i64 (cc : Int), .int .i64 0] 81)) (fun _ _ => id))
      have HRA := Lib.hid (hrg2.keeps ((Keeps.refl (fun _ => False) _).alloc (.cells #[.int .i64 (cc : Int), .int .i64 0] 81)) id id)
      have HKA := Lib.hid ((keeps_low HT.out.keeps hk2 (fun y hy => by have := HRR.out; omega)).alloc (.cells #[.int .i64 (cc : Int), .int .i64 0] 81))
      have HNW := Lib.hid (cell_two w2 (.int .i64 (cc : Int)) (.int .i64 0) 81)
      have HEQ := Lib.hid HT.out.rg.left_eq
      have HLT := Lib.hid hlt
      clear hkey hmem hnew hrg2 hk2 hor hmt HT hlt hwx
      go_wp2_with (
        at_builtin
        refine wpList_append_own_at _ rfl (.tmp 20) (.tmp 23) _ rfl w.heap.size 81 i0 _ 2 16 Try.underlying79 hi0 hz0 hz1 hz2 rfl (by omega) (.slice A k c) k (nds (ofC met)) rfl
          HOA.out ⟨w2.heap.size, 0, none⟩ 1 1 [.int .i64 (cc : Int), .int .i64 0] rfl rfl HNW.out (by simp [Value.oneCell']) (by simp only [maxLen]; omega) (by omega) HKA.out.size ?_
        intro v1 w5 hown1 hg1 hnil1 hat1
        have HG5 : Hid (∀ A4 c4, v1 = .slice A4 (k + 1) c4 → Gst w w5 b r m (met ++ [(x, cc)]) A4 (k + 1) c4 cn2) := by
          rintro A4 c4 rfl
          have h1 : Keeps (fun j => Value.ownBlock (.slice A k c) = some j) _ w5 := Keeps.grown (Keeps.refl _ _) hg1 (fun j hj => .inl hj)
          refine ⟨HRA.out.keeps h1 (fun e => own_ne_map HOA.out HRA.out.isM e) (fun e => own_ne_rg HOA.out HRA.out e), ?_, HKA.out.grown hg1 (fun j hj => .inr (HOA.out.lt j hj).1)⟩
          have e : nds (ofC (met ++ [(x, cc)])) = nds (ofC met) ++ [.int .i64 (cc : Int), .int .i64 0] := by
            rw [ofC, List.map_append, nds_app]
            rfl
          rw [e]
          exact hown1
        obtain ⟨A4, hA4⟩ : ∃ A4 c4, v1 = .slice A4 (k + 1) c4 := by
          obtain ⟨A4, c4, rfl, _⟩ := own_form hown1
          exact ⟨A4, c4, rfl⟩
        obtain ⟨c4, rfl⟩ := hA4
        have HGG := Lib.hid (HG5.out A4 c4 rfl)
        clear hown1 hg1 hnil1 hat1 HG5)
      refine ⟨⟨met ++ [(x, cc)], A4, k + 1, c4, cn2, rfl, by rw [List.length_append, HK.out]; rfl, HGG.out⟩, ?_⟩
      rw [HGG.out.rg.left_eq, HEQ.out]
      exact HLT.out
end Go.Proofs.Ytaamnbminmcbpaa.Nd

/- The numbers of a map of counts, the rarest first: the call. -/
import Derived.Test.YtaamnbminmcbpaaDoorHufRare
namespace Go.Proofs.YtaamnbminmcbpaaDoor.Hf
open Go.RowKit Go.Shelf Go.Lib Go.Sort Go.Proofs.YtaamnbminmcbpaaDoor.Gen Go.Proofs.YtaamnbminmcbpaaDoor.Mp Go.Proofs.YtaamnbminmcbpaaDoor.Hr Go.Proofs.YtaamnbminmcbpaaDoor.Hp Go.Proofs.YtaamnbminmcbpaaDoor.Hm Go.Proofs.YtaamnbminmcbpaaDoor.Hg Go.Proofs.YtaamnbminmcbpaaDoor.So Go.Proofs.YtaamnbminmcbpaaDoor.Hs

/-- Numbers that have come, gathered. -/
structure Col (w wr : World) (b p r : Nat) (m met : List (Int × Nat)) (A : Option Addr) (k c cn : Nat) : Prop where
  rg : Rgs Tryd.prog 3 wr b r (mv m) (mv met) cn
  own : wr.ownsRow w.heap.size 3 1 (.slice A k c) k (iv (met.map (·.1)))
  box : Blk wr p 48 #[.map (some b)]
  wf : ∀ q ∈ met, (Lit.int .i64 q.1).wf = true
  keeps : Keeps (fun _ => False) w wr
  some_ : A ≠ none
theorem own_ne_map {P : Program} {k : TypeId} {w : World} {base : Nat} {e : TypeId} {size n b : Nat} {v : Value} {xs : List Value} {m : List (Lit × Value)} (h : w.ownsRow base e size v n xs) (hb : IsM P k w b m) : v.ownBlock ≠ some b := by
  rcases h.2 with ⟨rfl, _⟩ | ⟨g', cap, cur, rfl, _, hh, _⟩
  · simp [Value.ownBlock]
  · intro he
    have : g' = b := by simpa [Value.ownBlock] using he
    subst this
    exact hb.ne_blk (t := e) hh rfl
theorem own_ne_rg {P : Program} {k : TypeId} {w : World} {base : Nat} {e : TypeId} {size n b r cn : Nat} {v : Value} {xs : List Value} {m met : List (Lit × Value)} (h : w.ownsRow base e size v n xs) (hb : Rgs P k w b r m met cn) : v.ownBlock ≠ some r := by
  rcases h.2 with ⟨rfl, _⟩ | ⟨g', cap, cur, rfl, _, hh, _⟩
  · simp [Value.ownBlock]
  · intro he
    have : g' = r := by simpa [Value.ownBlock] using he
    subst this
    exact hb.ne_blk (t := e) hh rfl
theorem own_some {w : World} {base : Nat} {e : TypeId} {size n c : Nat} {A : Option Addr} {xs : List Value} (h : w.ownsRow base e size (.slice A n c) n xs) (h0 : 0 < n ∨ A ≠ none) : ∃ g, A = some ⟨g, 0, none⟩ := by
  rcases h.2 with ⟨hv, hn⟩ | ⟨g', cap, cur, hv, _⟩
  · injection hv with hv
    rcases h0 with h0 | h0
    · omega
    · exact absurd hv h0
  · injection hv with hv
    exact ⟨g', hv⟩
theorem keeps_low {w wr w1 : World} {S : Nat → Prop} (h : Keeps (fun _ => False) w wr) (k : Keeps S wr w1) (hw : ∀ x, S x → w.heap.size ≤ x) : Keeps (fun _ => False) w w1 :=
  ⟨k.os.trans h.os, k.tape.trans h.tape, k.output.trans h.output, Nat.le_trans h.size k.size, fun x hx hn => (k.block x (Nat.lt_of_lt_of_le hx h.size) (fun hs => by have := hw x hs; omega)).trans (h.block x hx hn)⟩
theorem cell_one (w : World) (u : Value) (t : TypeId) : ∀ (j : Nat) (x : Value), [u][j]? = some x → (w.alloc (.cells #[u] t)).cell? ((⟨w.heap.size, 0, none⟩ : Addr).add j) = some x := by
  intro j x hx
  rw [add_none, (Blk.new w t #[u]).cell]
  simpa using hx

set_option maxHeartbeats 1600000 in
set_option maxRecDepth 4000 in
theorem rarest_ (b n : Nat) (m : List (Int × Nat)) (w : World) (h : IsM Tryd.prog 3 w b (mv m)) (hn : m.length = n) (hs : n ≤ 1000) :
    Calls Tryd.prog 27 #[.map (some b)] w fun r w' => ∃ g c N, r = .returned (.slice (some ⟨g, 0, none⟩) n c) ∧ w'.ownsRow w.heap.size 3 1 (.slice (some ⟨g, 0, none⟩) n c) n (iv N) ∧ N.Perm (m.map (·.1)) ∧ N.Pairwise (fun x y => cnt m x ≤ cnt m y) ∧ Keeps (fun _ => False) w w' := by
  have HM := Lib.hid h
  have HN := Lib.hid hn
  have hbw := h.lt
  clear h hn
  obtain ⟨i0, hi0, hz0, hz1, hz2⟩ := info_parts int_info
  go_enter Tryd.func27, Tryd.ntmps27
  have HB0 := Lib.hid (Blk.new w 48 #[.map (some b)])
  have hc0 : (w.alloc (.cells #[.map (some b)] 48)).cell? ⟨w.heap.size, 0, none⟩ = some (.map (some b)) := HB0.out.cell 0
  have HM0 := Lib.hid (HM.out.keeps ((Keeps.refl (fun _ => False) w).alloc (.cells #[.map (some b)] 48)) id)
  have HK0 := Lib.hid ((Keeps.refl (fun _ => False) w).alloc (.cells #[.map (some b)] 48))
  go_wp2_with (first
    | (at_len
       refine wpList_len_m _ rfl _ _ rfl 3 3 Tryd.underlying48 b n (mv m) rfl HM0.out (by rw [mv_len]; exact HN.out) ?_)
    | (at_make
       refine wpList_make_own _ rfl _ _ _ rfl w.heap.size 3 i0 _ 1 Tryd.underlying69 hi0 hz0 hz1 .i64 .i64 _ n rfl rfl rfl (by rw [hz2]; omega) (by simp only [maxLen]; omega) HK0.out.size ?_
       intro w1 hown hg
       have HK1 := Lib.hid (HK0.out.grown hg (fun _ h => by cases h))
       have HB1 := Lib.hid (HB0.out.grown hg (by simp))
       have hc1 : w1.cell? ⟨w.heap.size, 0, none⟩ = some (.map (some b)) := HB1.out.cell 0
       have HM1 := Lib.hid (HM.out.keeps HK1.out id)
       have HO1 := Lib.hid hown
       clear hown hg)
    | (at_range
       refine wpList_range_m _ rfl _ _ rfl 3 3 int_key Tryd.underlying48 b (mv m) rfl HM1.out ?_
       intro w2 hrg2 hk2
       have HC : Hid (Col w w2 b w.heap.size w1.heap.size m [] (some ⟨(w.alloc (.cells #[.map (some b)] 48)).heap.size, 0, none⟩) 0 n (mv m).length) := ⟨hrg2, own_keeps HO1.out hk2 (fun _ _ => id), HB1.out.keeps hk2 id, by simp, HK1.out.trans hk2, by simp⟩
       clear hrg2 hk2))
  go_frame
  have hrl := HK1.out.size
  clear hc0 hc1 HB0 HB1 HM0 HM1 HO1 HK0 HK1
  generalize w1.heap.size = r at *
  have hml : m.length = n := HN.out
  go_loopw [3] (fun sv wr => ∃ (met : List (Int × Nat)) (A : Option Addr) (k c cn : Nat), sv = .slice A k c ∧ met.length = k ∧ Col w wr b w.heap.size r m met A k c cn) (fun _ wr => wr.rangeLeft b r)
  case atStart => exact ⟨[], _, 0, n, _, by simp, rfl, HC.out⟩
  case round =>
    clear HC
    obtain ⟨met, A, k, c, cn, rfl, hk, hst⟩ := hrel
    have HT := Lib.hid hst
    have HK := Lib.hid hk
    have hkn : k ≤ n := by
      have := hst.rg.len
      rw [mv_len, mv_len, hml, hk] at this
      exact this
    clear hst hk hml
    go_wp2_with (
      at_next
      refine wpList_next_m _ rfl _ rfl 3 int_key (Value.int .i64) (fun c : Nat => Value.int .i64 (c : Int)) int_shape b r (mv m) (mv met) cn (mv_shape m) rfl HT.out.rg ?_ ?_)
    · intro hperm
      have HP := Lib.hid hperm
      clear hperm
      obtain ⟨g, rfl⟩ := own_some HT.out.own (.inr HT.out.some_)
      have hpm : met.Perm m := by
        have := HP.out.map un
        rw [un_mv, un_mv] at this
        exact this
      have hkn2 : k = n := by rw [← HK.out, hpm.length_eq]; exact HN.out
      subst hkn2
      have hgl := (HT.out.own.lt g rfl).1
      have HPM := Lib.hid hpm
      clear hpm
      go_wp2_with fail
      refine (sort_rare b w.heap.size g c k w.heap.size m (met.map (·.1)) wr HT.out.rg.isM HT.out.box HT.out.own (by intro x hx; rw [List.mem_map] at hx; obtain ⟨q, hq, rfl⟩ := hx; exact HT.out.wf q hq) (by rw [List.length_map]; exact HK.out) (by omega)).mono ?_
      rintro e w3 ⟨rfl, hk3, N, hN1, hN2, hN3⟩
      have H1 := Lib.hid (hN1.trans (HPM.out.map (·.1)))
      have H2 := Lib.hid hN2
      have H3 := Lib.hid hN3
      have H4 := Lib.hid (keeps_low HT.out.keeps hk3 (fun x hx => by omega))
      clear hk3 hN1 hN2 hN3 HT HM
      go_wp2
      go_ret
      exact ⟨g, c, N, rfl, H3.out, H1.out, H2.out, H4.out⟩
    · intro x cc kl w2 cn2 hkey hmem hnew hrg2 hlt hk2 hen
      obtain ⟨x', hx1, rfl, hwx⟩ := Go.Maps.keyOf_int_inv Tryd.underlying3 hkey
      injection hx1 with _ hx1
      subst hx1
      have hmt : mv met ++ [(Lit.int .i64 x, Value.int .i64 (cc : Int))] = mv (met ++ [(x, cc)]) := by rw [mv_app]; rfl
      rw [hmt] at hrg2
      have hor := own_ne_rg HT.out.own HT.out.rg
      have HOA := Lib.hid (own_keeps (own_keeps HT.out.own hk2 (fun b hb e => hor (by rw [hb, e]))) ((Keeps.refl (fun _ => False) _).alloc (.cells #[.int .i64 x] 3)) (fun _ _ => id))
      have HBA := Lib.hid ((HT.out.box.keeps hk2 (HT.out.rg.ne_blk HT.out.box)).alloc (.cells #[.int .i64 x] 3))
      have HRA := Lib.hid (hrg2.keeps ((Keeps.refl (fun _ => False) _).alloc (.cells #[.int .i64 x] 3)) id id)
      have HKA := Lib.hid ((keeps_low HT.out.keeps hk2 (fun y hy => by omega)).alloc (.cells #[.int .i64 x] 3))
      have HNW := Lib.hid (cell_one w2 (.int .i64 x) 3)
      have HEQ := Lib.hid HT.out.rg.left_eq
      have HWF := Lib.hid HT.out.wf
      have HSM := Lib.hid HT.out.some_
      have HLT := Lib.hid hlt
      have HWX := Lib.hid hwx
      clear hkey hmem hnew hrg2 hk2 hor hmt HT hlt hwx
      go_wp2_with (
        at_builtin
        refine wpList_append_own_at _ rfl (.tmp 14) (.tmp 16) _ rfl w.heap.size 3 i0 _ 1 8 Tryd.underlying69 hi0 hz0 hz1 hz2 rfl (by omega) (.slice A k c) k (iv (met.map (·.1))) rfl
          HOA.out ⟨w2.heap.size, 0, none⟩ 1 1 [.int .i64 x] rfl rfl HNW.out (by simp [Value.oneCell']) (by simp only [maxLen]; omega) (by omega) HKA.out.size ?_
        intro v1 w5 hown1 hg1 hnil1 hat1
        have HC5 : Hid (∀ A4 c4, v1 = .slice A4 (k + 1) c4 → A4 ≠ none → Col w w5 b w.heap.size r m (met ++ [(x, cc)]) A4 (k + 1) c4 cn2) := by
          rintro A4 c4 rfl hA4
          have h1 : Keeps (fun j => Value.ownBlock (.slice A k c) = some j) _ w5 := Keeps.grown (Keeps.refl _ _) hg1 (fun j hj => .inl hj)
          refine ⟨HRA.out.keeps h1 (fun e => own_ne_map HOA.out HRA.out.isM e) (fun e => own_ne_rg HOA.out HRA.out e), ?_, HBA.out.keeps h1 (fun e => own_ne HOA.out HBA.out (by decide) e), ?_, HKA.out.grown hg1 (fun j hj => .inr (HOA.out.lt j hj).1), hA4⟩
          · rw [List.map_append, iv_app]
            exact hown1
          · intro q hq
            rcases List.mem_append.1 hq with hq | hq
            · exact HWF.out q hq
            · rw [List.mem_singleton] at hq
              rw [hq]
              exact HWX.out
        obtain ⟨g4, hg4⟩ : ∃ g4 c4, v1 = .slice (some ⟨g4, 0, none⟩) (k + 1) c4 := by
          obtain ⟨A4, c4, rfl, _⟩ := own_form hown1
          obtain ⟨g4, rfl⟩ := own_some hown1 (.inl (by omega))
          exact ⟨g4, c4, rfl⟩
        obtain ⟨c4, rfl⟩ := hg4
        have HC6 := Lib.hid (HC5.out _ _ rfl (by simp))
        clear hown1 hg1 hnil1 hat1 HC5)
      refine ⟨⟨met ++ [(x, cc)], some ⟨g4, 0, none⟩, k + 1, c4, cn2, rfl, by simp [HK.out], HC6.out⟩, ?_⟩
      rw [HC6.out.rg.left_eq, HEQ.out]
      exact HLT.out
end Go.Proofs.YtaamnbminmcbpaaDoor.Hf

/- A fixed fact: chapter 5's example. -/
import Derived.Test.YtaamnbminmcbpaaDoorHufSizesC
namespace Go.Proofs.YtaamnbminmcbpaaDoor.Ha
open Go.RowKit Go.Shelf Go.Lib Go.Sort Go.Proofs.YtaamnbminmcbpaaDoor.Gen Go.Proofs.YtaamnbminmcbpaaDoor.Mp Go.Proofs.YtaamnbminmcbpaaDoor.Hr Go.Proofs.YtaamnbminmcbpaaDoor.Hp Go.Proofs.YtaamnbminmcbpaaDoor.Hm Go.Proofs.YtaamnbminmcbpaaDoor.Hg Go.Proofs.YtaamnbminmcbpaaDoor.So Go.Proofs.YtaamnbminmcbpaaDoor.Hs Go.Proofs.YtaamnbminmcbpaaDoor.Hf Go.Proofs.YtaamnbminmcbpaaDoor.Hz

theorem rise_unique : ∀ {L M : List (Int × Nat)}, L.Perm M → L.Pairwise (fun x y => x.1 < y.1) → M.Pairwise (fun x y => x.1 < y.1) → L = M
  | [], M, h, _, _ => by simpa using h.symm.eq_nil.symm
  | x :: L, [], h, _, _ => absurd h.length_eq (by simp)
  | x :: L, y :: M, h, hL, hM => by
    rw [List.pairwise_cons] at hL hM
    have hx : x ∈ y :: M := h.subset (by simp)
    have hy : y ∈ x :: L := h.symm.subset (by simp)
    have he : x = y := by
      rcases List.mem_cons.1 hx with e | hx
      · exact e
      · rcases List.mem_cons.1 hy with e | hy
        · exact e.symm
        · have h1 := hL.1 y hy
          have h2 := hM.1 x hx
          omega
    subst he
    rw [rise_unique ((List.perm_cons x).1 h) hL.2 hM.2]
theorem ex_sizes : sizes [1, 1, 5] = [2, 2, 1] := by decide +kernel
theorem mem3 {x : Int} (h : x ∈ ([1, 2, 3] : List Int)) : x = 1 ∨ x = 2 ∨ x = 3 := by simpa using h
theorem example_ {L : List (Int × Nat)} (h : SizesAre [(1, 5), (2, 1), (3, 1)] L) : L = [(1, 1), (2, 2), (3, 2)] := by
  obtain ⟨N, h1, h2, h3⟩ := h.ex
  have hr := h.rise
  have c1 : cnt [(1, 5), (2, 1), (3, 1)] 1 = 5 := by decide
  have c2 : cnt [(1, 5), (2, 1), (3, 1)] 2 = 1 := by decide
  have c3 : cnt [(1, 5), (2, 1), (3, 1)] 3 = 1 := by decide
  have hl := h1.length_eq
  have hnd : N.Nodup := h1.nodup_iff.2 (by decide)
  match N, hl with
  | [a, b, c], _ =>
    have ha := mem3 (h1.subset (show a ∈ [a, b, c] by simp))
    have hb := mem3 (h1.subset (show b ∈ [a, b, c] by simp))
    have hc := mem3 (h1.subset (show c ∈ [a, b, c] by simp))
    have fin : (a = 2 ∧ b = 3 ∧ c = 1) ∨ (a = 3 ∧ b = 2 ∧ c = 1) := by
      rcases ha with rfl | rfl | rfl <;> rcases hb with rfl | rfl | rfl <;> rcases hc with rfl | rfl | rfl <;> simp [c1, c2, c3] at hnd h2 ⊢
    rcases fin with ⟨rfl, rfl, rfl⟩ | ⟨rfl, rfl, rfl⟩
    · simp only [List.map_cons, List.map_nil, c1, c2, c3, ex_sizes] at h3
      exact rise_unique (h3.trans (by decide)) hr (by decide)
    · simp only [List.map_cons, List.map_nil, c1, c2, c3, ex_sizes] at h3
      exact rise_unique (h3.trans (by decide)) hr (by decide)
theorem key_i (x : Int) (h : (Lit.int .i64 x).wf = true) : keyOf Tryd.prog 3 (.int .i64 x) = some (.int .i64 x) := Go.Maps.keyOf_int_mk Tryd.underlying3 h

set_option maxHeartbeats 1600000 in
set_option maxRecDepth 4000 in
theorem awake_ (w : World) : Calls Tryd.prog 4 #[] w fun r w' => r = .returned (.bool true) ∧ Keeps (fun _ => False) w w' := by
  have hmm := @run_makeMap Tryd.prog
  go_enter Tryd.func4, Tryd.ntmps4
  have HM0 := Lib.hid (IsM.new Tryd.prog 3 w)
  have HK0 := Lib.hid ((Keeps.refl (fun _ => False) w).alloc (.map #[] 0))
  go_wp2_with (first
    | (refine wpList_insert_m _ rfl (.tmp 4) (.const (.int .i64 1)) (.const (.int .i64 5)) _ rfl 3 3 int_key Tryd.underlying48 w.heap.size [] rfl HM0.out (by simp) (.int .i64 1) (.int .i64 5) _ rfl rfl (key_i 1 (by decide)) ?_
       intro w1 h1 k1
       have HM1 := Lib.hid h1
       have HK1 := Lib.hid (keeps_low HK0.out k1 (fun y hy => by omega))
       clear h1 k1)
    | (refine wpList_insert_m _ rfl (.tmp 4) (.const (.int .i64 2)) (.const (.int .i64 1)) _ rfl 3 3 int_key Tryd.underlying48 w.heap.size _ rfl HM1.out (by simp [upd, Lit.sameKey]) (.int .i64 2) (.int .i64 1) _ rfl rfl (key_i 2 (by decide)) ?_
       intro w2 h2 k2
       have HM2 := Lib.hid h2
       have HK2 := Lib.hid (keeps_low HK1.out k2 (fun y hy => by omega))
       clear h2 k2)
    | (refine wpList_insert_m _ rfl (.tmp 4) (.const (.int .i64 3)) (.const (.int .i64 1)) _ rfl 3 3 int_key Tryd.underlying48 w.heap.size _ rfl HM2.out (by simp [upd, Lit.sameKey]) (.int .i64 3) (.int .i64 1) _ rfl rfl (key_i 3 (by decide)) ?_
       intro w3 h3 k3
       have HM3 := Lib.hid h3
       have HK3 := Lib.hid (keeps_low HK2.out k3 (fun y hy => by omega))
       clear h3 k3))
  have hmi : upd (upd (upd [] (.int .i64 1) (.int .i64 5)) (.int .i64 2) (.int .i64 1)) (.int .i64 3) (.int .i64 1) = mi [(1, 5), (2, 1), (3, 1)] := by simp [upd, mi, Lit.sameKey]
  have HM4 : Hid (IsM Tryd.prog 3 w3 w.heap.size (mi [(1, 5), (2, 1), (3, 1)])) := by
    have := HM3.out
    rw [hmi] at this
    exact this
  refine (sizes_ w.heap.size 3 _ w3 HM4.out rfl (by omega)).mono ?_
  rintro e w4 ⟨ha, hk4⟩
  have hg : ∀ p ∈ ([(1, 5), (2, 1), (3, 1)] : List (Int × Int)), Hz.Good p := by
    intro p hp
    simp at hp
    rcases hp with rfl | rfl | rfl <;> (unfold Hz.Good; simp)
  rcases ha with ⟨h, _⟩ | ⟨_, ⟨p, hp, hb⟩, _⟩ | ⟨_, _, g, L, rfl, hbl, _, _, hs⟩
  · omega
  · exact absurd (hg p hp) hb
  have hL := example_ (L := L) hs
  subst hL
  have HK4 := Lib.hid (HK3.out.trans hk4)
  have a0 : w4.cell? ⟨g, 0, none⟩ = some (.int .i64 1) := hbl.cell 0
  have a1 : w4.cell? ⟨g, 1, none⟩ = some (.int .i64 1) := hbl.cell 1
  have a5 : w4.cell? ⟨g, 5, none⟩ = some (.int .i64 2) := hbl.cell 5
  clear hk4 hg hbl hs HM4 hmi
  go_wp2
  go_ret
  exact ⟨rfl, HK4.out⟩
end Go.Proofs.YtaamnbminmcbpaaDoor.Ha

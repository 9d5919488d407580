/- Entries by their sizes (huff's shortestFirst): a row of its own, the line of words. -/
import Derived.Test.YtbicieflcgifdaaHufStS
import Derived.Test.YtbicieflcgifdaaHufCmp
import Derived.Test.YtbicieflcgifdaaHufWord
namespace Go.Proofs.Ytbicieflcgifdaa.Ss
open Go.Proofs.Ytbicieflcgifdaa.Cm Go.RowKit Go.Shelf Go.Sort Go.Proofs.Ytbicieflcgifdaa.Gen Go.Proofs.Ytbicieflcgifdaa.Mp Go.Proofs.Ytbicieflcgifdaa.Hr Go.Proofs.Ytbicieflcgifdaa.Hp Go.Proofs.Ytbicieflcgifdaa.Hg Go.Proofs.Ytbicieflcgifdaa.So Go.Proofs.Ytbicieflcgifdaa.Hs Go.Proofs.Ytbicieflcgifdaa.Hf Go.Proofs.Ytbicieflcgifdaa.Hz Go.Proofs.Ytbicieflcgifdaa.St Go.Proofs.Ytbicieflcgifdaa.Ln Go.Proofs.Ytbicieflcgifdaa.Hw

theorem closureS : CmpS := by
  intro x y W
  have hcon := fun W' => cmpI_ (x.2 : Int) (y.2 : Int) W'
  change ∀ W', Calls Try.prog 92 _ _ _ at hcon
  generalize Lib.compareInt (x.2 : Int) (y.2 : Int) = r at hcon ⊢
  go_enter Try.func91, Try.ntmps91
  go_wp2_with (go_at_call 92; refine (hcon _).mono ?_; rintro e w' ⟨rfl, rfl⟩)
  go_ret
  exact ⟨rfl, 0, _, by rw [alloc_eq_grow, alloc_eq_grow, grow_grow]; rfl⟩
theorem evs_one (l : List (Int × Nat)) : ∀ u ∈ evs l, u.oneCell' = true := by
  intro u hu
  simp only [evs, List.mem_flatMap] at hu
  obtain ⟨x, _, hx⟩ := hu
  simp [ev] at hx
  rcases hx with rfl | rfl <;> rfl
/-- A row of one's own, as a block. -/
theorem row_own {w : World} {base n c : Nat} {A : Option Addr} {L : List (Int × Nat)} (h : w.ownsRow base 71 2 (.slice A n c) n (evs L)) (h0 : 0 < n) : ∃ g T, A = some ⟨g, 0, none⟩ ∧ base ≤ g ∧ Row w g L T := by
  rcases h.2 with ⟨hv, hn⟩ | ⟨g, cap, cur, hv, hb, hh, h1, h2, h3, h4⟩
  · omega
  · injection hv with hA _ hc
    refine ⟨g, cur.toList.drop (n * 2), hA, hb, ?_⟩
    show w.heap[g]? = _
    rw [hh]
    congr 2
    rw [← h4, List.take_append_drop]
theorem cloneE_ (ad : Addr) (n c : Nat) (L : List (Int × Nat)) (w : World) (hL : RowAt w (some ad) (evs L)) (hn : L.length = n) (h0 : 0 < n) (hs : n ≤ 1000) :
    Calls Try.prog 89 #[.slice (some ad) n c] w fun r w' => ∃ g c' T, r = .returned (.slice (some ⟨g, 0, none⟩) n c') ∧ w.heap.size ≤ g ∧ Row w' g L T ∧ Keeps (fun _ => False) w w' := by
  obtain ⟨i0, hi0, hz0, hz1, hz2⟩ := info_parts ent_info
  have he := fun (w : World) => Lib.run_eql_slice_nil (P := Try.prog) w 36 71 (some ad) n c 0 0 Try.underlying36
  have hnews : ∀ j u, (evs L)[j]? = some u → (w.alloc (.cells #[] 71)).cell? (ad.add j) = some u := by
    have h1 := hL.keeps (S := fun _ => False) ((Keeps.refl _ _).alloc (.cells #[] 71)) (fun _ _ _ => id)
    intro j u hj
    rcases h1 with h1 | ⟨b, o, hA, hb, hc⟩
    · rw [h1] at hj; simp at hj
    · obtain rfl := Option.some.inj hA
      rw [add_none]
      exact (hc j (List.getElem?_eq_some_iff.1 hj).1).trans hj
  clear hL
  go_enter Try.func89, Try.ntmps89
  go_wp2_with (
    at_builtin
    refine wpList_append_own_at _ rfl (.tmp 5) (.tmp 6) _ rfl w.heap.size 71 i0 _ 2 16 Try.underlying36 hi0 hz0 hz1 hz2 rfl (by omega) (.slice (some ⟨w.heap.size, 0, none⟩) 0 0) 0 [] rfl
      ⟨rfl, .inr ⟨w.heap.size, 0, #[], rfl, Nat.le_refl _, heap_alloc_new w _, Nat.le_refl _, by simp [maxLen], rfl, rfl⟩⟩ ad n c (evs L) rfl (by rw [evs_len, hn]) hnews (evs_one L) (by simp only [maxLen]; omega) (by omega) (by simp) ?_
    intro v1 w1 hown1 hg1 hnil1 hat1)
  go_ret
  simp only [Nat.zero_add, List.nil_append] at hown1
  obtain ⟨A1, c1, rfl, _⟩ := own_form hown1
  obtain ⟨g, T, rfl, hg, hr⟩ := row_own hown1 h0
  exact ⟨g, c1, T, rfl, hg, hr, ((Keeps.refl _ _).alloc _).grown hg1 (fun k hk => .inr (by simp [Value.ownBlock] at hk; omega))⟩
theorem shortest_ (A : Option Addr) (n c : Nat) (L : List (Int × Nat)) (w : World) (hL : EntsAt w A L) (hn : L.length = n) (h0 : 0 < n) (hs : n ≤ 1000) (hz : ∀ p ∈ L, p.2 ≤ 20) :
    Calls Try.prog 64 #[.slice A n c] w fun r w' => ∃ g c', r = .returned (.slice (some ⟨g, 0, none⟩) n c') ∧ w.heap.size ≤ g ∧ EntsAt w' (some ⟨g, 0, none⟩) (line L 21) ∧ Keeps (fun _ => False) w w' := by
  obtain ⟨ad, rfl⟩ : ∃ ad, A = some ad := by
    rcases hL with h | ⟨b, o, h, _⟩
    · have := evs_len L
      rw [h] at this
      simp at this
      omega
    · exact ⟨_, h⟩
  have HRO := Lib.hid (cloneE_ ad n c L w hL hn h0 hs)
  clear hL
  go_enter Try.func64, Try.ntmps64
  go_wp2_with fail
  refine HRO.out.mono ?_
  rintro e w1 ⟨g, c1, T, rfl, hg, hr, hk⟩
  have HR2 := Lib.hid (sortStable_ closureS g n c1 L T w1 hr hn (by omega))
  have HK := Lib.hid hk
  clear hr hk
  go_wp2_with fail
  refine HR2.out.mono ?_
  rintro e w2 ⟨rfl, hk2, Z, z1, z2, z3, z4⟩
  have HE : Hid (EntsAt w2 (some ⟨g, 0, none⟩) (line L 21)) := by
    rw [← Fl.line z2 z1 hz]
    refine .inr ⟨g, 0, rfl, z4.lt, fun i hi => ?_⟩
    rw [Nat.zero_add, Blk.cell z4, List.getElem?_toArray, List.getElem?_append_left hi]
  have HK2 := Lib.hid (keeps_low HK.out hk2 (fun y hy => by omega))
  clear hk2 z1 z2 z3 z4
  go_wp2
  go_ret
  exact ⟨g, c1, rfl, hg, HE.out, HK2.out⟩
end Go.Proofs.Ytbicieflcgifdaa.Ss

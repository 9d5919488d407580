/- Pairs of a row's items; singles and pairs merged to a row. -/
import Derived.Test.YtaamnbminmcbpaaDoorHufRow
import Derived.Deep.RegionLaw
import Derived.Laws.AppendOwnNone
namespace Go.Proofs.YtaamnbminmcbpaaDoor.Hm
open Go.RowKit Go.Proofs.YtaamnbminmcbpaaDoor.Gen Go.Proofs.YtaamnbminmcbpaaDoor.Hp Go.Proofs.YtaamnbminmcbpaaDoor.Hr

theorem it_info : (Tryd.prog.info? 91).map (fun i => (i.zero, i.size, i.bytes)) = some (some (.agg #[.int .i64 0, .bool false]), 2, 16) := by kernel_rfl
theorem ic_one (l : List It) : ∀ u ∈ ics l, u.oneCell' = true := by
  intro u hu
  simp only [ics, List.mem_flatMap, ic, List.mem_cons, List.not_mem_nil, or_false] at hu
  obtain ⟨x, _, rfl | rfl⟩ := hu <;> rfl
/-- Pairs as items. -/
def pit (ps : List Nat) : List It := ps.map (·, false)
theorem pit_len (ps : List Nat) : (pit ps).length = ps.length := by simp [pit]
theorem cells_two (w : World) (u v : Value) (t : TypeId) : ∀ (j : Nat) (x : Value), [u, v][j]? = some x → (w.alloc (.cells #[u, v] t)).cell? ((⟨w.heap.size, 0, none⟩ : Addr).add j) = some x := by
  intro j x hx
  rw [add_none, (Blk.new w t #[u, v]).cell]
  simpa using hx
theorem paired_more {l : List It} {k : Nat} (h : 2 * k + 1 < l.length) : (paired l).take (k + 1) = (paired l).take k ++ [(l.getD (2 * k) (0, false)).1 + (l.getD (2 * k + 1) (0, false)).1] := by
  have h1 : k < (paired l).length := by rw [paired_length]; omega
  rw [List.take_add_one, List.getElem?_eq_getElem h1, ← paired_get l k h, List.getD_eq_getElem?_getD, List.getElem?_eq_getElem h1]
  simp

theorem paired_ (A : Option Addr) (c n : Nat) (l : List It) (w : World) (hl : l.length = n) (h : RowAt w A (ics l)) (hn : n ≤ 100000) (hb : ∀ x ∈ l, x.1 ≤ 2 ^ 60) :
    Calls Tryd.prog 44 #[.slice A n c] w fun r w' => ∃ A2 c2, r = .returned (.slice A2 (n / 2) c2) ∧ w'.ownsRow w.heap.size 91 2 (.slice A2 (n / 2) c2) (n / 2) (ics (pit (paired l))) ∧ Keeps (fun _ => False) w w' := by
  have HL := Lib.hid hl
  have HR := Lib.hid h
  have HB := Lib.hid hb
  clear hl h hb
  obtain ⟨i0, hi0, hz0, hz1, hz2⟩ := info_parts it_info
  go_enter Tryd.func44, Tryd.ntmps44
  go_wp2_with (
    at_make
    refine wpList_make_own _ rfl _ _ _ rfl w.heap.size 91 i0 _ 2 Tryd.underlying81 hi0 hz0 hz1 .i64 .i64 _ (n / 2) rfl rfl (by omega) (by rw [hz2]; omega) (by simp only [maxLen]; omega) (Nat.le_refl _) ?_
    intro w1 hown hg
    have HO := Lib.hid hown
    have HK := Lib.hid (Keeps.grown (Keeps.refl (fun _ => False) w) hg (fun _ h => by cases h))
    clear hown hg)
  go_loopw [3, 4] (fun sv i wr => ∃ (k p : Nat) (A2 : Option Addr) (c2 : Nat), p = 2 * k ∧ p ≤ n ∧ sv = .slice A2 k c2 ∧ i = .int .i64 ((p : Int) + 1) ∧ wr.ownsRow w.heap.size 91 2 (.slice A2 k c2) k (ics (pit ((paired l).take k))) ∧ Keeps (fun _ => False) w wr) (fun _ i _ => n + 1 - (intOf i).toNat)
  case atStart => exact ⟨0, 0, _, _, rfl, by omega, rfl, by simp, by simpa [pit, ics] using HO.out, HK.out⟩
  case round =>
    clear HO HK
    obtain ⟨k, p, A2, c2, hp, hk, rfl, rfl, hown, hkp⟩ := hrel
    have HP := Lib.hid hp
    have HO := Lib.hid hown
    have HK := Lib.hid hkp
    clear hown hkp hp
    by_cases hlt : p + 1 < n
    · have hp := HP.out
      have hln : 2 * k + 1 < l.length := by have := HL.out; omega
      obtain ⟨b, o, hA, _, h0, _⟩ := (HR.out.keeps HK.out (fun _ _ _ => id)).item (j := 2 * k) (by omega)
      obtain ⟨b', o', hA', _, h1, _⟩ := (HR.out.keeps HK.out (fun _ _ _ => id)).item (j := 2 * k + 1) hln
      subst hA
      injection hA' with hA'
      injection hA' with e1 e2
      subst e1
      subst e2
      have HMo := Lib.hid (paired_more (l := l) (k := k) hln)
      have hx := HB.out (l.getD (2 * k) (0, false)) (by rw [List.getD_eq_getElem?_getD, List.getElem?_eq_getElem (by omega)]; simp)
      have hy := HB.out (l.getD (2 * k + 1) (0, false)) (by rw [List.getD_eq_getElem?_getD, List.getElem?_eq_getElem hln]; simp)
      generalize (l.getD (2 * k) (0, false)).1 = x at *
      generalize (l.getD (2 * k + 1) (0, false)).1 = y at *
      rw [← hp] at h0 h1
      clear hp hln
      have b0 : (0 : Int) ≤ (p : Int) := by omega
      have b1 : (p : Int) < (n : Int) := by omega
      have b2 : (0 : Int) ≤ (p : Int) + 1 := by omega
      have b3 : (p : Int) + 1 < (n : Int) := by omega
      have hsum : IntKind.i64.wrap ((x : Int) + (y : Int)) = (x : Int) + (y : Int) := by simp [IntKind.wrap, IntKind.bits, IntKind.signed]; omega
      have hwp : IntKind.i64.wrap (p : Int) = (p : Int) := by simp [IntKind.wrap, IntKind.bits, IntKind.signed]; omega
      have HOA := Lib.hid (own_keeps HO.out ((Keeps.refl (fun _ => False) _).alloc (.cells #[.int .i64 ((x : Int) + (y : Int)), .bool false] 91)) (fun _ _ => id))
      have HKA := Lib.hid (HK.out.alloc (.cells #[.int .i64 ((x : Int) + (y : Int)), .bool false] 91))
      have HNW := Lib.hid (cells_two wr (.int .i64 ((x : Int) + (y : Int))) (.bool false) 91)
      have hkn : k ≤ 100000 := by have := HP.out; omega
      clear HO HK hx hy
      go_wp2
      go_region_law ((refine step_append_lies _ (by rfl) _ _ _ (by rfl) w.heap.size 91 i0 _ 2 16 Tryd.underlying81 hi0 hz0 hz1 hz2 rfl (by omega) (.slice A2 k c2) k (ics (pit ((paired l).take k))) (by rfl) (by exact HOA.out) ⟨wr.heap.size, 0, none⟩ 1 1 [.int .i64 ((x : Int) + (y : Int)), .bool false] (by rfl) rfl (by exact HNW.out) (by simp [Value.oneCell']) (by omega) (by simp only [maxLen]; omega) (by omega) (by exact HKA.out.size) _ rfl ?_
                      intro g3 cap3 w3 hown3 hgrow3 hat3 hlt3
                      have HO3 := Lib.hid hown3
                      have HK3 := Lib.hid (Keeps.grown (w1 := (wr.alloc (.cells #[.int .i64 ((x : Int) + (y : Int)), .bool false] 91)).drew) (by exact HKA.out.drewN 1) hgrow3 (fun j hj => .inr (HOA.out.lt j hj).1))
                      clear hown3 hgrow3 hat3 hlt3))
      all_goals go_wp2
      all_goals
        refine ⟨⟨k + 1, p + 2, some ⟨g3, 0, none⟩, cap3, by have := HP.out; omega, by omega, rfl, by go_num, ?_, HK3.out⟩, by simp [intOf]; omega⟩
        rw [HMo.out]
        simpa [pit, ics, ic] using HO3.out
    · have b3 : ¬ ((p : Int) + 1 < (n : Int)) := by omega
      clear hlt
      go_wp2
      go_ret
      have hnk : n / 2 = k := by have := HP.out; omega
      refine ⟨A2, c2, by rw [hnk]; rfl, ?_, HK.out⟩
      have h := HO.out
      rw [List.take_of_length_le (by rw [paired_length, HL.out, hnk]; exact Nat.le_refl _)] at h
      rw [hnk]
      exact h
end Go.Proofs.YtaamnbminmcbpaaDoor.Hm

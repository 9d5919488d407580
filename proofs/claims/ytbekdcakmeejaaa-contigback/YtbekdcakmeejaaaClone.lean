/- bytes.Clone: the same bytes, in a row of its own; nil of nil. At most ten million bytes. -/
import Derived.Test.YtbekdcakmeejaaaProg
import Derived.Test.YtbekdcakmeejaaaGen
import Derived.WalkKit
import Derived.WalkSpells
import Derived.WalkLawsBesides
import Derived.Lib.Hide
import Derived.Maps.AppendAt
import Derived.BigQuiet
import Derived.Outline
import Derived.Laws.BitsAllLaws
namespace Go.Proofs.Ytbekdcakmeejaaa.Cl
open Go.RowKit Go.Proofs.Ytbekdcakmeejaaa.Gen

theorem u8_info : (Try.prog.info? 5).map (fun i => (i.zero, i.size, i.bytes)) = some (some (.int .u8 0), 1, 1) := by kernel_rfl

/-- bytes.Clone: nil of nil. -/
theorem clone_nil (c : Nat) (w : World) : Calls Try.prog 19 #[.slice none 0 c] w fun r w' => r = .returned (.slice none 0 0) ∧ w = w' := by
  have he := fun (w : World) => Lib.run_eql_slice_nil (P := Try.prog) w 31 5 none 0 c 0 0 Try.underlying31
  go_enter Try.func19, Try.ntmps19
  go_wp2
  go_ret
  exact ⟨rfl, rfl⟩
/-- bytes.Clone: the same bytes, in a row of its own. -/
def Own (base n : Nat) (xs : List Int) (w : World) (r : Ending) (w' : World) : Prop :=
  ∃ A c, r = .returned (.slice A n c) ∧ w'.ownsRow base 5 1 (.slice A n c) n (bv xs) ∧ Keeps (fun _ => False) w w'
theorem clone_some (ad : Addr) (c : Nat) (xs : List Int) (w : World) (hl : Lies w (some ad) xs) (hn : xs.length ≤ 10000000) :
    Calls Try.prog 19 #[.slice (some ad) xs.length c] w (Own w.heap.size xs.length xs w) := by
  obtain ⟨i0, hi0, hz0, hz1, hz2⟩ := info_parts u8_info
  have he := fun (w : World) => Lib.run_eql_slice_nil (P := Try.prog) w 31 5 (some ad) xs.length c 0 0 Try.underlying31
  have hnews : ∀ j u, (bv xs)[j]? = some u → (w.alloc (.cells #[] 5)).cell? (ad.add j) = some u :=
    (hl.keeps (S := fun _ => False) ((Keeps.refl _ _).alloc _) (fun _ _ _ => id)).news
  go_enter Try.func19, Try.ntmps19
  go_wp2_with (
    at_builtin
    refine wpList_append_own_at _ rfl (.tmp 5) (.tmp 6) _ rfl w.heap.size 5 i0 _ 1 1 Try.underlying31 hi0 hz0 hz1 hz2 rfl (by omega) (.slice (some ⟨w.heap.size, 0, none⟩) 0 0) 0 [] rfl
      ⟨rfl, .inr ⟨w.heap.size, 0, #[], rfl, Nat.le_refl _, heap_alloc_new w _, Nat.le_refl _, by simp [maxLen], rfl, rfl⟩⟩ ad xs.length c (bv xs) rfl (by rw [bv_len]; omega) hnews (bv_one xs) (by simp only [maxLen]; omega) (by omega) (by simp) ?_
    intro v1 w1 hown1 hg1 hnil1 hat1)
  go_ret
  simp only [Nat.zero_add, List.nil_append] at hown1
  obtain ⟨A1, c1, rfl, _⟩ := own_form hown1
  refine ⟨A1, c1, rfl, hown1, ((Keeps.refl _ _).alloc _).grown hg1 (fun k hk => .inr (by simp [Value.ownBlock] at hk; omega))⟩
theorem clone (A : Option Addr) (c : Nat) (xs : List Int) (w : World) (hl : Lies w A xs) (hn : xs.length ≤ 10000000) :
    Calls Try.prog 19 #[.slice A xs.length c] w (Own w.heap.size xs.length xs w) := by
  rcases A with _ | ad
  · have hx : xs = [] := by
      rcases hl with h | ⟨b, o, h, _⟩
      · exact h
      · cases h
    subst hx
    exact (clone_nil c w).mono fun r w' ⟨hr, hw⟩ => ⟨none, 0, hr, World.ownsRow_nil _ _ _ _, by rw [hw]; exact Keeps.refl _ _⟩
  · exact clone_some ad c xs w hl hn

theorem clone_n (A : Option Addr) (n c : Nat) (xs : List Int) (w : World) (hx : xs.length = n) (hl : Lies w A xs) (hn : n ≤ 10000000) :
    Calls Try.prog 19 #[.slice A n c] w (Own w.heap.size n xs w) := by
  subst hx
  exact clone A c xs w hl hn
end Go.Proofs.Ytbekdcakmeejaaa.Cl

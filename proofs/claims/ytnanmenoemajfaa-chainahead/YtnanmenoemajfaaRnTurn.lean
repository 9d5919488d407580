/- Bytes, the last one first (slices.Clone, slices.Reverse, rans.Turned). -/
import Derived.Test.YtnanmenoemajfaaWireRd
import Derived.RegionTactic
import Derived.Outline
import Derived.BigQuiet
import Derived.Deep.CutRange
namespace Go.Proofs.Ytnanmenoemajfaa.Rt
open Go.RowKit Go.Proofs.Ytnanmenoemajfaa.Gen Go.Proofs.Ytnanmenoemajfaa.Wr

theorem keeps_low {w wr w1 : World} {S : Nat → Prop} (h : Keeps (fun _ => False) w wr) (k : Keeps S wr w1) (hw : ∀ x, S x → w.heap.size ≤ x) : Keeps (fun _ => False) w w1 :=
  ⟨k.os.trans h.os, k.tape.trans h.tape, k.output.trans h.output, Nat.le_trans h.size k.size, fun x hx hn => (k.block x (Nat.lt_of_lt_of_le hx h.size) (fun hs => by have := hw x hs; omega)).trans (h.block x hx hn)⟩
theorem sclone_nil (c : Nat) (w : World) : Calls Try.prog 38 #[.slice none 0 c] w fun r w' => r = .returned (.slice none 0 0) ∧ w = w' := by
  have he := fun (w : World) => Lib.run_eql_slice_nil (P := Try.prog) w 22 5 none 0 c 0 0 Try.underlying22
  go_enter Try.func38, Try.ntmps38
  go_wp2
  go_ret
  exact ⟨rfl, rfl⟩
theorem sclone_some (ad : Addr) (c : Nat) (xs : List Int) (w : World) (hl : Lies w (some ad) xs) (hn : xs.length ≤ 1000000) :
    Calls Try.prog 38 #[.slice (some ad) xs.length c] w (Own w.heap.size xs.length xs w) := by
  obtain ⟨i0, hi0, hz0, hz1, hz2⟩ := info_parts u8_info
  have he := fun (w : World) => Lib.run_eql_slice_nil (P := Try.prog) w 22 5 (some ad) xs.length c 0 0 Try.underlying22
  have hnews : ∀ j u, (bv xs)[j]? = some u → (w.alloc (.cells #[] 5)).cell? (ad.add j) = some u :=
    (hl.keeps (S := fun _ => False) ((Keeps.refl _ _).alloc _) (fun _ _ _ => id)).news
  go_enter Try.func38, Try.ntmps38
  go_wp2_with (
    at_builtin
    refine wpList_append_own_at _ rfl (.tmp 5) (.tmp 6) _ rfl w.heap.size 5 i0 _ 1 1 Try.underlying22 hi0 hz0 hz1 hz2 rfl (by omega) (.slice (some ⟨w.heap.size, 0, none⟩) 0 0) 0 [] rfl
      ⟨rfl, .inr ⟨w.heap.size, 0, #[], rfl, Nat.le_refl _, heap_alloc_new w _, Nat.le_refl _, by simp [maxLen], rfl, rfl⟩⟩ ad xs.length c (bv xs) rfl (by rw [bv_len]; omega) hnews (bv_one xs) (by simp only [maxLen]; omega) (by omega) (by simp) ?_
    intro v1 w1 hown1 hg1 hnil1 hat1)
  go_ret
  simp only [Nat.zero_add, List.nil_append] at hown1
  obtain ⟨A1, c1, rfl, _⟩ := own_form hown1
  refine ⟨A1, c1, rfl, hown1, ((Keeps.refl _ _).alloc _).grown hg1 (fun k hk => .inr (by simp [Value.ownBlock] at hk; omega))⟩
theorem sclone (A : Option Addr) (c : Nat) (xs : List Int) (w : World) (hl : Lies w A xs) (hn : xs.length ≤ 1000000) :
    Calls Try.prog 38 #[.slice A xs.length c] w (Own w.heap.size xs.length xs w) := by
  rcases A with _ | ad
  · have hx : xs = [] := by
      rcases hl with h | ⟨b, o, h, _⟩
      · exact h
      · cases h
    subst hx
    exact (sclone_nil c w).mono fun r w' ⟨hr, hw⟩ => ⟨none, 0, hr, World.ownsRow_nil _ _ _ _, by rw [hw]; exact Keeps.refl _ _⟩
  · exact sclone_some ad c xs w hl hn

theorem sclone_n (A : Option Addr) (n c : Nat) (xs : List Int) (w : World) (hx : xs.length = n) (hl : Lies w A xs) (hn : n ≤ 1000000) :
    Calls Try.prog 38 #[.slice A n c] w (Own w.heap.size n xs w) := by
  subst hx
  exact sclone A c xs w hl hn

theorem own_set {w : World} {base g n c j : Nat} {zs : List Int} (h : w.ownsRow base 5 1 (.slice (some ⟨g, 0, none⟩) n c) n (bv zs)) (_hj : j < n) (y : Int) :
    (w.setCell ⟨g, j, none⟩ (.int .u8 y)).ownsRow base 5 1 (.slice (some ⟨g, 0, none⟩) n c) n (bv (zs.set j y)) := by
  obtain ⟨hl, h⟩ := h
  rcases h with ⟨h, _⟩ | ⟨g', cap, cur, hv, hb, hh, h1, h2, h3, h4⟩
  · cases h
  · injection hv with hv _ hc
    injection hv with hv
    injection hv with hv
    subst hv
    subst hc
    refine ⟨by simpa [bv] using hl, .inr ⟨g, c, cur.setIfInBounds j (.int .u8 y), rfl, hb, (show Blk w g 5 cur from hh).setCell j _, h1, h2, by simpa using h3, ?_⟩⟩
    rw [Nat.mul_one] at h4 ⊢
    rw [Array.toList_setIfInBounds, List.take_set, h4]
    simp [bv, List.map_set]
theorem own_cell {w : World} {base g n c j : Nat} {zs : List Int} (h : w.ownsRow base 5 1 (.slice (some ⟨g, 0, none⟩) n c) n (bv zs)) (hj : j < n) :
    w.cell? ⟨g, j, none⟩ = some (.int .u8 (zs.getD j 0)) ∧ w.frozen? ⟨g, j, none⟩ = false ∧ base ≤ g ∧ g < w.heap.size := by
  have hl := h.1
  rw [bv_len, Nat.mul_one] at hl
  rcases Lies.of_own h with h0 | ⟨b, o, hA, hb, hcl⟩
  · rw [h0] at hl; simp at hl; omega
  · injection hA with hA
    injection hA with h1 h2
    subst h1
    subst h2
    have hc := hcl j (by omega)
    rw [Nat.zero_add] at hc
    rcases h.2 with ⟨h, _⟩ | ⟨g', cap, cur, hv, hb', hh, _⟩
    · cases h
    · injection hv with hv _ _
      injection hv with hv
      injection hv with hv
      subst hv
      exact ⟨hc, (show Blk w g 5 cur from hh).frozen j, hb', hb⟩
/-- k pairs are turned. -/
def rv (xs : List Int) (k : Nat) : List Int := (List.range xs.length).map fun i => if i < k ∨ xs.length ≤ i + k then xs.getD (xs.length - 1 - i) 0 else xs.getD i 0
theorem rv_len (xs : List Int) (k : Nat) : (rv xs k).length = xs.length := by simp [rv]
theorem rv_get {xs : List Int} {k i : Nat} (h : i < xs.length) : (rv xs k)[i]? = some (if i < k ∨ xs.length ≤ i + k then xs.getD (xs.length - 1 - i) 0 else xs.getD i 0) := by
  simp only [rv, List.getElem?_map, List.getElem?_range h, Option.map_some]
theorem rv_zero (xs : List Int) : rv xs 0 = xs := by
  apply List.ext_getElem?
  intro i
  by_cases h : i < xs.length
  · rw [rv_get h, if_neg (by omega), List.getElem?_eq_getElem h, List.getD, List.getElem?_eq_getElem h]
    rfl
  · rw [List.getElem?_eq_none (by rw [rv_len]; omega), List.getElem?_eq_none (by omega)]
theorem rv_end {xs : List Int} {k : Nat} (hk : xs.length ≤ 2 * k + 1) : rv xs k = xs.reverse := by
  apply List.ext_getElem?
  intro i
  by_cases h : i < xs.length
  · rw [rv_get h, List.getElem?_reverse h, List.getElem?_eq_getElem (by omega)]
    congr 1
    by_cases hc : i < k ∨ xs.length ≤ i + k
    · rw [if_pos hc, List.getD, List.getElem?_eq_getElem (by omega)]
      rfl
    · rw [if_neg hc, List.getD, List.getElem?_eq_getElem h]
      have : xs.length - 1 - i = i := by omega
      simp only [this]
      rfl
  · rw [List.getElem?_eq_none (by rw [rv_len]; omega), List.getElem?_eq_none (by simp; omega)]
theorem rv_at {xs : List Int} {k i : Nat} (h : i < xs.length) (h1 : ¬ i < k) (h2 : i + k < xs.length) : (rv xs k).getD i 0 = xs.getD i 0 := by
  rw [List.getD, rv_get h, if_neg (by omega)]
  rfl
theorem rv_set {xs : List Int} {k j : Nat} (hj : k + j + 1 = xs.length) (hk : k < j) : ((rv xs k).set k (xs.getD j 0)).set j (xs.getD k 0) = rv xs (k + 1) := by
  apply List.ext_getElem?
  intro i
  by_cases h : i < xs.length
  · by_cases h1 : i = j
    · subst h1
      rw [List.getElem?_set_self (by rw [List.length_set, rv_len]; exact h), rv_get h, if_pos (by omega), show xs.length - 1 - i = k by omega]
    · rw [List.getElem?_set_ne (Ne.symm h1)]
      by_cases h2 : i = k
      · subst h2
        rw [List.getElem?_set_self (by rw [rv_len]; exact h), rv_get h, if_pos (by omega), show xs.length - 1 - i = j by omega]
      · rw [List.getElem?_set_ne (Ne.symm h2), rv_get h, rv_get h]
        congr 1
        by_cases hc : i < k ∨ xs.length ≤ i + k
        · rw [if_pos hc, if_pos (by omega)]
        · rw [if_neg hc, if_neg (by omega)]
  · rw [List.getElem?_eq_none (by simp [rv_len]; omega), List.getElem?_eq_none (by rw [rv_len]; omega)]

set_option maxHeartbeats 4000000 in
set_option maxRecDepth 100000 in
theorem reverse (A : Option Addr) (n c base : Nat) (xs : List Int) (w : World) (hx : xs.length = n) (h : w.ownsRow base 5 1 (.slice A n c) n (bv xs)) (hn : n ≤ 1000000) :
    Calls Try.prog 39 #[.slice A n c] w fun r w' => r = .returned (.tuple #[]) ∧ w'.ownsRow base 5 1 (.slice A n c) n (bv xs.reverse) ∧ Keeps (fun b => (Value.slice A n c).ownBlock = some b) w w' := by
  have HX := Lib.hid hx
  have H := Lib.hid h
  have HN := Lib.hid hn
  have hw0 : IntKind.i64.wrap ((n : Int) - 1) = (n : Int) - 1 := IntWalk.i64_in _ (by omega)
  clear hx h hn
  go_enter Try.func39, Try.ntmps39
  go_wp2_with fail
  go_loopw [2, 3] (fun iv jv wr => ∃ k : Nat, iv = .int .i64 (k : Int) ∧ jv = .int .i64 ((n : Int) - 1 - (k : Int)) ∧ k ≤ n ∧ Hid (wr.ownsRow base 5 1 (.slice A n c) n (bv (rv xs k)) ∧ Keeps (fun b => (Value.slice A n c).ownBlock = some b) w wr)) (fun iv _ _ => n - (intOf iv).toNat)
  case atStart => exact ⟨0, rfl, by simp, by omega, Lib.hid ⟨by rw [rv_zero]; exact H.out, Keeps.refl _ _⟩⟩
  case round =>
    clear H hw0
    obtain ⟨k, rfl, rfl, hk, HH⟩ := hrel
    by_cases hlt : (k : Int) < (n : Int) - 1 - (k : Int)
    · obtain ⟨j, hj⟩ : ∃ j : Nat, n = k + j + 1 := ⟨n - 1 - k, by omega⟩
      have hji : (n : Int) - 1 - (k : Int) = (j : Int) := by omega
      have hkj : k < j := by omega
      obtain ⟨g, rfl⟩ : ∃ g, A = some ⟨g, 0, none⟩ := by
        rcases HH.out.1.2 with ⟨h, h0⟩ | ⟨g, cap, cur, hv, _⟩
        · omega
        · injection hv with hv
          exact ⟨g, hv⟩
      obtain ⟨ck, fk, hb, hgl⟩ := own_cell HH.out.1 (j := k) (by omega)
      obtain ⟨cj, fj, _, _⟩ := own_cell HH.out.1 (j := j) (by omega)
      have hxl := HX.out
      rw [rv_at (by omega) (by omega) (by omega)] at ck
      rw [rv_at (by omega) (by omega) (by omega)] at cj
      have HNX : Hid (((wr.setCell ⟨g, k, none⟩ (.int .u8 (xs.getD j 0))).setCell ⟨g, j, none⟩ (.int .u8 (xs.getD k 0))).ownsRow base 5 1 (.slice (some ⟨g, 0, none⟩) n c) n (bv (rv xs (k + 1)))) := by
        have h1 := own_set (own_set HH.out.1 (j := k) (by omega) (xs.getD j 0)) (j := j) (by omega) (xs.getD k 0)
        rw [rv_set (by omega) hkj] at h1
        exact h1
      have HKX : Hid (Keeps (fun b => (Value.slice (some ⟨g, 0, none⟩) n c).ownBlock = some b) w ((wr.setCell ⟨g, k, none⟩ (.int .u8 (xs.getD j 0))).setCell ⟨g, j, none⟩ (.int .u8 (xs.getD k 0)))) :=
        (HH.out.2.setCell (p := ⟨g, k, none⟩) (.inl rfl) _).setCell (p := ⟨g, j, none⟩) (.inl rfl) _
      obtain ⟨a, ha⟩ : ∃ a, xs.getD k 0 = a := ⟨_, rfl⟩
      obtain ⟨b, hb2⟩ : ∃ b, xs.getD j 0 = b := ⟨_, rfl⟩
      rw [ha] at ck HNX HKX
      rw [hb2] at cj HNX HKX
      have hk0 : (0 : Int) ≤ (k : Int) := by omega
      have hk1 : (k : Int) < (n : Int) := by omega
      have hj0 : (0 : Int) ≤ (j : Int) := by omega
      have hj1 : (j : Int) < (n : Int) := by omega
      have hkj2 : (k : Int) < (j : Int) := by omega
      have hne : k ≠ j := by omega
      have hne2 : j ≠ k := by omega
      have hNb := HN.out
      have hw1 : IntKind.i64.wrap ((k : Int) + 1) = (k : Int) + 1 := IntWalk.i64_in _ (by omega)
      have hw2 : IntKind.i64.wrap ((j : Int) - 1) = (j : Int) - 1 := IntWalk.i64_in _ (by omega)
      have HJJ := Lib.hid hji
      rw [hji]
      clear hlt hj hji hkj hb hgl hxl ha hb2 hNb
      go_upto_region 3 with fail
      go_region
      all_goals
        go_wp2_with fail
        refine ⟨⟨k + 1, by go_num, ?_, by omega, Lib.hid ⟨own_keeps HNX.out ((Keeps.refl (fun _ => False) _).drewN 1) (fun _ _ => id), HKX.out.drewN 1⟩⟩, by simp [intOf]; omega⟩
        rw [show (j : Int) - 1 = (n : Int) - 1 - ((k + 1 : Nat) : Int) by have := HJJ.out; omega]
    · have hge : ¬ ((k : Int) < (n : Int) - 1 - (k : Int)) := hlt
      go_wp2_with fail
      go_end0
      exact ⟨rfl, by rw [← rv_end (k := k) (by have := HX.out; omega)]; exact HH.out.1, HH.out.2⟩
theorem turned (A : Option Addr) (n c : Nat) (xs : List Int) (w : World) (hx : xs.length = n) (hl : Lies w A xs) (hn : n ≤ 1000000) :
    Calls Try.prog 16 #[.slice A n c] w (Own w.heap.size n xs.reverse w) := by
  have HX := Lib.hid hx
  have HL := Lib.hid hl
  have HN := Lib.hid hn
  clear hx hl hn
  go_enter Try.func16, Try.ntmps16
  go_wp2_with fail
  refine (sclone_n A n c xs w HX.out HL.out HN.out).mono ?_
  rintro e w1 ⟨A1, c1, rfl, ho1, hk1⟩
  have HO1 := Lib.hid ho1
  have HK1 := Lib.hid hk1
  clear ho1 hk1
  go_wp2_with fail
  refine (reverse A1 n c1 w.heap.size xs w1 HX.out HO1.out HN.out).mono ?_
  rintro e w2 ⟨rfl, ho2, hk2⟩
  have HO2 := Lib.hid ho2
  have HK2 := Lib.hid (keeps_low HK1.out hk2 (fun b hb => (HO1.out.lt b hb).1))
  clear ho2 hk2
  go_wp2
  go_ret
  exact ⟨A1, c1, rfl, HO2.out, HK2.out⟩
end Go.Proofs.Ytnanmenoemajfaa.Rt

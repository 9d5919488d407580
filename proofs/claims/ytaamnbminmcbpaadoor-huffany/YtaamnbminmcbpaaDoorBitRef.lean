/- The document's own answers for bits (Bits, Of of the package of answers), call by call: the same bits as plain data, in new memory. -/
import Derived.Test.YtaamnbminmcbpaaDoorBitFn
import Derived.Deep.AppendLies
namespace Go.Proofs.YtaamnbminmcbpaaDoor.Bq
open Go.RowKit Go.Proofs.YtaamnbminmcbpaaDoor.Gen Go.Proofs.YtaamnbminmcbpaaDoor.Cl Go.Proofs.YtaamnbminmcbpaaDoor.Bp

/-- Bits as bytes of their own. -/
def ib (l : List Nat) : List Int := l.map (fun b : Nat => (b : Int))
theorem ib_len (l : List Nat) : (ib l).length = l.length := by simp [ib]
theorem ib_app (l m : List Nat) : ib (l ++ m) = ib l ++ ib m := by simp [ib]
theorem ib_byte {l : List Nat} (h : ∀ b ∈ l, b < 2) : ∀ x ∈ ib l, 0 ≤ x ∧ x < 2 := by
  intro x hx
  obtain ⟨b, hb, rfl⟩ := List.mem_map.1 hx
  have := h b hb
  omega
theorem made (t : Nat) : madeCells (Value.int .u8 0).cells (t * 1) = (bv (ib (List.replicate t 0))).toArray := by
  apply Array.ext_getElem?
  intro j
  by_cases hj : j < t
  · simp [madeCells, hj, Nat.mod_one, bv, ib, Value.cells]
  · simp [madeCells, hj, bv, ib]
theorem make_bytes (t : Nat) (ht : t ≤ 1000000) (w : World) : (Instr.makeSlice 22 (.int .i64 (t : Int)) (.int .i64 (t : Int))).run Tryd.prog w = .ok (.slice (some ⟨w.heap.size, 0, none⟩) t t) (w.alloc (.cells (bv (ib (List.replicate t 0))).toArray 5)) := by
  obtain ⟨i0, hi0, hz0, hz1, hz2⟩ := info_parts u8_info
  have h := run_make (P := Tryd.prog) w 22 5 i0 _ Tryd.underlying22 hi0 hz0 .i64 .i64 (t : Int) (t : Int) (by omega) (by omega) (by rw [hz2]; omega) (by omega)
  rw [hz1, Int.toNat_natCast, made] at h
  exact h
/-- What the row of Bits holds when d of its t places are filled, the last first. -/
def fill (n t d : Nat) : List Nat := List.replicate (t - d) 0 ++ tb n d
theorem fill_set {n t d : Nat} (hd : d < t) : ((bv (ib (fill n t d))).toArray).setIfInBounds (t - 1 - d) (.int .u8 ((n / 2 ^ d % 2 : Nat) : Int)) = (bv (ib (fill n t (d + 1)))).toArray := by
  unfold fill
  rw [tb_cons, show t - d = (t - 1 - d) + 1 by omega, show t - (d + 1) = t - 1 - d by omega, List.replicate_succ']
  simp [bv, ib]
theorem fill_len {n t d : Nat} (hd : d ≤ t) : (fill n t d).length = t := by
  unfold fill
  simp [tb_len]
  omega
theorem bits_ (n t : Nat) (w : World) (hn : n < 4294967296) (ht : t ≤ 32) : Calls Tryd.prog 19 #[.int .u32 (n : Int), .int .i64 (t : Int)] w (Own w.heap.size t (ib (tb n t)) w) := by
  have hmk := fun w => make_bytes t (by omega) w
  go_enter Tryd.func19, Tryd.ntmps19
  go_wp2
  clear hmk
  go_loopw [0, 6] (fun nv i wr => ∃ d e : Nat, d + e = t ∧ nv = .int .u32 ((n / 2 ^ d : Nat) : Int) ∧ i = .int .i64 ((e : Int) - 1) ∧ Blk wr w.heap.size 5 (bv (ib (fill n t d))).toArray ∧ Keeps (fun _ => False) w wr) (fun _ i _ => (intOf i + 1).toNat)
  case atStart => exact ⟨0, t, by omega, by simp, rfl, by simpa [fill, tb] using Blk.new w 5 _, (Keeps.refl _ _).alloc _⟩
  case round =>
    obtain ⟨d, e, hde, rfl, rfl, hb, hk⟩ := hrel
    have HB := Lib.hid hb
    have HK := Lib.hid hk
    have hle : n / 2 ^ d < 4294967296 := Nat.lt_of_le_of_lt (Nat.div_le_self _ _) hn
    have HN2 : Hid (n / 2 ^ d / 2 = n / 2 ^ (d + 1)) := by show n / 2 ^ d / 2 = n / 2 ^ (d + 1); rw [Nat.div_div_eq_div_mul, Nat.pow_succ]
    rcases e with _ | e
    · obtain rfl : d = t := by omega
      clear HN2
      go_wp2
      go_ret
      refine ⟨_, _, rfl, ⟨by simp [bv, ib_len, tb_len], .inr ⟨_, _, _, rfl, Nat.le_refl _, HB.out, Nat.le_refl _, by simp only [maxLen]; omega, by simp [bv, ib_len, fill_len], ?_⟩⟩, HK.out⟩
      simp [fill]
      rw [List.take_of_length_le (by simp [bv, ib_len, tb_len])]
    · have hc : wr.cell? ⟨w.heap.size, e, none⟩ = (bv (ib (fill n t d))).toArray[e]? := hb.cell e
      have hfl : (bv (ib (fill n t d))).length = t := by rw [bv_len, ib_len, fill_len (by omega)]
      obtain ⟨u, hu⟩ : ∃ u, (bv (ib (fill n t d))).toArray[e]? = some u := ⟨_, Array.getElem?_eq_getElem (by simp [hfl]; omega)⟩
      rw [hu] at hc
      have hf : wr.frozen? ⟨w.heap.size, e, none⟩ = false := hb.frozen e
      have HS : Hid (Blk (wr.setCell ⟨w.heap.size, e, none⟩ (.int .u8 ((n / 2 ^ d % 2 : Nat) : Int))) w.heap.size 5 (bv (ib (fill n t (d + 1)))).toArray) := by
        have hs := fill_set (n := n) (t := t) (d := d) (by omega)
        rw [show t - 1 - d = e by omega] at hs
        have h := hb.setCell e (.int .u8 ((n / 2 ^ d % 2 : Nat) : Int))
        rw [hs] at h
        exact h
      have HKS := Lib.hid (hk.setCell (p := ⟨w.heap.size, e, none⟩) (.inr (Nat.le_refl _)) (.int .u8 ((n / 2 ^ d % 2 : Nat) : Int)))
      have he0 : (0 : Int) ≤ (e : Int) := by omega
      have het : (e : Int) < (t : Int) := by omega
      clear hb hk hu hfl
      generalize n / 2 ^ d = N at *
      go_wp2
      exact ⟨⟨d + 1, e, by omega, by rw [← HN2.out]; rfl, by go_num, HS.out, HKS.out⟩, by simp [intOf]⟩
theorem of_len (xs : List Nat) : (ib (ofB xs)).length = 8 * xs.length := by rw [ib_len, ofB_len]
theorem of_ (A : Option Addr) (k c : Nat) (xs : List Int) (w : World) (hx : xs.length = k) (hl : Lies w A xs) (hn : k ≤ 1000) (hb : ∀ x ∈ xs, 0 ≤ x ∧ x < 256) :
    Calls Tryd.prog 9 #[.slice A k c] w (Own w.heap.size (8 * k) (ib (ofB (xs.map Int.toNat))) w) := by
  obtain ⟨i0, hi0, hz0, hz1, hz2⟩ := info_parts u8_info
  have HX := Lib.hid hx
  have HL := Lib.hid hl
  have HB := Lib.hid hb
  clear hx hl hb
  go_enter Tryd.func9, Tryd.ntmps9
  go_wp2
  go_loopw [3, 4] (fun out i wr => ∃ (d : Nat) (A2 : Option Addr) (c2 : Nat), d ≤ k ∧ out = .slice A2 (8 * d) c2 ∧ i = .int .i64 d ∧ wr.ownsRow w.heap.size 5 1 (.slice A2 (8 * d) c2) (8 * d) (bv (ib (ofB ((xs.take d).map Int.toNat)))) ∧ Keeps (fun _ => False) w wr) (fun _ i _ => k - (intOf i).toNat)
  case atStart => exact ⟨0, none, 0, Nat.zero_le _, rfl, rfl, World.ownsRow_nil _ _ _ _, Keeps.refl _ _⟩
  case round =>
    obtain ⟨d, A2, c2, hd, rfl, rfl, hv, hk⟩ := hrel
    have HV := Lib.hid hv
    have HK := Lib.hid hk
    clear hv hk
    by_cases hlt : d < k
    · have HX2 := HX.out
      obtain ⟨b, o, x, rfl, hc, hx, HN⟩ : ∃ b o x, A = some ⟨b, o, none⟩ ∧ wr.cell? ⟨b, o + d, none⟩ = some (.int .u8 ((x : Nat) : Int)) ∧ x < 256 ∧ Hid (ib (ofB ((xs.take (d + 1)).map Int.toNat)) = ib (ofB ((xs.take d).map Int.toNat)) ++ ib (tb x 8)) := by
        rcases HL.out.keeps HK.out (fun _ _ _ => id) with h | ⟨b, o, h, _, hcl⟩
        · rw [h] at HX2; simp at HX2; omega
        · have hy := HB.out (xs.getD d 0) (by rw [List.getD_eq_getElem?_getD, List.getElem?_eq_getElem (by omega)]; simp)
          refine ⟨b, o, (xs.getD d 0).toNat, h, ?_, by omega, ?_⟩
          · rw [show (((xs.getD d 0).toNat : Nat) : Int) = xs.getD d 0 by omega]
            exact hcl d (by omega)
          · show ib (ofB ((xs.take (d + 1)).map Int.toNat)) = ib (ofB ((xs.take d).map Int.toNat)) ++ ib (tb (xs.getD d 0).toNat 8)
            rw [← ib_app, List.take_add_one, List.getElem?_eq_getElem (by omega), List.map_append, ofB_app]
            simp [ofB, List.getD_eq_getElem?_getD, List.getElem?_eq_getElem (show d < xs.length by omega)]
      clear HX2
      go_wp2_with fail
      refine (by exact bits_ x 8 wr (by omega) (by decide) : Calls Tryd.prog 19 #[.int .u32 (x : Int), .int .i64 8] wr (Own wr.heap.size 8 (ib (tb x 8)) wr)).mono ?_
      rintro e w1 ⟨A1, c1, rfl, hv1, hk1⟩
      obtain ⟨g1, cap1, he1, hg1, hlt1⟩ := hv1.form (by decide)
      injection he1 with he1 _ he2
      subst he1
      subst he2
      have HNW := Lib.hid (Lies.of_own hv1).news
      have HV1 := Lib.hid (own_keeps HV.out hk1 (fun _ _ => id))
      have HK1 := Lib.hid (HK.out.trans hk1)
      clear hv1 hk1 HV HK
      go_wp2_with (
        at_builtin
        refine wpList_append_own_at _ rfl (.tmp 11) (.tmp 17) _ rfl w.heap.size 5 i0 _ 1 1 Tryd.underlying22 hi0 hz0 hz1 hz2 rfl (by omega) (.slice A2 (8 * d) c2) (8 * d) (bv (ib (ofB ((xs.take d).map Int.toNat)))) rfl
          HV1.out ⟨g1, 0, none⟩ 8 c1 (bv (ib (tb x 8))) rfl (by rw [bv_len, ib_len, tb_len]) HNW.out (bv_one _) (by simp only [maxLen]; omega) (by omega) (by have := HK1.out.size; omega) ?_
        intro v1 w2 hown1 hg2 hnil1 hat1
        have HK2 := Lib.hid (HK1.out.grown hg2 (fun k hk => .inr (HV1.out.lt k hk).1))
        have HV2 := Lib.hid hown1
        obtain ⟨A3, c3, rfl, _⟩ := own_form hown1
        clear hown1 hg2 hnil1 hat1)
      refine ⟨⟨d + 1, A3, c3, by omega, by rw [Nat.mul_add], by go_num, ?_, HK2.out⟩, by simp [intOf]; omega⟩
      rw [HN.out, bv_append, Nat.mul_add]
      exact HV2.out
    · obtain rfl : d = k := by omega
      go_wp2
      go_ret
      have hv := HV.out
      rw [List.take_of_length_le (by have := HX.out; omega)] at hv
      exact ⟨A2, c2, rfl, hv, HK.out⟩
end Go.Proofs.YtaamnbminmcbpaaDoor.Bq

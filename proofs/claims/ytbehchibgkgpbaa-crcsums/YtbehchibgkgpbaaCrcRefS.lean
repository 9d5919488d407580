/- The document's own answer for a sum (Sum of the package of answers): the polynomial taken away, place by place: the sum as plain data. -/
import Derived.Test.YtbehchibgkgpbaaCrcRef
namespace Go.Proofs.Ytbehchibgkgpbaa.Cq
open Go.RowKit Go.Proofs.Ytbehchibgkgpbaa.Gen Go.Proofs.Ytbehchibgkgpbaa.Cp Go.Proofs.Ytbehchibgkgpbaa.Ct Go.Proofs.Ytbehchibgkgpbaa.Cs Go.Proofs.Ytbehchibgkgpbaa.Cu Go.Proofs.Ytbehchibgkgpbaa.Cr Go.Proofs.Ytbehchibgkgpbaa.Cf

theorem iv_app (l m : List Nat) : iv (l ++ m) = iv l ++ iv m := by simp [iv]
theorem z32_cells : Lib.strCells z32 = bv (iv (List.replicate 32 0)) := by kernel_rfl
theorem wpList_app32 {w : World} {ops : Array Oper} {rest : List Oper} {o : Oper} {a : Act} {Q : Exit → Act → World → Prop} (hgd : o.guard = none) (s x : Operand)
    (ho : o.op = .call { callee := .builtin .append, args := #[s, x], argTypes := #[22, 3] })
    (base : Nat) (A : Option Addr) (c : Nat) (n : Nat) (ys : List Nat) (hs : a.eval s = .slice A n c) (hown : w.ownsRow base 5 1 (.slice A n c) n (bv (iv ys)))
    (hx : a.eval x = .int .i64 32) (hn : n ≤ 1000000) (hbase : base ≤ w.heap.size)
    (h : ∀ v' w', w'.ownsRow base 5 1 v' (n + 32) (bv (iv (ys ++ List.replicate 32 0))) → w.grownBy w' (Value.slice A n c).ownBlock → wpList Try.prog ops Q rest (a.put o.dst v') w') :
    wpList Try.prog ops Q (o :: rest) a w := by
  obtain ⟨i0, hi0, hz0, hz1, hz2⟩ := info_parts u8_info
  refine wpList_plain hgd fun K hK => ?_
  have hz32 : z32.size = 32 := rfl
  obtain ⟨v', w', hr, h2, h3, _⟩ := Lib.run_append_own_string (P := Try.prog) w base 22 9 o.type 5 i0 Try.underlying22 Try.underlying9 hi0 hz0 hz1 hz2 (.slice A n c) n _ hown z32 (by rw [hz32]; simp only [maxLen]; omega) (by omega) hbase
  rw [← zeros_str o.type A n c w hn] at hr
  unfold Oper.wp execOp
  simp only [ho, resolve, invoke, builtin, Sem.run_bind, Sem.run_pure, Result.andThen_ok, List.map_toArray, List.map_cons, List.map_nil, hs, hx, hr]
  refine hK _ _ (h v' w' ?_ h3)
  rw [iv_app, bv_append, ← z32_cells]
  exact h2
theorem bits_more {xs : List Int} {d : Nat} (h : d < xs.length) : bitsOf (nat (xs.take (d + 1))) = bitsOf (nat (xs.take d)) ++ lows (xs.getD d 0).toNat 8 := by
  rw [List.take_add_one, List.getElem?_eq_getElem h, nat_app, bitsOf_app]
  simp [nat, bitsOf, List.getD_eq_getElem?_getD, List.getElem?_eq_getElem h]
theorem terms_cells : (Cp.terms.map fun t : Nat => Value.int .i64 (t : Int)).toArray = #[.int .i64 0, .int .i64 6, .int .i64 9, .int .i64 10, .int .i64 16, .int .i64 20, .int .i64 21, .int .i64 22, .int .i64 24, .int .i64 25, .int .i64 27, .int .i64 28, .int .i64 30, .int .i64 31, .int .i64 32] := rfl
theorem aways_len (l : List Nat) : ∀ j, (aways l j).length = l.length
  | 0 => rfl
  | j + 1 => by
    show (if (aways l j).getD j 0 = 1 then turns (aways l j) j Cp.terms else aways l j).length = l.length
    split
    · rw [turns_len, aways_len l j]
    · exact aways_len l j
theorem aways_bit {l : List Nat} (h : ∀ b ∈ l, b < 2) : ∀ j, ∀ b ∈ aways l j, b < 2
  | 0 => h
  | j + 1 => by
    show ∀ b ∈ (if (aways l j).getD j 0 = 1 then turns (aways l j) j Cp.terms else aways l j), b < 2
    split
    · exact turns_bit j _ (aways_bit h j)
    · exact aways_bit h j
theorem terms_at {e : Nat} (h : e < 15) : Cp.terms.getD e 0 ≤ 32 ∧ ((Cp.terms.map fun t : Nat => Value.int .i64 (t : Int)).toArray)[e]? = some (.int .i64 ((Cp.terms.getD e 0 : Nat) : Int)) ∧ Cp.terms.take (e + 1) = Cp.terms.take e ++ [Cp.terms.getD e 0] := by
  have hl : Cp.terms.length = 15 := rfl
  have hb : ∀ t ∈ Cp.terms, t ≤ 32 := by decide
  refine ⟨?_, ?_, ?_⟩
  · rw [List.getD_eq_getElem?_getD, List.getElem?_eq_getElem (by omega)]
    exact hb _ (List.getElem_mem _)
  · rw [List.getElem?_toArray, List.getElem?_map, List.getD_eq_getElem?_getD, List.getElem?_eq_getElem (by omega)]
    rfl
  · exact take_snoc' (by omega)
theorem tmod2 (X : Nat) : ((X : Int)).tmod 2 = ((X % 2 : Nat) : Int) := by
  rw [Int.tmod_eq_emod_of_nonneg (by omega)]
  omega
theorem sum (A : Option Addr) (k c q : Nat) (xs : List Int) (w : World) (hl : Lies w A xs) (hb : Byt xs) (hk : xs.length = k) (hn : k ≤ 1000) (hq : sumOf (nat xs) = q) :
    Calls Try.prog 9 #[.slice A k c] w fun r w' => r = .returned (.int .u32 (q : Int)) ∧ Keeps (fun _ => False) w w' := by
  obtain ⟨i0, hi0, hz0, hz1, hz2⟩ := info_parts u8_info
  have HL := Lib.hid hl
  have HB := Lib.hid hb
  have HX := Lib.hid hk
  have HQ := Lib.hid hq
  clear hl hb hk hq
  go_enter Try.func9, Try.ntmps9
  go_wp2
  go_loopw [3, 4] (fun l i wr => ∃ (d : Nat) (A2 : Option Addr) (c2 : Nat), d ≤ k ∧ l = .slice A2 (8 * d) c2 ∧ i = .int .i64 (d : Int) ∧ wr.ownsRow w.heap.size 5 1 (.slice A2 (8 * d) c2) (8 * d) (bv (iv (bitsOf (nat (xs.take d))))) ∧ Keeps (fun _ => False) w wr) (fun _ i _ => k - (intOf i).toNat)
  case atStart => exact ⟨0, none, 0, Nat.zero_le _, rfl, rfl, World.ownsRow_nil _ _ _ _, Keeps.refl _ _⟩
  case round =>
    obtain ⟨d, A2, c2, hd, rfl, rfl, hv, hk⟩ := hrel
    have HV := Lib.hid hv
    have HK := Lib.hid hk
    clear hv hk
    by_cases hlt : d < k
    · obtain ⟨b, o, x, rfl, hx, HC, HN⟩ : ∃ b o x, A = some ⟨b, o, none⟩ ∧ x < 256 ∧ Hid (∀ wx, Keeps (fun _ => False) w wx → wx.cell? ⟨b, o + d, none⟩ = some (.int .u8 ((x : Nat) : Int))) ∧ Hid (bitsOf (nat (xs.take (d + 1))) = bitsOf (nat (xs.take d)) ++ lows x 8) := by
        have hxl := HX.out
        rcases HL.out with h | ⟨b, o, h, hbl, hcl⟩
        · rw [h] at hxl; simp at hxl; omega
        · have hy := HB.out (xs.getD d 0) (by rw [List.getD_eq_getElem?_getD, List.getElem?_eq_getElem (by omega)]; simp)
          refine ⟨b, o, (xs.getD d 0).toNat, h, by omega, ?_, bits_more (by omega)⟩
          intro wx hkx
          rw [show (((xs.getD d 0).toNat : Nat) : Int) = xs.getD d 0 by omega, hkx.cell (p := ⟨b, o + d, none⟩) hbl id]
          exact hcl d (by omega)
      go_wp2
      go_loopw [3, 5] (fun l i wx => ∃ (e : Nat) (A3 : Option Addr) (c3 : Nat), e ≤ 8 ∧ l = .slice A3 (8 * d + e) c3 ∧ i = .int .i64 (e : Int) ∧ wx.ownsRow w.heap.size 5 1 (.slice A3 (8 * d + e) c3) (8 * d + e) (bv (iv (bitsOf (nat (xs.take d)) ++ lows x e))) ∧ Keeps (fun _ => False) w wx) (fun _ i _ => 8 - (intOf i).toNat)
      case atStart => exact ⟨0, A2, c2, by omega, rfl, rfl, by simpa [lows] using HV.out, HK.out⟩
      case round =>
        obtain ⟨e, A3, c3, he, rfl, rfl, hv, hk⟩ := hrel
        have HV3 := Lib.hid hv
        have HK3 := Lib.hid hk
        clear hv hk HV HK
        by_cases hle : e < 8
        · have hc := HC.out _ HK3.out
          have HLS := Lib.hid (lows_snoc e x)
          obtain ⟨X, hX⟩ : ∃ X, X = x / 2 ^ e := ⟨_, rfl⟩
          have hXi : (x : Int) / 2 ^ e = (X : Int) := by rw [hX]; simp
          have hsh := tmod2 X
          rw [← hX] at HLS
          obtain ⟨y, hy⟩ : ∃ y, y = X % 2 := ⟨_, rfl⟩
          rw [← hy] at hsh HLS
          have HVA := Lib.hid (own_keeps HV3.out ((Keeps.refl (fun _ => False) _).alloc (.cells #[Value.int .u8 (y : Int)] 5)) (fun _ _ => id))
          have HKA := Lib.hid (HK3.out.alloc (.cells #[Value.int .u8 (y : Int)] 5))
          have HNW := Lib.hid (cell_one_new wr (.int .u8 (y : Int)) 5)
          have hd0 : (0 : Int) ≤ (d : Int) := by omega
          have hdk : (d : Int) < (k : Int) := by omega
          clear hy hX
          go_wp2_with (
            at_builtin
            refine wpList_append_own_at _ rfl (.tmp 22) (.tmp 30) _ rfl w.heap.size 5 i0 _ 1 1 Try.underlying22 hi0 hz0 hz1 hz2 rfl (by omega) (.slice A3 (8 * d + e) c3) (8 * d + e) (bv (iv (bitsOf (nat (xs.take d)) ++ lows x e))) rfl
              HVA.out ⟨wr.heap.size, 0, none⟩ 1 1 [.int .u8 (y : Int)] rfl rfl HNW.out (by simp [Value.oneCell']) (by simp only [maxLen]; omega) (by omega) HKA.out.size ?_
            intro v1 w5 hown1 hg1 hnil1 hat1
            have HK5 := Lib.hid (HKA.out.grown hg1 (fun j hj => .inr (HVA.out.lt j hj).1))
            have HV5 := Lib.hid hown1
            obtain ⟨A4, c4, rfl, _⟩ := own_form hown1
            clear hown1 hg1 hnil1 hat1)
          refine ⟨⟨e + 1, A4, c4, by omega, rfl, by go_num, ?_, HK5.out⟩, by simp [intOf]; omega⟩
          rw [HLS.out, ← List.append_assoc, iv_app, bv_append]
          exact HV5.out
        · obtain rfl : e = 8 := by omega
          go_wp2
          refine ⟨⟨d + 1, A3, c3, by omega, by rw [Nat.mul_add], by go_num, ?_, HK3.out⟩, by simp [intOf]; omega⟩
          rw [HN.out, Nat.mul_add]
          exact HV3.out
    · obtain rfl : d = k := by omega
      have HV1 : Hid (wr.ownsRow w.heap.size 5 1 (.slice A2 (8 * d) c2) (8 * d) (bv (iv (bitsOf (nat xs))))) := by
        have h := HV.out
        rw [List.take_of_length_le (by have := HX.out; omega)] at h
        exact h
      clear HV HL HB
      go_wp2_with (
        at_builtin
        refine wpList_app32 rfl (.tmp 32) (.const (.int .i64 32)) rfl w.heap.size A2 c2 (8 * d) (bitsOf (nat xs)) rfl HV1.out rfl (by omega) HK.out.size ?_
        intro v1 w2 hown hg
        have HK2 := Lib.hid (HK.out.grown hg (fun j hj => .inr (HV1.out.lt j hj).1))
        obtain ⟨g, cl, hgf, _, _⟩ := World.ownsRow.form hown (by omega)
        subst hgf
        have HV2 := Lib.hid hown
        clear hown hg HV1 HK)
      obtain ⟨m1, hm1⟩ : ∃ m1, m1 = bitsOf (nat xs) ++ List.replicate 32 0 := ⟨_, rfl⟩
      have HM1 := Lib.hid hm1
      have HML : Hid (m1.length = 8 * d + 32) := by
        show m1.length = 8 * d + 32
        rw [hm1, List.length_append, bitsOf_len, nat_len, HX.out, List.length_replicate]
      have HMB : Hid (∀ b ∈ m1, b < 2) := by
        show ∀ b ∈ m1, b < 2
        rw [hm1]
        intro b hb
        rcases List.mem_append.1 hb with h | h
        · exact bitsOf_bit _ b h
        · have := List.eq_of_mem_replicate h; omega
      rw [← hm1] at HV2
      clear hm1
      go_loopw [6] (fun i wr => ∃ e : Nat, e ≤ 32 ∧ i = .int .i64 (e : Int) ∧ wr.ownsRow w.heap.size 5 1 (.slice (some ⟨g, 0, none⟩) (8 * d + 32) cl) (8 * d + 32) (bv (iv (turns m1 0 (List.range e)))) ∧ Keeps (fun _ => False) w wr) (fun i _ => 32 - (intOf i).toNat)
      case atStart => exact ⟨0, by omega, rfl, HV2.out, HK2.out⟩
      case round =>
        obtain ⟨e, he, rfl, hv, hk⟩ := hrel
        have HV3 := Lib.hid hv
        have HK3 := Lib.hid hk
        clear hv hk HV2 HK2
        by_cases hle : e < 32
        · obtain ⟨l, hl⟩ : ∃ l, l = turns m1 0 (List.range e) := ⟨_, rfl⟩
          have HT : Hid (turns m1 0 (List.range (e + 1)) = l.set e (1 - l.getD e 0)) := by
            show turns m1 0 (List.range (e + 1)) = l.set e (1 - l.getD e 0)
            rw [List.range_succ, turns_snoc, ← hl, Nat.zero_add]
            rfl
          have hyl : l.getD e 0 < 2 := by rw [hl]; exact getD_bit (turns_bit 0 _ HMB.out) e
          rw [← hl] at HV3
          obtain ⟨hc, hf, hg1, hg2⟩ := own_cell HV3.out (show e < 8 * d + 32 by omega)
          rw [iv_get] at hc
          have HS := fun y : Int => Lib.hid (own_set HV3.out (show e < 8 * d + 32 by omega) y)
          have HKS := fun y : Int => Lib.hid (HK3.out.setCell (p := ⟨g, e, none⟩) (.inr hg1) (.int .u8 y))
          obtain ⟨y, hy⟩ : ∃ y, y = l.getD e 0 := ⟨_, rfl⟩
          rw [← hy] at hc HT hyl
          have HSY := HS ((1 - y : Nat) : Int)
          have HKY := HKS ((1 - y : Nat) : Int)
          have h1y : (1 : Int) - (y : Int) = ((1 - y : Nat) : Int) := by omega
          have he0 : (0 : Int) ≤ (e : Int) := by omega
          have he1 : (e : Int) < 8 * (d : Int) + 32 := by omega
          rw [iv_set, ← HT.out] at HSY
          generalize 1 - y = y' at *
          have hy' : y' < 2 := by omega
          clear hl hg1 hg2 hy HS HKS
          go_wp2
          exact ⟨⟨e + 1, by omega, by go_num, HSY.out, HKY.out⟩, by simp [intOf]; omega⟩
        · obtain rfl : e = 32 := by omega
          obtain ⟨l2, hl2⟩ : ∃ l2, l2 = turns m1 0 (List.range 32) := ⟨_, rfl⟩
          have HL2 := Lib.hid hl2
          rw [← hl2] at HV3
          have HLL : Hid (l2.length = 8 * d + 32) := by show l2.length = 8 * d + 32; rw [hl2, turns_len, HML.out]
          have HLB : Hid (∀ b ∈ l2, b < 2) := by show ∀ b ∈ l2, b < 2; rw [hl2]; exact turns_bit 0 _ HMB.out
          clear hl2
          go_wp2
          have hbt := Blk.new wr 3 ((Cp.terms.map fun t : Nat => Value.int .i64 (t : Int)).toArray)
          have hvt := own_keeps HV3.out ((Keeps.refl (fun _ => False) wr).alloc (.cells (Cp.terms.map fun t : Nat => Value.int .i64 (t : Int)).toArray 3)) (fun _ _ => id)
          have hkt := HK3.out.alloc (.cells (Cp.terms.map fun t : Nat => Value.int .i64 (t : Int)).toArray 3)
          rw [terms_cells] at hbt hvt hkt
          have HGT : Hid (w.heap.size ≤ wr.heap.size) := HK3.out.size
          generalize hgt : wr.heap.size = gt at *
          generalize wr.alloc (.cells #[.int .i64 0, .int .i64 6, .int .i64 9, .int .i64 10, .int .i64 16, .int .i64 20, .int .i64 21, .int .i64 22, .int .i64 24, .int .i64 25, .int .i64 27, .int .i64 28, .int .i64 30, .int .i64 31, .int .i64 32] 3) = w4 at *
          rw [← terms_cells] at hbt
          have HBT := Lib.hid hbt
          have HVT := Lib.hid hvt
          have HKT := Lib.hid hkt
          clear hbt hvt hkt hgt HV3 HK3
          go_loopw [8] (fun i wr => ∃ j : Nat, j ≤ 8 * d ∧ i = .int .i64 (j : Int) ∧ wr.ownsRow w.heap.size 5 1 (.slice (some ⟨g, 0, none⟩) (8 * d + 32) cl) (8 * d + 32) (bv (iv (aways l2 j))) ∧ Blk wr gt 3 (Cp.terms.map fun t : Nat => Value.int .i64 (t : Int)).toArray ∧ Keeps (fun _ => False) w wr) (fun i _ => 8 * d - (intOf i).toNat)
          case atStart => exact ⟨0, by omega, rfl, HVT.out, HBT.out, HKT.out⟩
          case round =>
            obtain ⟨j, hj, rfl, hv, hbt, hk⟩ := hrel
            have HV4 := Lib.hid hv
            have HB4 := Lib.hid hbt
            have HK4 := Lib.hid hk
            clear hv hbt hk HVT HBT HKT
            by_cases hjl : j < 8 * d
            · obtain ⟨la, hla⟩ : ∃ la, la = aways l2 j := ⟨_, rfl⟩
              have HAW : Hid (aways l2 (j + 1) = away la j) := by show aways l2 (j + 1) = away la j; rw [hla]; rfl
              have hlal : la.length = 8 * d + 32 := by rw [hla, aways_len, HLL.out]
              have hlab : ∀ b ∈ la, b < 2 := by rw [hla]; exact aways_bit HLB.out j
              rw [← hla] at HV4
              have hyl : la.getD j 0 < 2 := getD_bit hlab j
              obtain ⟨hc, _, _, _⟩ := own_cell HV4.out (show j < 8 * d + 32 by omega)
              rw [iv_get] at hc
              have HLAL := Lib.hid hlal
              have HLAB := Lib.hid hlab
              have hj0 : (0 : Int) ≤ (j : Int) := by omega
              have hj1 : (j : Int) < 8 * (d : Int) + 32 := by omega
              clear hla hlal hlab
              obtain ⟨y, hy⟩ : ∃ y, y = la.getD j 0 := ⟨_, rfl⟩
              rw [← hy] at hc hyl
              rcases (by omega : y = 0 ∨ y = 1) with rfl | rfl
              · have HA2 : Hid (away la j = la) := by show (if la.getD j 0 = 1 then turns la j Cp.terms else la) = la; rw [← hy]; rfl
                clear hy
                go_wp2
                exact ⟨⟨j + 1, by omega, by go_num, by rw [HAW.out, HA2.out]; exact HV4.out, HB4.out, HK4.out⟩, by simp [intOf]; omega⟩
              · have HA2 : Hid (away la j = turns la j Cp.terms) := by show (if la.getD j 0 = 1 then turns la j Cp.terms else la) = turns la j Cp.terms; rw [← hy]; rfl
                clear hy
                go_wp2
                go_loopw [9] (fun i wr => ∃ e : Nat, e ≤ 15 ∧ i = .int .i64 (e : Int) ∧ wr.ownsRow w.heap.size 5 1 (.slice (some ⟨g, 0, none⟩) (8 * d + 32) cl) (8 * d + 32) (bv (iv (turns la j (Cp.terms.take e)))) ∧ Blk wr gt 3 (Cp.terms.map fun t : Nat => Value.int .i64 (t : Int)).toArray ∧ Keeps (fun _ => False) w wr) (fun i _ => 15 - (intOf i).toNat)
                case atStart => exact ⟨0, by omega, rfl, HV4.out, HB4.out, HK4.out⟩
                case round =>
                  obtain ⟨e, he, rfl, hv, hbt, hk⟩ := hrel
                  have HV5 := Lib.hid hv
                  have HB5 := Lib.hid hbt
                  have HK5 := Lib.hid hk
                  clear hv hbt hk HV4 HB4 HK4 hc
                  by_cases hle : e < 15
                  · obtain ⟨t, ht⟩ : ∃ t, t = Cp.terms.getD e 0 := ⟨_, rfl⟩
                    obtain ⟨ht1, ht2, ht3⟩ := terms_at hle
                    rw [← ht] at ht1 ht2 ht3
                    have hct : wr.cell? ⟨gt, e, none⟩ = some (.int .i64 (t : Int)) := (HB5.out.cell e).trans ht2
                    obtain ⟨l, hl⟩ : ∃ l, l = turns la j (Cp.terms.take e) := ⟨_, rfl⟩
                    obtain ⟨p, hp⟩ : ∃ p, p = j + t := ⟨_, rfl⟩
                    have hpl : p < 8 * d + 32 := by omega
                    have HT : Hid (turns la j (Cp.terms.take (e + 1)) = l.set p (1 - l.getD p 0)) := by
                      show turns la j (Cp.terms.take (e + 1)) = l.set p (1 - l.getD p 0)
                      rw [ht3, turns_snoc, ← hl, hp]
                      rfl
                    have hyl : l.getD p 0 < 2 := by rw [hl]; exact getD_bit (turns_bit j _ HLAB.out) p
                    rw [← hl] at HV5
                    have hpi : (j : Int) + (t : Int) = (p : Int) := by omega
                    obtain ⟨hc, hf, hg1, hg2⟩ := own_cell HV5.out hpl
                    rw [iv_get] at hc
                    have hne : g ≠ gt := fun h => own_ne HV5.out HB5.out (by decide) (by rw [h]; rfl)
                    obtain ⟨y, hy⟩ : ∃ y, y = l.getD p 0 := ⟨_, rfl⟩
                    rw [← hy] at hc HT hyl
                    have HSY := Lib.hid (own_set HV5.out hpl ((1 - y : Nat) : Int))
                    have HKY := Lib.hid (HK5.out.setCell (p := ⟨g, p, none⟩) (.inr hg1) (.int .u8 ((1 - y : Nat) : Int)))
                    have HBY := Lib.hid (HB5.out.setFar (p := ⟨g, p, none⟩) (Ne.symm hne) (.int .u8 ((1 - y : Nat) : Int)))
                    have h1y : (1 : Int) - (y : Int) = ((1 - y : Nat) : Int) := by omega
                    have he0 : (0 : Int) ≤ (e : Int) := by omega
                    have he1 : (e : Int) < 15 := by omega
                    have hp0 : (0 : Int) ≤ (p : Int) := by omega
                    have hp1 : (p : Int) < 8 * (d : Int) + 32 := by omega
                    rw [iv_set, ← HT.out] at HSY
                    generalize 1 - y = y' at *
                    have hy' : y' < 2 := by omega
                    clear hl hg1 hg2 hy ht ht1 ht2 ht3 hp
                    go_wp2_with fail
                    go_region
                    all_goals go_wp2
                    all_goals exact ⟨⟨e + 1, by omega, by go_num, own_keeps HSY.out ((Keeps.refl (fun _ => False) _).drewN 1) (fun _ _ => id), HBY.out.drewN 1, HKY.out.drewN 1⟩, by simp [intOf]; omega⟩
                  · obtain rfl : e = 15 := by omega
                    go_wp2
                    exact ⟨⟨j + 1, by omega, by go_num, by rw [HAW.out, HA2.out]; exact HV5.out, HB5.out, HK5.out⟩, by simp [intOf]; omega⟩
            · obtain rfl : j = 8 * d := by omega
              obtain ⟨lf, hlf⟩ : ∃ lf, lf = aways l2 (8 * d) := ⟨_, rfl⟩
              have HTO : Hid (told lf (8 * d) 32 = q) := by
                show told lf (8 * d) 32 = q
                have h := told_sum (nat xs)
                rw [← HM1.out, ← HL2.out, bitsOf_len, nat_len, HX.out, ← hlf, HQ.out] at h
                exact h
              have HFB : Hid (∀ b ∈ lf, b < 2) := by show ∀ b ∈ lf, b < 2; rw [hlf]; exact aways_bit HLB.out _
              rw [← hlf] at HV4
              clear hlf
              obtain ⟨F, HF0, HF1, HFQ⟩ : ∃ F : Nat → Nat, Hid (F 0 = 0) ∧ Hid (∀ r, F (r + 1) = F r + (1 - lf.getD (8 * d + r) 0) * 2 ^ r) ∧ Hid (F 32 = q) := ⟨told lf (8 * d), rfl, fun _ => rfl, HTO.out⟩
              clear HTO
              go_wp2
              go_loopw [10, 11] (fun nv i wx => ∃ a e dd : Nat, e + dd = 8 * d + 32 ∧ dd ≤ 32 ∧ a < 2 ^ dd ∧ q = F (32 - dd) + a * 2 ^ (32 - dd) ∧ nv = .int .u32 (a : Int) ∧ i = .int .i64 ((e : Int) - 1) ∧ wx = wr) (fun _ i _ => (intOf i + 1).toNat)
              case atStart => exact ⟨0, 8 * d + 32, 0, rfl, by omega, by decide, by rw [Nat.sub_zero, HFQ.out]; omega, rfl, by go_num, rfl⟩
              case round =>
                obtain ⟨a, e, dd, hed, hdd, hal, hto, rfl, rfl, rfl⟩ := hrel
                by_cases hlt : dd < 32
                · obtain ⟨e, rfl⟩ : ∃ e', e = e' + 1 := ⟨e - 1, by omega⟩
                  obtain ⟨r, hr⟩ : ∃ r, 32 - dd = r + 1 := ⟨31 - dd, by omega⟩
                  have hel : e < 8 * d + 32 := by omega
                  have her : e = 8 * d + r := by omega
                  obtain ⟨hc, _, _, _⟩ := own_cell HV4.out hel
                  rw [iv_get] at hc
                  have hyl : lf.getD e 0 < 2 := getD_bit HFB.out e
                  rw [hr] at hto
                  have HN : Hid (q = F r + (a * 2 + (1 - lf.getD e 0)) * 2 ^ r) := by
                    show q = F r + (a * 2 + (1 - lf.getD e 0)) * 2 ^ r
                    rw [hto, her, HF1.out, Nat.add_mul, Nat.pow_succ, Nat.mul_assoc, Nat.mul_comm 2 (2 ^ r)]
                    omega
                  obtain ⟨y, hy⟩ : ∃ y, y = lf.getD e 0 := ⟨_, rfl⟩
                  rw [← hy] at hc hyl HN
                  have h1y : (1 : Int) - (y : Int) = ((1 - y : Nat) : Int) := by omega
                  generalize 1 - y = y' at *
                  have hy' : y' < 2 := by omega
                  have hpw : 2 ^ (dd + 1) ≤ 2 ^ 32 := Nat.pow_le_pow_right (by decide) (by omega)
                  have HA2 : Hid (a * 2 + y' < 2 ^ (dd + 1)) := by show a * 2 + y' < 2 ^ (dd + 1); rw [Nat.pow_succ]; omega
                  have ha2 : a * 2 + y' < 4294967296 := Nat.lt_of_lt_of_le HA2.out hpw
                  have he0 : (0 : Int) ≤ (e : Int) := by omega
                  have he1 : (e : Int) < 8 * (d : Int) + 32 := by omega
                  have hge : decide (8 * (d : Int) ≤ (e : Int)) = true := by simp; omega
                  have HR : Hid (32 - (dd + 1) = r) := by show 32 - (dd + 1) = r; omega
                  have HED : Hid (e + (dd + 1) = 8 * d + 32) := by show e + (dd + 1) = 8 * d + 32; omega
                  clear hy hpw hto hal hr her hed
                  go_wp2
                  exact ⟨⟨a * 2 + y', e, dd + 1, HED.out, by omega, HA2.out, by rw [HR.out]; exact HN.out, by go_num, rfl, trivial⟩, by simp [intOf]⟩
                · obtain rfl : dd = 32 := by omega
                  obtain rfl : e = 8 * d := by omega
                  have HAQ : Hid (a = q) := by
                    show a = q
                    rw [hto, Nat.sub_self, HF0.out]
                    omega
                  clear hal hto hed
                  go_wp2
                  go_ret
                  exact ⟨by rw [HAQ.out]; rfl, HK4.out⟩
end Go.Proofs.Ytbehchibgkgpbaa.Cq

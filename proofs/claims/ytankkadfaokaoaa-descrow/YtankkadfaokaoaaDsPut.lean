/- Ways put behind what a Writer has (desc's Put): their bytes, or the error and nothing. -/
import Derived.Test.YtankkadfaokaoaaDsChk
import Derived.Test.YtankkadfaokaoaaItfWr
namespace Go.Proofs.Ytankkadfaokaoaa.Ds
open Go.RowKit Go.Proofs.Ytankkadfaokaoaa.Gen Go.Proofs.Ytankkadfaokaoaa.Wr Go.Proofs.Ytankkadfaokaoaa.Ww Go.Proofs.Ytankkadfaokaoaa.It Go.Proofs.Ytankkadfaokaoaa.Iw Go.Proofs.Ytankkadfaokaoaa.Ir Go.Proofs.Ytankkadfaokaoaa.Ib Go.Proofs.Ytankkadfaokaoaa.Tw Go.Proofs.Ytankkadfaokaoaa.Hr Go.Proofs.Ytankkadfaokaoaa.Hn Go.Proofs.Ytankkadfaokaoaa.Hk Go.Proofs.Ytankkadfaokaoaa.Ln

/-- A Writer, behind some puts. -/
def Wro (base g : Nat) (v : Value) (ys : List Int) (w wr : World) : Prop := ∃ v1, IsWr base g v1 ys wr ∧ Keeps (Its g v) w wr ∧ (v1.ownBlock = v.ownBlock ∨ ∃ b, v1.ownBlock = some b ∧ w.heap.size ≤ b)
theorem Wro.refl {base g : Nat} {v : Value} {ys : List Int} {w : World} (h : IsWr base g v ys w) : Wro base g v ys w w := ⟨v, h, Keeps.refl _ _, .inl rfl⟩
theorem Wro.still {base g : Nat} {v : Value} {ys : List Int} {w wr w1 : World} (h : Wro base g v ys w wr) (k : Keeps (fun _ => False) wr w1) : Wro base g v ys w w1 := by
  obtain ⟨v1, h1, h2, h3⟩ := h
  exact ⟨v1, h1.keeps k (fun _ _ => id), h2.trans k.none_, h3⟩
theorem Wro.puts {base g : Nat} {v : Value} {ys : List Int} {w wr : World} (h : Wro base g v ys w wr) : Puts base g v ys w (.returned (.tuple #[])) wr := ⟨rfl, h⟩
theorem Wro.of {base g : Nat} {v : Value} {ys : List Int} {w wr : World} {r : Ending} (h : Puts base g v ys w r wr) : Wro base g v ys w wr := h.2
theorem Wro.next {base g : Nat} {v v1 : Value} {zs : List Int} {w wr w2 : World} {r : Ending} (k : Keeps (Its g v) w wr) (ho : v1.ownBlock = v.ownBlock ∨ ∃ b, v1.ownBlock = some b ∧ w.heap.size ≤ b) (h2 : Puts base g v1 zs wr r w2) : Wro base g v zs w w2 :=
  (puts_trans k ho h2).2
theorem Wro.to {base g : Nat} {v : Value} {ys zs : List Int} {w wr w2 : World} (h : Wro base g v ys w wr) (h2 : ∀ v1, IsWr base g v1 ys wr → Wro base g v1 zs wr w2) : Wro base g v zs w w2 := by
  obtain ⟨v1, h1, k, ho⟩ := h
  exact (puts_trans k ho ⟨rfl, h2 v1 h1⟩).2
theorem ret_none {fn : Func} (h : fn.results = #[]) : ∀ (tmps : Array Value) (w : World), (results fn tmps).run Try.prog w = .ok (.tuple #[]) w := fun tmps w => results_none h tmps Try.prog w
theorem map_get {L : List G} {j : Nat} (h : j < L.length) : (L.map (·.1))[j]? = some (L.getD j (0, 0)).1 ∧ (L.map (·.2))[j]? = some (L.getD j (0, 0)).2 := by
  simp [List.getElem?_map, List.getElem?_eq_getElem h, List.getD_eq_getElem?_getD]
theorem far {base g x : Nat} {v : Value} {ys : List Int} {w : World} {t : TypeId} {cs : Array Value} (h : IsWr base g v ys w) (hb : Blk w x t cs) (hx : x ≠ g) (ht : 5 ≠ t) : ¬ Its g v x := by
  rintro (e | e)
  · exact hx e
  · exact Gen.own_ne h.2.2.2.2.2 hb ht e
theorem far_ents {g n : Nat} {v v1 : Value} {w : World} {A : Option Addr} {L : List G} (hL : Ents w A n L) (hA : 0 < n → ∀ b o, A = some ⟨b, o, none⟩ → ¬ Its g v b) (ho : v1.ownBlock = v.ownBlock ∨ ∃ b, v1.ownBlock = some b ∧ w.heap.size ≤ b) : 0 < n → ∀ b o, A = some ⟨b, o, none⟩ → ¬ Its g v1 b := by
  rintro h0 b o rfl (e | e)
  · exact hA h0 b o rfl (.inl e)
  · rcases ho with ho | ⟨b', ho, hb'⟩
    · exact hA h0 b o rfl (.inr (by rw [← ho]; exact e))
    · rw [e] at ho
      injection ho with ho
      have := hL.lt h0
      omega

set_option maxHeartbeats 8000000 in
set_option maxRecDepth 100000 in
theorem put_ents (g base : Nat) (v : Value) (ys : List Int) (A : Option Addr) (n c : Nat) (L : List G) (w : World) (h : IsWr base g v ys w) (hl : Ents w A n L) (hA : 0 < n → ∀ b o, A = some ⟨b, o, none⟩ → ¬ Its g v b) (hn : ys.length + 20000 ≤ 1000000) (hz : ∀ p ∈ L, 0 ≤ p.2 ∧ p.2 < 4294967296) :
    Calls Try.prog 32 #[.pointer (some ⟨g, 0, none⟩), .slice A n c] w (Puts base g v (ys ++ entB L) w) := by
  have H := Lib.hid h
  have HL := Lib.hid hl
  have HA := Lib.hid hA
  have HN := Lib.hid hn
  have HZ := Lib.hid hz
  have hn1 : n ≤ 1000 := hl.2.2
  have hw0 : IntKind.u32.wrap (n : Int) = (n : Int) := IntWalk.u32_in _ (by omega)
  have HLN : Hid (L.length = n) := hl.2.1
  have HEL := Lib.hid (encInt_len (n : Int))
  clear h hl hA hn hz
  go_enter Try.func32, Try.ntmps32
  go_upto_region 1 with (
    go_at_call 31
    refine (Iw.int g base v ys (n : Int) _ H.out (by have := HN.out; omega) (by omega) (by omega)).mono ?_
    rintro e w1 hp
    obtain rfl := hp.1
    have HP := Lib.hid (Wro.of hp)
    clear hp)
  obtain ⟨y1, hy1⟩ : ∃ y1, ys ++ encInt (n : Int) = y1 := ⟨_, rfl⟩
  rw [hy1] at HP
  have HY1 := Lib.hid hy1
  have HYL : Hid (y1.length ≤ ys.length + 5) := by show _ ≤ _; rw [← hy1, List.length_append]; have := HEL.out; omega
  clear hy1
  go_wp2_with fail
  go_loopw [15] (fun i wr => ∃ j : Nat, i = .int .i64 (j : Int) ∧ j ≤ n ∧ Hid (Wro base g v (y1 ++ encs (fun n => encInt (sg n)) ((L.map (·.1)).take j)) w wr)) (fun i _ => n - (intOf i).toNat)
  case atStart => exact ⟨0, rfl, by omega, by show Wro _ _ _ _ _ _; simpa [encs] using HP.out⟩
  case round =>
    clear HP
    obtain ⟨j, rfl, hj, HH⟩ := hrel
    by_cases hlt : j < n
    · obtain ⟨v1, hw1, hk1, ho1⟩ := HH.out
      obtain ⟨b, o, rfl, hb, h0, h1⟩ := g_item (HL.out.1.keeps hk1 (HA.out (by omega))) (j := j) (by rw [HLN.out]; exact hlt)
      obtain ⟨hm1, hm2⟩ := map_get (L := L) (j := j) (by rw [HLN.out]; exact hlt)
      generalize L.getD j (0, 0) = x at h0 h1 hm1 hm2
      obtain ⟨x1, x2⟩ := x
      simp only at h0 h1 hm1 hm2
      have HW1 := Lib.hid (hw1.keeps (S := fun _ => False) ((Keeps.refl _ _).alloc (.cells #[.int .i64 x1, .int .i64 x2] 66)) (fun _ _ => id))
      have HK1 := Lib.hid (hk1.alloc (.cells #[.int .i64 x1, .int .i64 x2] 66))
      have HO1 := Lib.hid ho1
      have HEN := Lib.hid (encs_take (e := fun n => encInt (sg n)) hm1)
      obtain ⟨z, hzz⟩ : ∃ z, y1 ++ encs (fun n => encInt (sg n)) ((L.map (·.1)).take j) = z := ⟨_, rfl⟩
      have hzl : z.length ≤ ys.length + 10000 := by
        have h2 := encs_len (e := fun n => encInt (sg n)) (m := 5) (fun x => (encInt_len _).2) ((L.map (·.1)).take j)
        have h3 := HYL.out
        simp only [List.length_take, List.length_map, HLN.out] at h2
        rw [← hzz, List.length_append]
        omega
      rw [hzz] at HW1
      have HZZ := Lib.hid hzz
      have HZL := Lib.hid hzl
      have hj0 : (j : Int) < (n : Int) := by omega
      clear hzz hzl hw1 hk1 ho1 hm1 hm2 HH
      go_wp2_with (
        go_at_call 33
        refine (Iw.signed g base v1 z x1 _ HW1.out (by have := HN.out; have := HZL.out; omega)).mono ?_
        rintro e w2 hp
        obtain rfl := hp.1
        have HP2 := Lib.hid (Wro.next HK1.out HO1.out hp)
        clear hp)
      refine ⟨⟨j + 1, by go_num, by omega, ?_⟩, by simp [intOf]; omega⟩
      rw [HEN.out, ← List.append_assoc, HZZ.out]
      exact HP2
    · obtain rfl : j = n := by omega
      have HP3 : Hid (Wro base g v (y1 ++ symB L) w wr) := by
        have := HH.out
        rw [List.take_of_length_le (by rw [List.length_map, HLN.out]; exact Nat.le_refl _)] at this
        exact this
      clear HH
      obtain ⟨y2, hy2⟩ : ∃ y2, y1 ++ symB L = y2 := ⟨_, rfl⟩
      rw [hy2] at HP3
      have HY2 := Lib.hid hy2
      have HYL2 : Hid (y2.length ≤ ys.length + 6000) := by
        show _ ≤ _
        have h2 := encs_len (e := fun n => encInt (sg n)) (m := 5) (fun x => (encInt_len _).2) (L.map (·.1))
        have h3 := HYL.out
        simp only [List.length_map, HLN.out] at h2
        rw [← hy2, List.length_append, symB]
        omega
      clear hy2 hlt
      go_wp2_with fail
      go_loopw [26] (fun i wr => ∃ k : Nat, i = .int .i64 (k : Int) ∧ k ≤ j ∧ Hid (Wro base g v (y2 ++ encs encInt ((L.map (·.2)).take k)) w wr)) (fun i _ => j - (intOf i).toNat)
      case atStart => exact ⟨0, rfl, by omega, by show Wro _ _ _ _ _ _; simpa [encs] using HP3.out⟩
      case round =>
        clear HP3
        obtain ⟨k, rfl, hk, HH⟩ := hrel
        by_cases hlt : k < j
        · obtain ⟨v1, hw1, hk1, ho1⟩ := HH.out
          obtain ⟨b, o, rfl, hb, h0, h1⟩ := g_item (HL.out.1.keeps hk1 (HA.out (by omega))) (j := k) (by rw [HLN.out]; exact hlt)
          obtain ⟨hm1, hm2⟩ := map_get (L := L) (j := k) (by rw [HLN.out]; exact hlt)
          have hx := HZ.out (L.getD k (0, 0)) (by rw [List.getD_eq_getElem?_getD, List.getElem?_eq_getElem (by rw [HLN.out]; exact hlt)]; exact List.getElem_mem _)
          generalize L.getD k (0, 0) = x at h0 h1 hm1 hm2 hx
          obtain ⟨x1, x2⟩ := x
          simp only at h0 h1 hm1 hm2 hx
          have HX := Lib.hid hx
          have hwx : IntKind.u32.wrap x2 = x2 := IntWalk.u32_in _ (by omega)
          have HW1 := Lib.hid (hw1.keeps (S := fun _ => False) ((Keeps.refl _ _).alloc (.cells #[.int .i64 x1, .int .i64 x2] 66)) (fun _ _ => id))
          have HK1 := Lib.hid (hk1.alloc (.cells #[.int .i64 x1, .int .i64 x2] 66))
          have HO1 := Lib.hid ho1
          have HEN := Lib.hid (encs_take (e := encInt) hm2)
          obtain ⟨z, hzz⟩ : ∃ z, y2 ++ encs encInt ((L.map (·.2)).take k) = z := ⟨_, rfl⟩
          have hzl : z.length ≤ ys.length + 15000 := by
            have h2 := encs_len (e := encInt) (m := 5) (fun x => (encInt_len _).2) ((L.map (·.2)).take k)
            have h3 := HYL2.out
            simp only [List.length_take, List.length_map, HLN.out] at h2
            rw [← hzz, List.length_append]
            omega
          rw [hzz] at HW1
          have HZZ := Lib.hid hzz
          have HZL := Lib.hid hzl
          have hj0 : (k : Int) < (j : Int) := by omega
          clear hzz hzl hw1 hk1 ho1 hm1 hm2 HH hx
          go_wp2_with (
            go_at_call 31
            refine (Iw.int g base v1 z x2 _ HW1.out (by have := HN.out; have := HZL.out; omega) HX.out.1 HX.out.2).mono ?_
            rintro e w2 hp
            obtain rfl := hp.1
            have HP2 := Lib.hid (Wro.next HK1.out HO1.out hp)
            clear hp)
          refine ⟨⟨k + 1, by go_num, by omega, ?_⟩, by simp [intOf]; omega⟩
          rw [HEN.out, ← List.append_assoc, HZZ.out]
          exact HP2
        · obtain rfl : k = j := by omega
          go_wp2
          go_end0
          have h := HH.out
          rw [List.take_of_length_le (by rw [List.length_map, HLN.out]; exact Nat.le_refl _), ← HY2.out, ← HY1.out] at h
          have he : ys ++ entB L = ys ++ encInt (k : Int) ++ symB L ++ encs encInt (L.map (·.2)) := by rw [entB, HLN.out, sizB]; simp only [List.append_assoc]
          rw [he]
          exact h.puts
end Go.Proofs.Ytankkadfaokaoaa.Ds

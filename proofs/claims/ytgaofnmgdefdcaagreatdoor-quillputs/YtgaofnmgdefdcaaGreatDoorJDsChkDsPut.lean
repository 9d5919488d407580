/- Whether ways may be (desc's Check): any ways. -/
/- Ways put behind what a Writer has (desc's Put): their bytes, or the error and nothing. -/
import Derived.Test.YtgaofnmgdefdcaaGreatDoorJItfWrDsPl

namespace Go.Proofs.YtgaofnmgdefdcaaGreatDoor.Ds
open Go.RowKit Go.Proofs.YtgaofnmgdefdcaaGreatDoor.Gen Go.Proofs.YtgaofnmgdefdcaaGreatDoor.Wr Go.Proofs.YtgaofnmgdefdcaaGreatDoor.It Go.Proofs.YtgaofnmgdefdcaaGreatDoor.Ir Go.Proofs.YtgaofnmgdefdcaaGreatDoor.Ib Go.Proofs.YtgaofnmgdefdcaaGreatDoor.Hr Go.Proofs.YtgaofnmgdefdcaaGreatDoor.Hn Go.Proofs.YtgaofnmgdefdcaaGreatDoor.Hk Go.Proofs.YtgaofnmgdefdcaaGreatDoor.Ln

theorem cblk (n : Int) (w : World) : Calls Tryz.prog 55 #[.int .i64 n] w fun r w' => r = .returned (.int .i64 (blkE n)) ∧ w' = w := by
  obtain ⟨e, he⟩ : ∃ e, e = blkE n := ⟨_, rfl⟩
  rw [← he]
  unfold blkE at he
  have HE := Lib.hid he
  clear he
  by_cases h1 : n < 1
  · go_enter Tryz.func55, Tryz.ntmps55
    go_wp2
    go_ret
    exact ⟨by rw [HE.out, if_pos (.inl h1)]; try rfl, rfl⟩
  · by_cases h2 : 60000 < n
    · go_enter Tryz.func55, Tryz.ntmps55
      go_wp2
      go_ret
      exact ⟨by rw [HE.out, if_pos (.inr h2)]; try rfl, rfl⟩
    · go_enter Tryz.func55, Tryz.ntmps55
      go_wp2
      go_ret
      exact ⟨by rw [HE.out, if_neg (by omega)]; try rfl, rfl⟩
theorem cfix (l b : Int) (w : World) : Calls Tryz.prog 57 #[.int .i64 l, .int .i64 b] w fun r w' => r = .returned (.int .i64 (fixE l b)) ∧ w' = w := by
  obtain ⟨e, he⟩ : ∃ e, e = fixE l b := ⟨_, rfl⟩
  rw [← he]
  unfold fixE at he
  have HE := Lib.hid he
  clear he
  by_cases h1 : l < -2147483647
  · go_enter Tryz.func57, Tryz.ntmps57
    go_wp2
    go_ret
    exact ⟨by rw [HE.out, if_pos (.inl h1)]; try rfl, rfl⟩
  · by_cases h2 : 2147483647 < l
    · go_enter Tryz.func57, Tryz.ntmps57
      go_wp2
      go_ret
      exact ⟨by rw [HE.out, if_pos (.inr (.inl h2))]; try rfl, rfl⟩
    · by_cases h3 : b < 0
      · go_enter Tryz.func57, Tryz.ntmps57
        go_wp2
        go_ret
        exact ⟨by rw [HE.out, if_pos (.inr (.inr (.inl h3)))]; try rfl, rfl⟩
      · by_cases h4 : 31 < b
        · go_enter Tryz.func57, Tryz.ntmps57
          go_wp2
          go_ret
          exact ⟨by rw [HE.out, if_pos (.inr (.inr (.inr h4)))]; try rfl, rfl⟩
        · go_enter Tryz.func57, Tryz.ntmps57
          go_wp2
          go_ret
          exact ⟨by rw [HE.out, if_neg (by omega)]; try rfl, rfl⟩
theorem new_e (A : Option Addr) (n c : Nat) (L : List G) (w : World) (h : Ents w A n L) :
    Calls Tryz.prog 56 #[.slice A n c] w fun r w' => (∃ p, r = .returned (.tuple #[.pointer p, .int .i64 (newE L)])) ∧ Keeps (fun _ => False) w w' :=
  (new_ A n c L w h.1 h.2.1 h.2.2).mono fun _ _ hr => ⟨newE_of hr.1, hr.2⟩

set_option maxHeartbeats 4000000 in
set_option maxRecDepth 100000 in
theorem check_i (A : Option Addr) (n c : Nat) (d : D) (w : World) (h : Ents w A n d.L) :
    Calls Tryz.prog 30 #[.agg (dv A n c d)] w fun r w' => r = .returned (.int .i64 (chkI d)) ∧ Keeps (fun _ => False) w w' := by
  obtain ⟨K, B, L, le, bi⟩ := d
  obtain ⟨e, he⟩ : ∃ e, e = chkI ⟨K, B, L, le, bi⟩ := ⟨_, rfl⟩
  rw [← he]
  unfold chkI at he
  simp only at he h
  have HE := Lib.hid he
  have H := Lib.hid h
  clear he h
  unfold dv
  simp only
  have HC := Lib.hid (fun w => cblk B w)
  have HF := Lib.hid (fun w => cfix le bi w)
  by_cases h1 : K = 1
  · subst h1
    go_enter Tryz.func30, Tryz.ntmps30
    go_wp2_with (
      refine (HC.out _).mono ?_
      rintro e w' ⟨rfl, hw⟩
      rw [hw]
      clear hw)
    go_ret
    exact ⟨by rw [HE.out]; rfl, (Keeps.refl _ _).alloc _⟩
  · have hn1 : (K == 1) = false := by simpa using h1
    by_cases h3 : K = 3
    · subst h3
      have HN := Lib.hid (fun w (h : Ents w A n L) => new_e A n c L w h)
      have HA := Lib.hid (H.out.more ((Keeps.refl _ w).alloc (.cells #[.int .u8 3, .int .i64 B, .slice A n c, .int .i64 le, .int .i64 bi] 43)))
      go_enter Tryz.func30, Tryz.ntmps30
      go_wp2_with (
        refine (HN.out _ HA.out).mono ?_
        rintro e w' ⟨⟨p, rfl⟩, hk⟩
        have HK := Lib.hid hk
        clear hk)
      go_ret
      exact ⟨by rw [HE.out]; rfl, ((Keeps.refl _ _).alloc _).trans HK.out⟩
    · have hn3 : (K == 3) = false := by simpa using h3
      by_cases h6 : K = 6
      · subst h6
        go_enter Tryz.func30, Tryz.ntmps30
        go_wp2_with (
          refine (HF.out _).mono ?_
          rintro e w' ⟨rfl, hw⟩
          rw [hw]
          clear hw)
        go_ret
        exact ⟨by rw [HE.out]; rfl, (Keeps.refl _ _).alloc _⟩
      · have hn6 : (K == 6) = false := by simpa using h6
        go_enter Tryz.func30, Tryz.ntmps30
        go_wp2
        go_ret
        exact ⟨by rw [HE.out, if_neg h1, if_neg h3, if_neg h6]; try rfl, (Keeps.refl _ _).alloc _⟩

set_option maxHeartbeats 4000000 in
set_option maxRecDepth 100000 in
theorem check_a (A : Option Addr) (n c : Nat) (a : E) (w : World) (h : Ents w A n a.d.L) :
    Calls Tryz.prog 31 #[.agg (av A n c a)] w fun r w' => r = .returned (.int .i64 (chkA a)) ∧ Keeps (fun _ => False) w w' := by
  obtain ⟨d, K, B, S⟩ := a
  obtain ⟨e, he⟩ : ∃ e, e = chkA ⟨d, K, B, S⟩ := ⟨_, rfl⟩
  rw [← he]
  unfold chkA at he
  simp only at he h
  have HE := Lib.hid he
  have H := Lib.hid h
  clear he h
  have HC := Lib.hid (fun w => cblk B w)
  obtain ⟨b, hb⟩ : ∃ b, b = blkE B := ⟨_, rfl⟩
  rw [← hb] at HE HC
  clear hb
  have HI := Lib.hid (fun w (h : Ents w A n d.L) => check_i A n c d w h)
  obtain ⟨dK, dB, L, le, bi⟩ := d
  simp only at H
  unfold dv at HI
  unfold av
  simp only at HI ⊢
  have HA := Lib.hid (H.out.more ((Keeps.refl _ w).alloc (.cells #[.int .u8 dK, .int .i64 dB, .slice A n c, .int .i64 le, .int .i64 bi, .int .u8 K, .int .i64 B, .int .u8 S] 45)))
  by_cases h0 : b = 0
  · subst h0
    by_cases h4 : K = 4
    · subst h4
      go_enter Tryz.func31, Tryz.ntmps31
      go_wp2_with (first
        | (go_at_call 55
           refine (HC.out _).mono ?_
           rintro e w' ⟨rfl, hw⟩
           rw [hw]
           clear hw)
        | (go_at_call 30
           refine (HI.out _ HA.out).mono ?_
           rintro e w' ⟨rfl, hk⟩
           have HK := Lib.hid hk
           clear hk))
      go_ret
      exact ⟨by rw [HE.out]; rfl, ((Keeps.refl _ _).alloc _).trans HK.out⟩
    · have hn4 : (K == 4) = false := by simpa using h4
      by_cases h5 : K = 5
      · subst h5
        go_enter Tryz.func31, Tryz.ntmps31
        go_wp2_with (
          go_at_call 55
          refine (HC.out _).mono ?_
          rintro e w' ⟨rfl, hw⟩
          rw [hw]
          clear hw)
        go_ret
        exact ⟨by rw [HE.out]; rfl, (Keeps.refl _ _).alloc _⟩
      · have hn5 : (K == 5) = false := by simpa using h5
        go_enter Tryz.func31, Tryz.ntmps31
        go_wp2_with (
          go_at_call 55
          refine (HC.out _).mono ?_
          rintro e w' ⟨rfl, hw⟩
          rw [hw]
          clear hw)
        go_ret
        exact ⟨by rw [HE.out, if_neg (by simp), if_neg h4, if_neg h5]; try rfl, (Keeps.refl _ _).alloc _⟩
  · have hn0 : (b != 0) = true := by simpa using h0
    go_enter Tryz.func31, Tryz.ntmps31
    go_wp2_with (
      go_at_call 55
      refine (HC.out _).mono ?_
      rintro e w' ⟨rfl, hw⟩
      rw [hw]
      clear hw)
    go_ret
    exact ⟨by rw [HE.out, if_pos h0]; try rfl, (Keeps.refl _ _).alloc _⟩
end Go.Proofs.YtgaofnmgdefdcaaGreatDoor.Ds

namespace Go.Proofs.YtgaofnmgdefdcaaGreatDoor.Ds
open Go.RowKit Go.Proofs.YtgaofnmgdefdcaaGreatDoor.Gen Go.Proofs.YtgaofnmgdefdcaaGreatDoor.Wr Go.Proofs.YtgaofnmgdefdcaaGreatDoor.Ww Go.Proofs.YtgaofnmgdefdcaaGreatDoor.It Go.Proofs.YtgaofnmgdefdcaaGreatDoor.Iw Go.Proofs.YtgaofnmgdefdcaaGreatDoor.Ir Go.Proofs.YtgaofnmgdefdcaaGreatDoor.Ib Go.Proofs.YtgaofnmgdefdcaaGreatDoor.Tw Go.Proofs.YtgaofnmgdefdcaaGreatDoor.Hr Go.Proofs.YtgaofnmgdefdcaaGreatDoor.Hn Go.Proofs.YtgaofnmgdefdcaaGreatDoor.Hk Go.Proofs.YtgaofnmgdefdcaaGreatDoor.Ln

/-- A Writer, behind some puts. -/
def Wro (base g : Nat) (v : Value) (ys : List Int) (w wr : World) : Prop := ∃ v1, IsWr base g v1 ys wr ∧ Keeps (Its g v) w wr ∧ (v1.ownBlock = v.ownBlock ∨ ∃ b, v1.ownBlock = some b ∧ w.heap.size ≤ b)
theorem Wro.refl {base g : Nat} {v : Value} {ys : List Int} {w : World} (h : IsWr base g v ys w) : Wro base g v ys w w := ⟨v, h, Keeps.refl _ _, .inl rfl⟩
theorem Wro.still {base g : Nat} {v : Value} {ys : List Int} {w wr w1 : World} (h : Wro base g v ys w wr) (k : Keeps (fun _ => False) wr w1) : Wro base g v ys w w1 := by
  obtain ⟨v1, h1, h2, h3⟩ := h
  exact ⟨v1, h1.keeps k (fun _ _ => id), h2.trans k.none_, h3⟩
theorem Wro.puts {base g : Nat} {v : Value} {ys : List Int} {w wr : World} (h : Wro base g v ys w wr) : Puts base g v ys w (.returned (.tuple #[])) wr := ⟨rfl, h⟩
theorem Wro.of {base g : Nat} {v : Value} {ys : List Int} {w wr : World} {r : Ending} (h : Puts base g v ys w r wr) : Wro base g v ys w wr := h.2
theorem Wro.next {base g : Nat} {v v1 : Value} {zs : List Int} {w wr w2 : World} {r : Ending} (k : Keeps (Its g v) w wr) (ho : v1.ownBlock = v.ownBlock ∨ ∃ b, v1.ownBlock = some b ∧ w.heap.size ≤ b) (h2 : Puts base g v1 zs wr r w2) : Wro base g v zs w w2 :=
  (puts_trans k ho h2).2
theorem Wro.to {base g : Nat} {v : Value} {ys zs : List Int} {w wr w2 : World} (h : Wro base g v ys w wr) (h2 : ∀ v1, IsWr base g v1 ys wr → Wro base g v1 zs wr w2) : Wro base g v zs w w2 := by
  obtain ⟨v1, h1, k, ho⟩ := h
  exact (puts_trans k ho ⟨rfl, h2 v1 h1⟩).2
theorem ret_none {fn : Func} (h : fn.results = #[]) : ∀ (tmps : Array Value) (w : World), (results fn tmps).run Tryz.prog w = .ok (.tuple #[]) w := fun tmps w => results_none h tmps Tryz.prog w
theorem map_get {L : List G} {j : Nat} (h : j < L.length) : (L.map (·.1))[j]? = some (L.getD j (0, 0)).1 ∧ (L.map (·.2))[j]? = some (L.getD j (0, 0)).2 := by
  simp [List.getElem?_map, List.getElem?_eq_getElem h, List.getD_eq_getElem?_getD]
theorem far {base g x : Nat} {v : Value} {ys : List Int} {w : World} {t : TypeId} {cs : Array Value} (h : IsWr base g v ys w) (hb : Blk w x t cs) (hx : x ≠ g) (ht : 5 ≠ t) : ¬ Its g v x := by
  rintro (e | e)
  · exact hx e
  · exact Gen.own_ne h.2.2.2.2.2 hb ht e
theorem far_ents {g n : Nat} {v v1 : Value} {w : World} {A : Option Addr} {L : List G} (hL : Ents w A n L) (hA : 0 < n → ∀ b o, A = some ⟨b, o, none⟩ → ¬ Its g v b) (ho : v1.ownBlock = v.ownBlock ∨ ∃ b, v1.ownBlock = some b ∧ w.heap.size ≤ b) : 0 < n → ∀ b o, A = some ⟨b, o, none⟩ → ¬ Its g v1 b := by
  rintro h0 b o rfl (e | e)
  · exact hA h0 b o rfl (.inl e)
  · rcases ho with ho | ⟨b', ho, hb'⟩
    · exact hA h0 b o rfl (.inr (by rw [← ho]; exact e))
    · rw [e] at ho
      injection ho with ho
      have := hL.lt h0
      omega

end Go.Proofs.YtgaofnmgdefdcaaGreatDoor.Ds

/- Singles and pairs, merged to a row. -/
import Derived.Test.YtaamnbminmcbpaaDoorHufMerge
namespace Go.Proofs.YtaamnbminmcbpaaDoor.Hg
open Go.RowKit Go.Proofs.YtaamnbminmcbpaaDoor.Gen Go.Proofs.YtaamnbminmcbpaaDoor.Hp Go.Proofs.YtaamnbminmcbpaaDoor.Hr Go.Proofs.YtaamnbminmcbpaaDoor.Hm

/-- Where a slice lies that is cut from place k on, of elements of sz cells. -/
def cutSz (A : Option Addr) (c k sz : Nat) : Option Addr := if c = k then A else A.map (·.add (k * sz))
theorem run_cut_sz {P : Program} (t e : TypeId) (sz : Nat) (A : Option Addr) (n c k : Nat) (kl : IntKind) (K : Int) (hK : K = (k : Int)) (ht : P.underlying t = some (.slice e)) (he : ∀ w, (sizeOf e).run P w = .ok sz w) (hk : k ≤ n) (w : World) :
    (Instr.slice t (.slice A n c) (some (.int kl K)) none none).run P w = .ok (.slice (cutSz A c k sz) (n - k) (c - k)) w := by
  subst hK
  have hel : P.elem t = e := by simp [Program.elem, ht]
  rw [run_slice_l (P := P) w t A n c (by rw [hel]; exact ht) kl k (by omega) (by omega), hel, he]
  simp only [Result.andThen, sliced, Int.toNat_natCast]
  rfl
theorem row_tail {w : World} {B : Option Addr} {p c : Nat} {rest : List Nat} (h : RowAt w B (ics (pit (p :: rest)))) (hc : rest.length + 1 ≤ c) : RowAt w (cutSz B c 1 2) (ics (pit rest)) ∧ (cutSz B c 1 2 = none → c - 1 = 0) := by
  rcases h with h | ⟨b, o, rfl, hb, hx⟩
  · simp [pit, ics, ic] at h
  · unfold cutSz
    by_cases he : c = 1
    · refine ⟨.inl ?_, by simp [he]⟩
      have : rest = [] := List.eq_nil_of_length_eq_zero (by omega)
      subst this
      rfl
    · rw [if_neg he, Option.map_some, add_none]
      refine ⟨.inr ⟨b, o + 1 * 2, rfl, hb, fun i hi => ?_⟩, fun h => by cases h⟩
      have h1 := hx (2 + i) (by simp only [pit, ics_len, List.map_cons, List.length_cons, List.length_map] at hi ⊢; omega)
      rw [show o + 1 * 2 + i = o + (2 + i) by omega, h1]
      simp [pit, ics, ic, List.flatMap_cons, Nat.add_comm 2 i]
theorem merged_pair {p w : Nat} (ws ps : List Nat) (h : p < w) : merged (w :: ws) (p :: ps) = (p, false) :: merged (w :: ws) ps := by
  simp [merged, h]
theorem merged_single {w : Nat} (ws ps : List Nat) (h : ∀ p rest, ps = p :: rest → ¬ p < w) : merged (w :: ws) ps = (w, true) :: merged ws ps := by
  cases ps with
  | nil => simp [merged]
  | cons p ps =>
    have := h p ps rfl
    simp [merged, this]
/-- Numbers as cells. -/
def nv (ws : List Nat) : List Value := ws.map fun x : Nat => Value.int .i64 (x : Int)
theorem nv_len (ws : List Nat) : (nv ws).length = ws.length := by simp [nv]
theorem row_num {w : World} {A : Option Addr} {l : List Nat} (h : RowAt w A (nv l)) {j : Nat} (hj : j < l.length) :
    ∃ b o, A = some ⟨b, o, none⟩ ∧ b < w.heap.size ∧ w.cell? ⟨b, o + j, none⟩ = some (.int .i64 (l.getD j 0 : Int)) := by
  have hl := nv_len l
  rcases h with h | ⟨b, o, rfl, hb, hc⟩
  · rw [h] at hl; simp at hl; omega
  · refine ⟨b, o, rfl, hb, ?_⟩
    rw [hc j (by omega)]
    simp [nv, List.getD_eq_getElem?_getD, List.getElem?_eq_getElem hj]
theorem drop_at {l : List Nat} {d : Nat} (h : d < l.length) : l.drop d = l.getD d 0 :: l.drop (d + 1) := by
  rw [List.drop_eq_getElem_cons h, List.getD_eq_getElem?_getD, List.getElem?_eq_getElem h]
  rfl
theorem size_it (w : World) : (sizeOf 91).run Tryd.prog w = .ok 2 w := by kernel_rfl

/-- A slice's length. -/
def lenOf : Value → Nat
  | .slice _ n _ => n
  | _ => 0
/-- What is gathered, what is left. -/
structure Mst (w wr : World) (all : List It) (ws rest : List Nat) (B : Option Addr) (mr cb : Nat) (A2 : Option Addr) (k c2 : Nat) : Prop where
  len : rest.length = mr
  cap : mr ≤ cb
  nil : B = none → cb = 0
  row : RowAt w B (ics (pit rest))
  got : ∃ out : List It, out.length = k ∧ all = out ++ merged ws rest ∧ wr.ownsRow w.heap.size 91 2 (.slice A2 k c2) k (ics out)
  keeps : Keeps (fun _ => False) w wr
theorem Mst.bound {w wr : World} {all : List It} {ws rest : List Nat} {B : Option Addr} {mr cb : Nat} {A2 : Option Addr} {k c2 : Nat} (h : Mst w wr all ws rest B mr cb A2 k c2) : k + ws.length + mr = all.length := by
  obtain ⟨out, h1, h2, _⟩ := h.got
  rw [h2, List.length_append, merged_length, h1, h.len]
  omega

theorem wpList_app_items {ops : Array Oper} {rest : List Oper} {o : Oper} {a : Act} {w : World} {Q : Exit → Act → World → Prop} (hgd : o.guard = none) (s x : Operand) (ho : o.op = .call { callee := .builtin .append, args := #[s, x], argTypes := #[81, 81] })
    (base : Nat) (v : Value) (n : Nat) (ys : List It) (hs : a.eval s = v) (hown : w.ownsRow base 91 2 v n (ics ys))
    (A : Option Addr) (m c : Nat) (xs : List It) (hx : a.eval x = .slice A m c) (hl : RowAt w A (ics xs)) (hm : xs.length = m) (hc : A = none → c = 0)
    (h63 : n + m ≤ 10000000) (hbase : base ≤ w.heap.size)
    (h : ∀ v' w', w'.ownsRow base 91 2 v' (n + m) (ics (ys ++ xs)) → w.grownBy w' v.ownBlock → wpList Tryd.prog ops Q rest (a.put o.dst v') w') :
    wpList Tryd.prog ops Q (o :: rest) a w := by
  obtain ⟨i0, hi0, hz0, hz1, hz2⟩ := info_parts it_info
  cases A with
  | none =>
    obtain rfl : xs = [] := by
      rcases hl with h1 | ⟨b, o, h1, _⟩
      · have := ics_len xs
        rw [h1] at this
        exact List.eq_nil_of_length_eq_zero (by simp at this; omega)
      · cases h1
    obtain rfl := hc rfl
    simp at hm
    subst hm
    refine wpList_append_own_none hgd s x 81 ho base 91 i0 2 Tryd.underlying81 hi0 v n (ics ys) hs hown hx ?_
    refine h v w (by simpa using hown) ?_
    exact World.grownBy.refl _ _
  | some ad =>
    refine wpList_append_own_at w hgd s x 81 ho base 91 i0 _ 2 16 Tryd.underlying81 hi0 hz0 hz1 hz2 rfl (by omega) v n (ics ys) hs hown ad m c (ics xs) hx (by rw [ics_len]; omega) ?_ (ic_one _) (by simp only [maxLen]; omega) (by omega) hbase ?_
    · intro j u hu
      have hj := (List.getElem?_eq_some_iff.1 hu).1
      rcases hl with h1 | ⟨b, o1, hA, _, hcl⟩
      · rw [h1] at hj; simp at hj
      · have hA := Option.some.inj hA
        rw [hA, add_none, hcl j hj, hu]
    · intro v' w' h1 h2 _ _
      refine h v' w' ?_ h2
      rw [ics_app]
      exact h1

set_option maxHeartbeats 1600000 in
set_option maxRecDepth 4000 in
theorem merged_ (A : Option Addr) (c n : Nat) (ws : List Nat) (B : Option Addr) (cb m : Nat) (ps : List Nat) (w : World) (hws : ws.length = n) (hA : RowAt w A (nv ws)) (hps : ps.length = m) (hB : RowAt w B (ics (pit ps))) (hmc : m ≤ cb) (hnone : B = none → cb = 0)
    (hn : n ≤ 1000) (hm : m ≤ 1000) :
    Calls Tryd.prog 43 #[.slice A n c, .slice B m cb] w fun r w' => ∃ A2 c2, r = .returned (.slice A2 (n + m) c2) ∧ w'.ownsRow w.heap.size 91 2 (.slice A2 (n + m) c2) (n + m) (ics (merged ws ps)) ∧ Keeps (fun _ => False) w w' := by
  have HW := Lib.hid hws
  have HA := Lib.hid hA
  have hall : (merged ws ps).length = n + m := by rw [merged_length, hws, hps]
  have HALL := Lib.hid hall
  have H0 : Hid (∀ wr A2 c2, wr.ownsRow w.heap.size 91 2 (.slice A2 0 c2) 0 [] → Keeps (fun _ => False) w wr → Mst w wr (merged ws ps) (ws.drop 0) ps B m cb A2 0 c2) := fun wr A2 c2 ho hk => ⟨hps, hmc, hnone, hB, ⟨[], rfl, by simp, by simpa [ics] using ho⟩, hk⟩
  clear hws hA hps hB hmc hnone hall
  obtain ⟨i0, hi0, hz0, hz1, hz2⟩ := info_parts it_info
  generalize merged ws ps = all at *
  go_enter Tryd.func43, Tryd.ntmps43
  go_wp2_with (
    at_make
    refine wpList_make_own _ rfl _ _ _ rfl w.heap.size 91 i0 _ 2 Tryd.underlying81 hi0 hz0 hz1 .i64 .i64 _ (n + m) rfl rfl (by omega) (by rw [hz2]; omega) (by simp only [maxLen]; omega) (Nat.le_refl _) ?_
    intro w1 hown hg
    have HS := Lib.hid (H0.out w1 _ _ hown (Keeps.grown (Keeps.refl (fun _ => False) w) hg (fun _ h => by cases h)))
    clear hown hg)
  go_loopw [1, 5, 16] (fun pv sv i wr => ∃ (d : Nat) (rest : List Nat) (B' : Option Addr) (mr cb' : Nat) (A2 : Option Addr) (k c2 : Nat), d ≤ n ∧ pv = .slice B' mr cb' ∧ sv = .slice A2 k c2 ∧ i = .int .i64 (d : Int) ∧ Mst w wr all (ws.drop d) rest B' mr cb' A2 k c2) (fun _ _ i _ => n - (intOf i).toNat)
  case atStart => exact ⟨0, ps, B, m, cb, _, 0, _, by omega, rfl, rfl, rfl, HS.out⟩
  case round =>
    clear HS H0
    obtain ⟨d, rest, B', mr, cb', A2, k, c2, hd, rfl, rfl, rfl, hst⟩ := hrel
    have HS := Lib.hid hst
    clear hst
    by_cases hlt : d < n
    · obtain ⟨b, o, rfl, hb, h0⟩ := row_num HA.out (j := d) (by have := HW.out; omega)
      have h1 := (HS.out.keeps.cell (p := ⟨b, o + d, none⟩) hb id).trans h0
      obtain ⟨x, hx⟩ : ∃ x, x = ws.getD d 0 := ⟨_, rfl⟩
      rw [← hx] at h1
      have HD := Lib.hid (drop_at (l := ws) (d := d) (by have := HW.out; omega))
      rw [← hx] at HD
      clear h0 hx
      go_wp2
      go_loopw [1, 5] (fun pv sv wx => ∃ (rest : List Nat) (B' : Option Addr) (mr cb' : Nat) (A2 : Option Addr) (k c2 : Nat), pv = .slice B' mr cb' ∧ sv = .slice A2 k c2 ∧ Mst w wx all (ws.drop d) rest B' mr cb' A2 k c2) (fun pv _ _ => lenOf pv)
      case atStart => exact ⟨rest, B', mr, cb', A2, k, c2, rfl, rfl, HS.out⟩
      case round =>
        clear HS h1
        obtain ⟨rest, B', mr, cb', A2, k, c2, rfl, rfl, hst⟩ := hrel
        have HS := Lib.hid hst
        clear hst
        cases rest with
        | nil =>
          obtain rfl : mr = 0 := HS.out.len.symm
          obtain ⟨out, ho1, ho2, ho3⟩ := HS.out.got
          have hkb := HS.out.bound
          rw [HALL.out] at hkb
          have HOA := Lib.hid (own_keeps ho3 ((Keeps.refl (fun _ => False) _).alloc (.cells #[.int .i64 (x : Int), .bool true] 91)) (fun _ _ => id))
          have HKA := Lib.hid (HS.out.keeps.alloc (.cells #[.int .i64 (x : Int), .bool true] 91))
          have HNW := Lib.hid (cells_two wr (.int .i64 (x : Int)) (.bool true) 91)
          have HO2 := Lib.hid ho2
          have HO1 := Lib.hid ho1
          have hk2 : k ≤ 2000 := by omega
          clear ho1 ho2 ho3 hkb
          go_wp2_with (
            at_builtin
            refine wpList_append_own_at _ rfl (.tmp 39) (.tmp 42) _ rfl w.heap.size 91 i0 _ 2 16 Tryd.underlying81 hi0 hz0 hz1 hz2 rfl (by omega) (.slice A2 k c2) k (ics out) rfl
              HOA.out ⟨wr.heap.size, 0, none⟩ 1 1 [.int .i64 (x : Int), .bool true] rfl rfl HNW.out (by simp [Value.oneCell']) (by simp only [maxLen]; omega) (by omega) HKA.out.size ?_
            intro v1 w5 hown1 hg1 hnil1 hat1
            have HK5 := Lib.hid (HKA.out.grown hg1 (fun j hj => .inr (HOA.out.lt j hj).1))
            have HV5 := Lib.hid hown1
            obtain ⟨A4, c4, rfl, _⟩ := own_form hown1
            clear hown1 hg1 hnil1 hat1)
          refine ⟨⟨d + 1, _, B', _, cb', A4, k + 1, c4, by omega, rfl, rfl, by go_num, ⟨HS.out.len, HS.out.cap, HS.out.nil, HS.out.row, ⟨out ++ [(x, true)], by simp [HO1.out], ?_, ?_⟩, HK5.out⟩⟩, by simp [intOf]; omega⟩
          · rw [HO2.out, HD.out, merged_single _ _ (by intro _ _ h; cases h), List.append_assoc, List.singleton_append]
          · rw [ics_app]
            exact HV5.out
        | cons p rest =>
          obtain ⟨b2, o2, rfl, hb2, hp0, _⟩ := HS.out.row.item (j := 0) (by simp [pit])
          obtain ⟨mr, rfl⟩ : ∃ k, mr = k + 1 := ⟨rest.length, HS.out.len.symm⟩
          have hp1 := (HS.out.keeps.cell (p := ⟨b2, o2 + 0 * 2, none⟩) hb2 id).trans hp0
          obtain ⟨_, _, hA2, _, _, hp2⟩ := HS.out.row.item (j := 0) (by simp [pit])
          injection hA2 with hA2
          injection hA2 with e1 e2
          subst e1
          subst e2
          have hp3 := (HS.out.keeps.cell (p := ⟨b2, o2 + 0 * 2 + 1, none⟩) hb2 id).trans hp2
          simp [pit] at hp1 hp3
          clear hp0 hp2
          by_cases hpx : p < x
          · obtain ⟨hrt, hrn⟩ := row_tail HS.out.row (c := cb') (by have := HS.out.len; have := HS.out.cap; simp at *; omega)
            have HRT := Lib.hid hrt
            have HRN := Lib.hid hrn
            have hcut := fun w => run_cut_sz (P := Tryd.prog) 81 91 2 (some ⟨b2, o2, none⟩) (mr + 1) cb' 1 .i64 1 rfl Tryd.underlying81 size_it (by omega) w
            rw [Nat.add_sub_cancel] at hcut
            generalize cutSz (some ⟨b2, o2, none⟩) cb' 1 2 = B2 at *
            have hpxi : (p : Int) < (x : Int) := by omega
            clear hrt hrn hpx
            obtain ⟨out, ho1, ho2, ho3⟩ := HS.out.got
            have hkb := HS.out.bound
            rw [HALL.out] at hkb
            have HOA := Lib.hid (own_keeps ho3 ((Keeps.refl (fun _ => False) _).alloc (.cells #[.int .i64 (p : Int), .bool false] 91)) (fun _ _ => id))
            have HKA := Lib.hid (HS.out.keeps.alloc (.cells #[.int .i64 (p : Int), .bool false] 91))
            have HNW := Lib.hid (cells_two wr (.int .i64 (p : Int)) (.bool false) 91)
            have HO2 := Lib.hid ho2
            have HO1 := Lib.hid ho1
            have hk2 : k ≤ 2000 := by omega
            clear ho1 ho2 ho3 hkb
            go_wp2_with (
              at_builtin
              refine wpList_append_own_at _ rfl (.tmp 31) (.tmp 35) _ rfl w.heap.size 91 i0 _ 2 16 Tryd.underlying81 hi0 hz0 hz1 hz2 rfl (by omega) (.slice A2 k c2) k (ics out) rfl
                HOA.out ⟨wr.heap.size, 0, none⟩ 1 1 [.int .i64 (p : Int), .bool false] rfl rfl HNW.out (by simp [Value.oneCell']) (by simp only [maxLen]; omega) (by omega) HKA.out.size ?_
              intro v1 w5 hown1 hg1 hnil1 hat1
              have HK5 := Lib.hid (HKA.out.grown hg1 (fun j hj => .inr (HOA.out.lt j hj).1))
              have HV5 := Lib.hid hown1
              obtain ⟨A4, c4, rfl, _⟩ := own_form hown1
              clear hown1 hg1 hnil1 hat1)
            refine ⟨⟨rest, B2, mr, cb' - 1, A4, k + 1, c4, rfl, rfl, ⟨by have := HS.out.len; simpa using this, by have := HS.out.cap; omega, HRN.out, HRT.out, ⟨out ++ [(p, false)], by simp [HO1.out], ?_, ?_⟩, HK5.out⟩⟩, by simp [lenOf]⟩
            · rw [HO2.out, HD.out, merged_pair _ _ (by omega), List.append_assoc, List.singleton_append]
            · rw [ics_app]
              exact HV5.out
          · have hpxi : ¬ ((p : Int) < (x : Int)) := by omega
            have HPX := Lib.hid hpx
            clear hpx
            obtain ⟨out, ho1, ho2, ho3⟩ := HS.out.got
            have hkb := HS.out.bound
            rw [HALL.out] at hkb
            have HOA := Lib.hid (own_keeps ho3 ((Keeps.refl (fun _ => False) _).alloc (.cells #[.int .i64 (x : Int), .bool true] 91)) (fun _ _ => id))
            have HKA := Lib.hid (HS.out.keeps.alloc (.cells #[.int .i64 (x : Int), .bool true] 91))
            have HNW := Lib.hid (cells_two wr (.int .i64 (x : Int)) (.bool true) 91)
            have HO2 := Lib.hid ho2
            have HO1 := Lib.hid ho1
            have hk2 : k ≤ 2000 := by omega
            clear ho1 ho2 ho3 hkb
            go_wp2_with (
              at_builtin
              refine wpList_append_own_at _ rfl (.tmp 39) (.tmp 42) _ rfl w.heap.size 91 i0 _ 2 16 Tryd.underlying81 hi0 hz0 hz1 hz2 rfl (by omega) (.slice A2 k c2) k (ics out) rfl
                HOA.out ⟨wr.heap.size, 0, none⟩ 1 1 [.int .i64 (x : Int), .bool true] rfl rfl HNW.out (by simp [Value.oneCell']) (by simp only [maxLen]; omega) (by omega) HKA.out.size ?_
              intro v1 w5 hown1 hg1 hnil1 hat1
              have HK5 := Lib.hid (HKA.out.grown hg1 (fun j hj => .inr (HOA.out.lt j hj).1))
              have HV5 := Lib.hid hown1
              obtain ⟨A4, c4, rfl, _⟩ := own_form hown1
              clear hown1 hg1 hnil1 hat1)
            refine ⟨⟨d + 1, _, _, _, cb', A4, k + 1, c4, by omega, rfl, rfl, by go_num, ⟨HS.out.len, HS.out.cap, HS.out.nil, HS.out.row, ⟨out ++ [(x, true)], by simp [HO1.out], ?_, ?_⟩, HK5.out⟩⟩, by simp [intOf]; omega⟩
            · rw [HO2.out, HD.out, merged_single _ _ (by rintro _ _ ⟨⟩; exact HPX.out), List.append_assoc, List.singleton_append]
            · rw [ics_app]
              exact HV5.out

    · obtain rfl : d = n := by omega
      have hge : ¬ ((d : Int) < (d : Int)) := by omega
      obtain ⟨out, ho1, ho2, ho3⟩ := HS.out.got
      have hkb := HS.out.bound
      rw [HALL.out, List.length_drop, HW.out] at hkb
      rw [List.drop_eq_nil_of_le (by have := HW.out; omega)] at ho2
      have HO2 := Lib.hid ho2
      have HO3 := Lib.hid ho3
      clear ho1 ho2 ho3 hlt
      go_wp2_with (
        at_builtin
        refine wpList_app_items rfl (.tmp 45) (.tmp 46) rfl w.heap.size _ k out rfl HO3.out B' mr cb' (pit rest) rfl (HS.out.row.keeps HS.out.keeps (fun _ _ _ => id)) (by rw [pit_len]; exact HS.out.len) HS.out.nil (by omega) HS.out.keeps.size ?_
        intro v1 w5 hown1 hg1
        have HK5 := Lib.hid (HS.out.keeps.grown hg1 (fun j hj => .inr (HO3.out.lt j hj).1))
        have HV5 := Lib.hid hown1
        obtain ⟨A4, c4, rfl, _⟩ := own_form hown1
        clear hown1 hg1)
      go_ret
      have hkm : k + mr = d + m := by omega
      rw [hkm] at HV5 ⊢
      refine ⟨A4, c4, rfl, ?_, HK5.out⟩
      rw [HO2.out]
      exact HV5.out
end Go.Proofs.YtaamnbminmcbpaaDoor.Hg

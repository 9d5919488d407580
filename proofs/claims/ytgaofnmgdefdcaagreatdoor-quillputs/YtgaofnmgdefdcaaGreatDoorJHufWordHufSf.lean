/- The words of entries, by the statements' own function: a map of bits. -/
/- Entries by their sizes (huff's shortestFirst): a row of its own, the line of words. -/
import Derived.Test.YtgaofnmgdefdcaaGreatDoorJHufLineHufStb
import Derived.Test.YtgaofnmgdefdcaaGreatDoorJHufLiteClone
import Derived.Test.YtgaofnmgdefdcaaGreatDoorJBitFnBitRef
import Derived.Test.YtgaofnmgdefdcaaGreatDoorHufStS
import Derived.Test.YtgaofnmgdefdcaaGreatDoorJHufCmpHufMap

namespace Go.Proofs.YtgaofnmgdefdcaaGreatDoor.Hw
open Go.RowKit Go.Shelf Go.Lib Go.Sort Go.Proofs.YtgaofnmgdefdcaaGreatDoor.Gen Go.Proofs.YtgaofnmgdefdcaaGreatDoor.Mp Go.Proofs.YtgaofnmgdefdcaaGreatDoor.Hr Go.Proofs.YtgaofnmgdefdcaaGreatDoor.Hp Go.Proofs.YtgaofnmgdefdcaaGreatDoor.Hm Go.Proofs.YtgaofnmgdefdcaaGreatDoor.Hg Go.Proofs.YtgaofnmgdefdcaaGreatDoor.So Go.Proofs.YtgaofnmgdefdcaaGreatDoor.Hs Go.Proofs.YtgaofnmgdefdcaaGreatDoor.Hf Go.Proofs.YtgaofnmgdefdcaaGreatDoor.Hz Go.Proofs.YtgaofnmgdefdcaaGreatDoor.Ha Go.Proofs.YtgaofnmgdefdcaaGreatDoor.Ln Go.Proofs.YtgaofnmgdefdcaaGreatDoor.Bp

/-- One by one. -/
def Fa {α β : Type} (R : α → β → Prop) : List α → List β → Prop
  | [], [] => True
  | a :: l, b :: m => R a b ∧ Fa R l m
  | _, _ => False
theorem Fa.imp {α β : Type} {R R' : α → β → Prop} (h : ∀ a b, R a b → R' a b) : ∀ {l : List α} {m : List β}, Fa R l m → Fa R' l m
  | [], [], _ => trivial
  | _ :: _, _ :: _, hf => ⟨h _ _ hf.1, Fa.imp h hf.2⟩
theorem Fa.snoc {α β : Type} {R : α → β → Prop} {a : α} {b : β} (h : R a b) : ∀ {l : List α} {m : List β}, Fa R l m → Fa R (l ++ [a]) (m ++ [b])
  | [], [], _ => ⟨h, trivial⟩
  | _ :: _, _ :: _, hf => ⟨hf.1, Fa.snoc h hf.2⟩
theorem Fa.len {α β : Type} {R : α → β → Prop} : ∀ {l : List α} {m : List β}, Fa R l m → l.length = m.length
  | [], [], _ => rfl
  | _ :: _, _ :: _, hf => by simp [Fa.len hf.2]
theorem Fa.mem {α β : Type} {R : α → β → Prop} : ∀ {l : List α} {m : List β}, Fa R l m → ∀ b ∈ m, ∃ a ∈ l, R a b
  | [], [], _, b, hb => by cases hb
  | a :: l, c :: m, hf, b, hb => by
    rcases List.mem_cons.1 hb with rfl | hb
    · exact ⟨a, by simp, hf.1⟩
    · obtain ⟨x, hx, h⟩ := Fa.mem hf.2 b hb
      exact ⟨x, by simp [hx], h⟩
theorem Fa.map {α β γ : Type} {R : α → β → Prop} {f : α → γ} {g : β → γ} (h : ∀ a b, R a b → f a = g b) : ∀ {l : List α} {m : List β}, Fa R l m → l.map f = m.map g
  | [], [], _ => rfl
  | _ :: _, _ :: _, hf => by simp [h _ _ hf.1, Fa.map h hf.2]
/-- A word in a map: its number's key, its bits in a row that is not the map. -/
def Wrd (w : World) (bm : Nat) (t : Int × Nat × Nat) (p : Lit × Value) : Prop :=
  p.1 = .int .i64 t.1 ∧ ∃ A c, p.2 = .slice A t.2.1 c ∧ t.2.1 ≤ c ∧ Lies w A (Bq.ib (tb t.2.2 t.2.1)) ∧ ∀ b o, A = some ⟨b, o, none⟩ → b ≠ bm
theorem Wrd.keeps {S : Nat → Prop} {w w1 : World} {bm : Nat} {t : Int × Nat × Nat} {p : Lit × Value} (h : Wrd w bm t p) (k : Keeps S w w1) (hs : ∀ b, S b → b = bm) : Wrd w1 bm t p := by
  obtain ⟨h1, A, c, h2, h3, h4, h5⟩ := h
  exact ⟨h1, A, c, h2, h3, h4.keeps k (fun b o e hS => h5 b o e (hs b hS)), h5⟩
theorem update_run {P : Program} {w : World} {k e t : TypeId} {b : Nat} {m : List (Lit × Value)} (h : IsM P k w b m) (K : Go.Maps.Keyed P k) (ht : P.underlying t = some (.map k e)) (hl : m.length ≤ 1000000) {key val : Value} {kl : Lit} (hkey : keyOf P k key = some kl) :
    ∃ w', (Instr.mapUpdate t (.map (some b)) key val).run P w = .ok () w' ∧ IsM P k w' b (upd m kl val) ∧ Keeps (· = b) w w' := by
  obtain ⟨D, h1, h3⟩ := h
  obtain ⟨w', hrun, r1, r2⟩ := h1.update K ht (by simp only [maxLen]; omega) hkey (d := .held val) (ps := []) (val := val) rfl
  exact ⟨w', hrun, IsM.of r1 (h3.put (K.key hkey) val), Keeps.grown (Keeps.refl _ _) r2 (fun j hj => .inl (by injection hj with hj; exact hj.symm))⟩
/-- Entries lie there, one by one. -/
def EntsAt (w : World) (A : Option Addr) (L : List (Int × Nat)) : Prop := RowAt w A (evs L)
theorem EntsAt.item {w : World} {A : Option Addr} {l : List (Int × Nat)} (h : EntsAt w A l) {j : Nat} (hj : j < l.length) :
    ∃ b o, A = some ⟨b, o, none⟩ ∧ b < w.heap.size ∧ w.cell? ⟨b, o + j * 2, none⟩ = some (.int .i64 (l.getD j (0, 0)).1) ∧ w.cell? ⟨b, o + j * 2 + 1, none⟩ = some (.int .i64 ((l.getD j (0, 0)).2 : Int)) := by
  have hl := evs_len l
  rcases h with h | ⟨b, o, rfl, hb, hc⟩
  · rw [h] at hl; simp at hl; omega
  · refine ⟨b, o, rfl, hb, ?_, ?_⟩
    · rw [hc _ (by omega), evs_get0 l j hj]
    · rw [Nat.add_assoc, hc _ (by omega), evs_get1 l j hj]
/-- While words are laid. -/
structure Wst (w wr : World) (bm : Nat) (l : List (Int × Nat)) : Prop where
  ex : ∃ m, IsM Tryz.prog 3 wr bm m ∧ Fa (Wrd wr bm) (asg 0 l) m
  keeps : Keeps (fun _ => False) w wr
  fits : posOf l ≤ 2 ^ 20
theorem Wst.next {w wr w1 : World} {bm : Nat} {l : List (Int × Nat)} (h : Wst w wr bm l) (k : Keeps (fun _ => False) wr w1) : Wst w w1 bm l := by
  obtain ⟨m, h1, h2⟩ := h.ex
  exact ⟨⟨m, h1.keeps k id, h2.imp fun a b hab => hab.keeps k (fun _ => False.elim)⟩, h.keeps.trans k, h.fits⟩
theorem Wst.store {w wr w1 : World} {bm : Nat} {l : List (Int × Nat)} {x : Int} {z : Nat} {A : Option Addr} {c : Nat} {m : List (Lit × Value)} (h1 : IsM Tryz.prog 3 wr bm m) (h2 : Fa (Wrd wr bm) (asg 0 l) m) (hk0 : Keeps (fun _ => False) w wr) (hw : w.heap.size ≤ bm) (hx : (Lit.int .i64 x).wf = true) (hnew : x ∉ l.map (·.1)) (hz : ∀ p ∈ l, p.2 ≤ z) (hz2 : z ≤ 20) (hf : posOf l < 2 ^ 20)
    (hl : Lies wr A (Bq.ib (tb (nextOf l z) z))) (hc : z ≤ c) (hA : ∀ b o, A = some ⟨b, o, none⟩ → b ≠ bm) (hm : IsM Tryz.prog 3 w1 bm (upd m (.int .i64 x) (.slice A z c))) (hk : Keeps (· = bm) wr w1) : Wst w w1 bm (l ++ [(x, z)]) := by
  have hkeys : (asg 0 l).map (fun t => Lit.int .i64 t.1) = m.map (·.1) := Fa.map (fun a b hab => hab.1.symm) h2
  have hn : Lit.int .i64 x ∉ m.map (·.1) := by
    rw [← hkeys]
    intro hm
    rw [List.mem_map] at hm
    obtain ⟨t, ht, e⟩ := hm
    injection e with _ e
    refine hnew ?_
    rw [← asg_keys 0 l, List.map_map]
    exact List.mem_map.2 ⟨t, ht, e⟩
  refine ⟨⟨m ++ [(.int .i64 x, .slice A z c)], ?_, ?_⟩, keeps_low hk0 hk (fun y hy => by omega), fits_more hz2 hz x hf⟩
  · have := hm
    rw [upd_new (kl := Lit.int .i64 x) trivial hn] at this
    exact this
  · rw [asg_app]
    have h3 : Fa (Wrd w1 bm) (asg 0 l) m := h2.imp fun a b hab => hab.keeps hk (fun _ h => h)
    have h4 : asg (0 + posOf l) [(x, z)] = [(x, z, nextOf l z)] := by simp [asg, nextOf]
    rw [h4]
    exact Fa.snoc ⟨rfl, A, c, rfl, hc, hl.keeps hk (fun b o e => hA b o e), hA⟩ h3
end Go.Proofs.YtgaofnmgdefdcaaGreatDoor.Hw

namespace Go.Proofs.YtgaofnmgdefdcaaGreatDoor.Ss
open Go.Proofs.YtgaofnmgdefdcaaGreatDoor.Cm Go.RowKit Go.Shelf Go.Sort Go.Proofs.YtgaofnmgdefdcaaGreatDoor.Gen Go.Proofs.YtgaofnmgdefdcaaGreatDoor.Mp Go.Proofs.YtgaofnmgdefdcaaGreatDoor.Hr Go.Proofs.YtgaofnmgdefdcaaGreatDoor.Hp Go.Proofs.YtgaofnmgdefdcaaGreatDoor.Hg Go.Proofs.YtgaofnmgdefdcaaGreatDoor.So Go.Proofs.YtgaofnmgdefdcaaGreatDoor.Hs Go.Proofs.YtgaofnmgdefdcaaGreatDoor.Hf Go.Proofs.YtgaofnmgdefdcaaGreatDoor.Hz Go.Proofs.YtgaofnmgdefdcaaGreatDoor.St Go.Proofs.YtgaofnmgdefdcaaGreatDoor.Ln Go.Proofs.YtgaofnmgdefdcaaGreatDoor.Hw

theorem closureS : CmpS := by
  intro x y W
  have hcon := fun W' => cmpI_ (x.2 : Int) (y.2 : Int) W'
  change ∀ W', Calls Tryz.prog 103 _ _ _ at hcon
  generalize Lib.compareInt (x.2 : Int) (y.2 : Int) = r at hcon ⊢
  go_enter Tryz.func102, Tryz.ntmps102
  go_wp2_with (go_at_call 103; refine (hcon _).mono ?_; rintro e w' ⟨rfl, rfl⟩)
  go_ret
  exact ⟨rfl, 0, _, by rw [alloc_eq_grow, alloc_eq_grow, grow_grow]; rfl⟩
theorem evs_one (l : List (Int × Nat)) : ∀ u ∈ evs l, u.oneCell' = true := by
  intro u hu
  simp only [evs, List.mem_flatMap] at hu
  obtain ⟨x, _, hx⟩ := hu
  simp [ev] at hx
  rcases hx with rfl | rfl <;> rfl
/-- A row of one's own, as a block. -/
theorem row_own {w : World} {base n c : Nat} {A : Option Addr} {L : List (Int × Nat)} (h : w.ownsRow base 87 2 (.slice A n c) n (evs L)) (h0 : 0 < n) : ∃ g T, A = some ⟨g, 0, none⟩ ∧ base ≤ g ∧ Row w g L T := by
  rcases h.2 with ⟨hv, hn⟩ | ⟨g, cap, cur, hv, hb, hh, h1, h2, h3, h4⟩
  · omega
  · injection hv with hA _ hc
    refine ⟨g, cur.toList.drop (n * 2), hA, hb, ?_⟩
    show w.heap[g]? = _
    rw [hh]
    congr 2
    rw [← h4, List.take_append_drop]
theorem cloneE_ (ad : Addr) (n c : Nat) (L : List (Int × Nat)) (w : World) (hL : RowAt w (some ad) (evs L)) (hn : L.length = n) (h0 : 0 < n) (hs : n ≤ 1000) :
    Calls Tryz.prog 87 #[.slice (some ad) n c] w fun r w' => ∃ g c' T, r = .returned (.slice (some ⟨g, 0, none⟩) n c') ∧ w.heap.size ≤ g ∧ Row w' g L T ∧ Keeps (fun _ => False) w w' := by
  obtain ⟨i0, hi0, hz0, hz1, hz2⟩ := info_parts ent_info
  have he := fun (w : World) => Lib.run_eql_slice_nil (P := Tryz.prog) w 41 87 (some ad) n c 0 0 Tryz.underlying41
  have hnews : ∀ j u, (evs L)[j]? = some u → (w.alloc (.cells #[] 87)).cell? (ad.add j) = some u := by
    have h1 := hL.keeps (S := fun _ => False) ((Keeps.refl _ _).alloc (.cells #[] 87)) (fun _ _ _ => id)
    intro j u hj
    rcases h1 with h1 | ⟨b, o, hA, hb, hc⟩
    · rw [h1] at hj; simp at hj
    · obtain rfl := Option.some.inj hA
      rw [add_none]
      exact (hc j (List.getElem?_eq_some_iff.1 hj).1).trans hj
  clear hL
  go_enter Tryz.func87, Tryz.ntmps87
  go_wp2_with (
    at_builtin
    refine wpList_append_own_at _ rfl (.tmp 5) (.tmp 6) _ rfl w.heap.size 87 i0 _ 2 16 Tryz.underlying41 hi0 hz0 hz1 hz2 rfl (by omega) (.slice (some ⟨w.heap.size, 0, none⟩) 0 0) 0 [] rfl
      ⟨rfl, .inr ⟨w.heap.size, 0, #[], rfl, Nat.le_refl _, heap_alloc_new w _, Nat.le_refl _, by simp [maxLen], rfl, rfl⟩⟩ ad n c (evs L) rfl (by rw [evs_len, hn]) hnews (evs_one L) (by simp only [maxLen]; omega) (by omega) (by simp) ?_
    intro v1 w1 hown1 hg1 hnil1 hat1)
  go_ret
  simp only [Nat.zero_add, List.nil_append] at hown1
  obtain ⟨A1, c1, rfl, _⟩ := own_form hown1
  obtain ⟨g, T, rfl, hg, hr⟩ := row_own hown1 h0
  exact ⟨g, c1, T, rfl, hg, hr, ((Keeps.refl _ _).alloc _).grown hg1 (fun k hk => .inr (by simp [Value.ownBlock] at hk; omega))⟩
theorem shortest_ (A : Option Addr) (n c : Nat) (L : List (Int × Nat)) (w : World) (hL : EntsAt w A L) (hn : L.length = n) (h0 : 0 < n) (hs : n ≤ 1000) (hz : ∀ p ∈ L, p.2 ≤ 20) :
    Calls Tryz.prog 83 #[.slice A n c] w fun r w' => ∃ g c', r = .returned (.slice (some ⟨g, 0, none⟩) n c') ∧ w.heap.size ≤ g ∧ EntsAt w' (some ⟨g, 0, none⟩) (line L 21) ∧ Keeps (fun _ => False) w w' := by
  obtain ⟨ad, rfl⟩ : ∃ ad, A = some ad := by
    rcases hL with h | ⟨b, o, h, _⟩
    · have := evs_len L
      rw [h] at this
      simp at this
      omega
    · exact ⟨_, h⟩
  have HRO := Lib.hid (cloneE_ ad n c L w hL hn h0 hs)
  clear hL
  go_enter Tryz.func83, Tryz.ntmps83
  go_wp2_with fail
  refine HRO.out.mono ?_
  rintro e w1 ⟨g, c1, T, rfl, hg, hr, hk⟩
  have HR2 := Lib.hid (sortStable_ closureS g n c1 L T w1 hr hn (by omega))
  have HK := Lib.hid hk
  clear hr hk
  go_wp2_with fail
  refine HR2.out.mono ?_
  rintro e w2 ⟨rfl, hk2, Z, z1, z2, z3, z4⟩
  have HE : Hid (EntsAt w2 (some ⟨g, 0, none⟩) (line L 21)) := by
    rw [← Fl.line z2 z1 hz]
    refine .inr ⟨g, 0, rfl, z4.lt, fun i hi => ?_⟩
    rw [Nat.zero_add, Blk.cell z4, List.getElem?_toArray, List.getElem?_append_left hi]
  have HK2 := Lib.hid (keeps_low HK.out hk2 (fun y hy => by omega))
  clear hk2 z1 z2 z3 z4
  go_wp2
  go_ret
  exact ⟨g, c1, rfl, hg, HE.out, HK2.out⟩
end Go.Proofs.YtgaofnmgdefdcaaGreatDoor.Ss

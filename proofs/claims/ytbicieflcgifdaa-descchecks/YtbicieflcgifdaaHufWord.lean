/- The words of entries, by the statements' own function: a map of bits. -/
import Derived.Test.YtbicieflcgifdaaHufLine
import Derived.Test.YtbicieflcgifdaaHufLite
import Derived.Test.YtbicieflcgifdaaBitRef
namespace Go.Proofs.Ytbicieflcgifdaa.Hw
open Go.RowKit Go.Shelf Go.Lib Go.Sort Go.Proofs.Ytbicieflcgifdaa.Gen Go.Proofs.Ytbicieflcgifdaa.Mp Go.Proofs.Ytbicieflcgifdaa.Hr Go.Proofs.Ytbicieflcgifdaa.Hp Go.Proofs.Ytbicieflcgifdaa.Hm Go.Proofs.Ytbicieflcgifdaa.Hg Go.Proofs.Ytbicieflcgifdaa.So Go.Proofs.Ytbicieflcgifdaa.Hs Go.Proofs.Ytbicieflcgifdaa.Hf Go.Proofs.Ytbicieflcgifdaa.Hz Go.Proofs.Ytbicieflcgifdaa.Ha Go.Proofs.Ytbicieflcgifdaa.Ln Go.Proofs.Ytbicieflcgifdaa.Bp

/-- One by one. -/
def Fa {α β : Type} (R : α → β → Prop) : List α → List β → Prop
  | [], [] => True
  | a :: l, b :: m => R a b ∧ Fa R l m
  | _, _ => False
theorem Fa.imp {α β : Type} {R R' : α → β → Prop} (h : ∀ a b, R a b → R' a b) : ∀ {l : List α} {m : List β}, Fa R l m → Fa R' l m
  | [], [], _ => trivial
  | _ :: _, _ :: _, hf => ⟨h _ _ hf.1, Fa.imp h hf.2⟩
theorem Fa.snoc {α β : Type} {R : α → β → Prop} {a : α} {b : β} (h : R a b) : ∀ {l : List α} {m : List β}, Fa R l m → Fa R (l ++ [a]) (m ++ [b])
  | [], [], _ => ⟨h, trivial⟩
  | _ :: _, _ :: _, hf => ⟨hf.1, Fa.snoc h hf.2⟩
theorem Fa.len {α β : Type} {R : α → β → Prop} : ∀ {l : List α} {m : List β}, Fa R l m → l.length = m.length
  | [], [], _ => rfl
  | _ :: _, _ :: _, hf => by simp [Fa.len hf.2]
theorem Fa.mem {α β : Type} {R : α → β → Prop} : ∀ {l : List α} {m : List β}, Fa R l m → ∀ b ∈ m, ∃ a ∈ l, R a b
  | [], [], _, b, hb => by cases hb
  | a :: l, c :: m, hf, b, hb => by
    rcases List.mem_cons.1 hb with rfl | hb
    · exact ⟨a, by simp, hf.1⟩
    · obtain ⟨x, hx, h⟩ := Fa.mem hf.2 b hb
      exact ⟨x, by simp [hx], h⟩
theorem Fa.map {α β γ : Type} {R : α → β → Prop} {f : α → γ} {g : β → γ} (h : ∀ a b, R a b → f a = g b) : ∀ {l : List α} {m : List β}, Fa R l m → l.map f = m.map g
  | [], [], _ => rfl
  | _ :: _, _ :: _, hf => by simp [h _ _ hf.1, Fa.map h hf.2]
/-- A word in a map: its number's key, its bits in a row that is not the map. -/
def Wrd (w : World) (bm : Nat) (t : Int × Nat × Nat) (p : Lit × Value) : Prop :=
  p.1 = .int .i64 t.1 ∧ ∃ A c, p.2 = .slice A t.2.1 c ∧ t.2.1 ≤ c ∧ Lies w A (Bq.ib (tb t.2.2 t.2.1)) ∧ ∀ b o, A = some ⟨b, o, none⟩ → b ≠ bm
theorem Wrd.keeps {S : Nat → Prop} {w w1 : World} {bm : Nat} {t : Int × Nat × Nat} {p : Lit × Value} (h : Wrd w bm t p) (k : Keeps S w w1) (hs : ∀ b, S b → b = bm) : Wrd w1 bm t p := by
  obtain ⟨h1, A, c, h2, h3, h4, h5⟩ := h
  exact ⟨h1, A, c, h2, h3, h4.keeps k (fun b o e hS => h5 b o e (hs b hS)), h5⟩
theorem update_run {P : Program} {w : World} {k e t : TypeId} {b : Nat} {m : List (Lit × Value)} (h : IsM P k w b m) (K : Go.Maps.Keyed P k) (ht : P.underlying t = some (.map k e)) (hl : m.length ≤ 1000000) {key val : Value} {kl : Lit} (hkey : keyOf P k key = some kl) :
    ∃ w', (Instr.mapUpdate t (.map (some b)) key val).run P w = .ok () w' ∧ IsM P k w' b (upd m kl val) ∧ Keeps (· = b) w w' := by
  obtain ⟨D, h1, h3⟩ := h
  obtain ⟨w', hrun, r1, r2⟩ := h1.update K ht (by simp only [maxLen]; omega) hkey (d := .held val) (ps := []) (val := val) rfl
  exact ⟨w', hrun, IsM.of r1 (h3.put (K.key hkey) val), Keeps.grown (Keeps.refl _ _) r2 (fun j hj => .inl (by injection hj with hj; exact hj.symm))⟩
/-- Entries lie there, one by one. -/
def EntsAt (w : World) (A : Option Addr) (L : List (Int × Nat)) : Prop := RowAt w A (evs L)
theorem EntsAt.item {w : World} {A : Option Addr} {l : List (Int × Nat)} (h : EntsAt w A l) {j : Nat} (hj : j < l.length) :
    ∃ b o, A = some ⟨b, o, none⟩ ∧ b < w.heap.size ∧ w.cell? ⟨b, o + j * 2, none⟩ = some (.int .i64 (l.getD j (0, 0)).1) ∧ w.cell? ⟨b, o + j * 2 + 1, none⟩ = some (.int .i64 ((l.getD j (0, 0)).2 : Int)) := by
  have hl := evs_len l
  rcases h with h | ⟨b, o, rfl, hb, hc⟩
  · rw [h] at hl; simp at hl; omega
  · refine ⟨b, o, rfl, hb, ?_, ?_⟩
    · rw [hc _ (by omega), evs_get0 l j hj]
    · rw [Nat.add_assoc, hc _ (by omega), evs_get1 l j hj]
/-- While words are laid. -/
structure Wst (w wr : World) (bm : Nat) (l : List (Int × Nat)) : Prop where
  ex : ∃ m, IsM Try.prog 3 wr bm m ∧ Fa (Wrd wr bm) (asg 0 l) m
  keeps : Keeps (fun _ => False) w wr
  fits : posOf l ≤ 2 ^ 20
theorem Wst.next {w wr w1 : World} {bm : Nat} {l : List (Int × Nat)} (h : Wst w wr bm l) (k : Keeps (fun _ => False) wr w1) : Wst w w1 bm l := by
  obtain ⟨m, h1, h2⟩ := h.ex
  exact ⟨⟨m, h1.keeps k id, h2.imp fun a b hab => hab.keeps k (fun _ => False.elim)⟩, h.keeps.trans k, h.fits⟩
theorem Wst.store {w wr w1 : World} {bm : Nat} {l : List (Int × Nat)} {x : Int} {z : Nat} {A : Option Addr} {c : Nat} {m : List (Lit × Value)} (h1 : IsM Try.prog 3 wr bm m) (h2 : Fa (Wrd wr bm) (asg 0 l) m) (hk0 : Keeps (fun _ => False) w wr) (hw : w.heap.size ≤ bm) (hx : (Lit.int .i64 x).wf = true) (hnew : x ∉ l.map (·.1)) (hz : ∀ p ∈ l, p.2 ≤ z) (hz2 : z ≤ 20) (hf : posOf l < 2 ^ 20)
    (hl : Lies wr A (Bq.ib (tb (nextOf l z) z))) (hc : z ≤ c) (hA : ∀ b o, A = some ⟨b, o, none⟩ → b ≠ bm) (hm : IsM Try.prog 3 w1 bm (upd m (.int .i64 x) (.slice A z c))) (hk : Keeps (· = bm) wr w1) : Wst w w1 bm (l ++ [(x, z)]) := by
  have hkeys : (asg 0 l).map (fun t => Lit.int .i64 t.1) = m.map (·.1) := Fa.map (fun a b hab => hab.1.symm) h2
  have hn : Lit.int .i64 x ∉ m.map (·.1) := by
    rw [← hkeys]
    intro hm
    rw [List.mem_map] at hm
    obtain ⟨t, ht, e⟩ := hm
    injection e with _ e
    refine hnew ?_
    rw [← asg_keys 0 l, List.map_map]
    exact List.mem_map.2 ⟨t, ht, e⟩
  refine ⟨⟨m ++ [(.int .i64 x, .slice A z c)], ?_, ?_⟩, keeps_low hk0 hk (fun y hy => by omega), fits_more hz2 hz x hf⟩
  · have := hm
    rw [upd_new (kl := Lit.int .i64 x) trivial hn] at this
    exact this
  · rw [asg_app]
    have h3 : Fa (Wrd w1 bm) (asg 0 l) m := h2.imp fun a b hab => hab.keeps hk (fun _ h => h)
    have h4 : asg (0 + posOf l) [(x, z)] = [(x, z, nextOf l z)] := by simp [asg, nextOf]
    rw [h4]
    exact Fa.snoc ⟨rfl, A, c, rfl, hc, hl.keeps hk (fun b o e => hA b o e), hA⟩ h3
end Go.Proofs.Ytbicieflcgifdaa.Hw

/- What any taking answers: plain facts of LensAny. Names no function of the program. -/
/- A Lens between deeds, whatever is taken: Mil; the deeds as contracts that only tell bounds. The condition: strconv's table of tens reads as its text lays it. -/
import Derived.Test.YtgaofnmgdefdcaaGreatDoorJLnActLnArr
import Derived.Test.YtgaofnmgdefdcaaGreatDoorJQlArrLnEnd

namespace Go.Proofs.YtgaofnmgdefdcaaGreatDoor.Le
open Go.RowKit Go.Proofs.YtgaofnmgdefdcaaGreatDoor.Gen Go.Proofs.YtgaofnmgdefdcaaGreatDoor.Mp Go.Proofs.YtgaofnmgdefdcaaGreatDoor.Cm Go.Proofs.YtgaofnmgdefdcaaGreatDoor.Hr Go.Proofs.YtgaofnmgdefdcaaGreatDoor.Hn Go.Proofs.YtgaofnmgdefdcaaGreatDoor.Hk Go.Proofs.YtgaofnmgdefdcaaGreatDoor.Ln Go.Proofs.YtgaofnmgdefdcaaGreatDoor.Ds Go.Proofs.YtgaofnmgdefdcaaGreatDoor.Ky Go.Proofs.YtgaofnmgdefdcaaGreatDoor.Wr Go.Proofs.YtgaofnmgdefdcaaGreatDoor.Ir Go.Proofs.YtgaofnmgdefdcaaGreatDoor.Br Go.Proofs.YtgaofnmgdefdcaaGreatDoor.Qh Go.Proofs.YtgaofnmgdefdcaaGreatDoor.Qs Go.Proofs.YtgaofnmgdefdcaaGreatDoor.Qf Go.Proofs.YtgaofnmgdefdcaaGreatDoor.Qc Go.Proofs.YtgaofnmgdefdcaaGreatDoor.Qn

theorem num_any {d : D} {s s' : BS} {G G' : Rs} {fr up n e : Int} (h : NumR d s G fr up n e s' G') : (e ≠ 0 → n = 0) ∧ (e = 0 → fr ≤ n ∧ n ≤ up) := by
  obtain ⟨m, e1, _, hc⟩ := h
  rcases hc with ⟨h1, rfl, rfl⟩ | ⟨_, _, rfl, rfl⟩ | ⟨_, h1, h2, rfl, rfl⟩
  · exact ⟨fun _ => rfl, fun h => absurd h h1⟩
  · exact ⟨fun _ => rfl, fun h => absurd h (by decide)⟩
  · exact ⟨fun h => absurd rfl h, fun _ => ⟨h1, h2⟩⟩
/-- What is taken as a number: between its bounds, or nought beside an error; the first error stays. -/
theorem within_any {d : D} {s s' : BS} {G G' : Rs} {er fr up n e : Int} (h : WithinR d s G er fr up n e s' G') : (-2147483647 ≤ n ∧ n ≤ 2147483647) ∧ (e ≠ 0 → n = 0) ∧ (er ≠ 0 → e = er) ∧ (e = 0 → fr ≤ n ∧ n ≤ up) := by
  rcases h with ⟨h0, rfl, rfl, _, _⟩ | ⟨rfl, s1, hn, _⟩
  · exact ⟨by omega, fun _ => rfl, fun _ => rfl, fun h => absurd h h0⟩
  · obtain ⟨h1, h2⟩ := num_any hn
    refine ⟨?_, h1, fun h => absurd rfl h, fun h => ?_⟩
    · by_cases h0 : e = 0
      · have := h2 h0
        omega
      · rw [h1 h0]
        omega
    · have := h2 h
      omega
theorem many_none (r : RS) (m : Int) (h : (r.many m).2.e ≠ 0) : (r.many m).1 = [] := by
  revert h
  unfold RS.many
  split
  · rename_i h0
    split
    · intro h
      exact absurd h0 h
    · intro _
      rfl
  · intro _
    rfl
theorem upto_none (r : RS) (c : Int) (h : (r.upto c).2.e ≠ 0) : (r.upto c).1 = [] := by
  revert h
  unfold RS.upto
  split
  · rename_i h0
    split
    · intro h
      exact absurd h0 h
    · intro _
      rfl
  · intro _
    rfl
theorem get_any {f : RS → List Int × RS} {G G' : Rs} {i : Nat} {ys : List Int} {e : Int} (hf : ∀ r, (f r).2.e ≠ 0 → (f r).1 = []) (h : GetR f G i ys e G') : e ≠ 0 → ys = [] := by
  unfold GetR at h
  intro he
  split at h
  · exact h.1
  · obtain ⟨rfl, rfl, _⟩ := h
    exact hf _ he
theorem arr_any {a : E} {s s' : BS} {G G' : Rs} {er e : Int} {ys : List Int} (h : ArrR a s G er ys e s' G') : (e ≠ 0 → ys = []) ∧ (er ≠ 0 → e = er) := by
  rcases h with ⟨h0, rfl, rfl, _, _⟩ | ⟨rfl, s1, hb, _⟩
  · exact ⟨fun _ => rfl, fun _ => rfl⟩
  · refine ⟨?_, fun h => absurd rfl h⟩
    rcases hb with ⟨_, rfl, _⟩ | ⟨_, _, m, e1, G1, _, ⟨_, rfl, _⟩ | ⟨_, hg⟩⟩ | ⟨_, _, _, hg⟩
    · exact fun _ => rfl
    · exact fun _ => rfl
    · exact get_any (fun r => many_none r m) hg
    · exact get_any (fun r => upto_none r a.S) hg
/-- A way of one of eight blocks. -/
def eight (s : Sm) : Sm := { s with B := s.B % 8 }
theorem eight_ok {s : Sm} (h : s.ok) : (eight s).ok := ⟨h.K, h.bi, by have := h.B; show 0 ≤ s.B % 8 ∧ s.B % 8 < 65536; omega, h.le, h.S⟩
/-- Behind an error the end is that error; behind the error 16 nothing else is told. -/
theorem end_err {s : BS} {G : Rs} {e E : Int} (h : EndR s G e E) (h0 : e ≠ 0) : E = e := by
  rcases h with ⟨_, h⟩ | ⟨h, _⟩ | ⟨h, _⟩
  · exact h
  · exact absurd h h0
  · exact absurd h h0
/-- A row of bytes that came in. -/
structure By (w : World) (A : Option Addr) (n c : Nat) (l : List Int) : Prop where
  len : l.length = n
  lies : Lies w A l
  byte : ∀ x ∈ l, 0 ≤ x ∧ x < 256
theorem By.keeps {w w1 : World} {A : Option Addr} {n c : Nat} {l : List Int} (h : By w A n c l) (k : Keeps (w.heap.size ≤ ·) w w1) : By w1 A n c l := by
  refine ⟨h.len, ?_, h.byte⟩
  rcases h.lies with h1 | ⟨b, o, h1, hb, _⟩
  · exact .inl h1
  · exact h.lies.keeps k fun b' o' e hs => by
      rw [h1] at e
      injection e with e
      injection e with e
      omega
theorem By.more {w w1 : World} {A : Option Addr} {n c : Nat} {l : List Int} (h : By w A n c l) (k : Keeps (fun _ => False) w w1) : By w1 A n c l := ⟨h.len, h.lies.keeps k fun _ _ _ => id, h.byte⟩
/-- A map of rows of bytes, numbers from 1 to 8. -/
def MapB (w : World) (b : Nat) (V : Nat → Option (List Int)) : Prop :=
  ∃ (fa : Nat → Option Addr) (fc : Nat → Nat), IsF Tryz.prog 3 60001 ikl w b (fun i => (V i).map fun l => .slice (fa i) l.length (fc i)) ∧ (∀ i l, V i = some l → Lies w (fa i) l ∧ l.length ≤ 100 ∧ ∀ x ∈ l, 0 ≤ x ∧ x < 256) ∧ ∀ i, 60001 ≤ i → V i = none
theorem MapB.new (w : World) : MapB (w.alloc (.map #[] 0)) w.heap.size (fun _ => none) :=
  ⟨fun _ => none, fun _ => 0, IsF.new Tryz.prog 3 60001 ikl w, fun i l h => (by cases h), fun _ _ => rfl⟩
theorem MapB.keeps {w w1 : World} {b : Nat} {V : Nat → Option (List Int)} (h : MapB w b V) (k : Keeps (fun _ => False) w w1) : MapB w1 b V := by
  obtain ⟨fa, fc, h1, h2, h3⟩ := h
  exact ⟨fa, fc, h1.keeps k id, fun i l hl => ⟨(h2 i l hl).1.keeps k fun _ _ _ => id, (h2 i l hl).2⟩, h3⟩
/-- A row is put into it: it lies apart from the map's own block. -/
theorem MapB.put {w : World} {b k n c : Nat} {A : Option Addr} {l : List Int} {V : Nat → Option (List Int)} (h : MapB w b V) (hb : By w A n c l) (hn : n ≤ 100) (hk : k < 60001) :
    ∃ w', (Instr.mapUpdate 28 (.map (some b)) (.int .i64 (k : Int)) (.slice A n c)).run Tryz.prog w = .ok () w' ∧ (∃ V', MapB w' b V') ∧ Keeps (· = b) w w' := by
  obtain ⟨fa, fc, h1, h2, h3⟩ := h
  obtain ⟨w', hrun, hu, hk'⟩ := Qi.IsF.update_run int_ks h1 Tryz.underlying28 (by omega) hk (.slice A n c)
  have far : ∀ {A : Option Addr} {l : List Int}, Lies w A l → Lies w' A l := fun {A l} hl => by
    rcases hl with h0 | ⟨b', o, e, hb', hi⟩
    · exact .inl h0
    · by_cases h0 : l = []
      · exact .inl h0
      · refine .inr ⟨b', o, e, Nat.lt_of_lt_of_le hb' hk'.size, fun i hi' => ?_⟩
        have hc := hi i hi'
        refine (hk'.cell (p := ⟨b', o + i, none⟩) hb' fun hx => ?_).trans hc
        have hx : b' = b := hx
        subst hx
        obtain ⟨m, hm, _⟩ := h1
        obtain ⟨D, ⟨es, clock, hh, _⟩, _⟩ := hm
        simp [World.cell?, hh] at hc
  refine ⟨w', hrun, ⟨fun i => if i = k then some l else V i, fun i => if i = k then A else fa i, fun i => if i = k then c else fc i, hu.congr fun i _ => ?_, fun i x hx => ?_, fun i hi => ?_⟩, hk'⟩
  · unfold putF
    simp only
    by_cases hi : i = k
    · rw [if_pos hi, if_pos hi, if_pos hi, if_pos hi, ← hb.len]
      rfl
    · rw [if_neg hi, if_neg hi, if_neg hi, if_neg hi]
  · by_cases hi : i = k
    · simp only [if_pos hi] at hx ⊢
      injection hx with hx
      subst hx
      exact ⟨far hb.lies, by have := hb.len; omega, hb.byte⟩
    · simp only [if_neg hi] at hx ⊢
      exact ⟨far (h2 i x hx).1, (h2 i x hx).2⟩
  · show (if i = k then some l else V i) = none
    rw [if_neg (by omega)]
    exact h3 i hi
end Go.Proofs.YtgaofnmgdefdcaaGreatDoor.Le

namespace Go.Proofs.YtgaofnmgdefdcaaGreatDoor.Le
open Go.RowKit Go.Proofs.YtgaofnmgdefdcaaGreatDoor.Gen Go.Proofs.YtgaofnmgdefdcaaGreatDoor.Mp Go.Proofs.YtgaofnmgdefdcaaGreatDoor.Cm Go.Proofs.YtgaofnmgdefdcaaGreatDoor.Hr Go.Proofs.YtgaofnmgdefdcaaGreatDoor.Hn Go.Proofs.YtgaofnmgdefdcaaGreatDoor.Hk Go.Proofs.YtgaofnmgdefdcaaGreatDoor.Ln Go.Proofs.YtgaofnmgdefdcaaGreatDoor.Ds Go.Proofs.YtgaofnmgdefdcaaGreatDoor.Ky Go.Proofs.YtgaofnmgdefdcaaGreatDoor.Wr Go.Proofs.YtgaofnmgdefdcaaGreatDoor.Ir Go.Proofs.YtgaofnmgdefdcaaGreatDoor.Br Go.Proofs.YtgaofnmgdefdcaaGreatDoor.Qh Go.Proofs.YtgaofnmgdefdcaaGreatDoor.Qs Go.Proofs.YtgaofnmgdefdcaaGreatDoor.Qf Go.Proofs.YtgaofnmgdefdcaaGreatDoor.Qc Go.Proofs.YtgaofnmgdefdcaaGreatDoor.Qn

structure Mil (w0 : World) (B g a : Nat) (e : Int) (w : World) : Prop where
  ex : ∃ F s G N, Lz B g F s G N e w ∧ N ≤ a
  keeps : Keeps (B ≤ ·) w0 w
section
variable {w0 w w1 wb : World} {B g a n c : Nat} {A : Option Addr} {e er : Int}
theorem Mil.more (h : Mil w0 B g a e w) (k : Keeps (fun _ => False) w w1) : Mil w0 B g a e w1 := by
  obtain ⟨⟨F, s, G, N, h1, h2⟩, hk⟩ := h
  exact ⟨⟨F, s, G, N, h1.more k, h2⟩, hk.trans (k.mono fun _ _ hf => hf.elim)⟩
theorem Mil.tab (h : Mil w0 B g a e w) (ht : Tab B w0) (hB : B ≤ w0.heap.size) : Tab B w := ht.keeps hB h.keeps fun _ => id
theorem Mil.err (h : Mil w0 B g a e w) : Calls Tryz.prog 26 #[.pointer (some ⟨g, 0, none⟩)] w fun r w' => r = .returned (.int .i64 e) ∧ w' = w := by
  obtain ⟨⟨F, s, G, N, h1, h2⟩, hk⟩ := h
  exact err_ w h1
theorem Mil.up {a' : Nat} (h : Mil w0 B g a e w) (ha : a ≤ a') : Mil w0 B g a' e w := by
  obtain ⟨⟨F, s, G, N, h1, h2⟩, hk⟩ := h
  exact ⟨⟨F, s, G, N, h1, by omega⟩, hk⟩
theorem Mil.step {F F' : Nat → Prop} {s s' : BS} {G G' : Rs} {N : Nat} (h : Lz B g F s G N e wb) (h' : Lz B g F' s' G' N er w1) (hN : N ≤ a) (hk : Keeps (B ≤ ·) w0 wb) (k : Keeps (fun _ => False) wb w) (hs : Step F F' w w1) :
    Mil w0 B g a er w1 ∧ ∀ g, wb.heap.size ≤ g → g < w.heap.size → ∀ i, w1.cell? ⟨g, i, none⟩ = w.cell? ⟨g, i, none⟩ :=
  ⟨⟨⟨F', s', G', N, h', hN⟩, (hk.trans (k.mono fun _ _ hf => hf.elim)).trans (hs.keeps.mono fun x _ hf => (h.lt x hf).1)⟩, fun g hg1 hg2 i => hs.keeps.cell (p := ⟨g, i, none⟩) hg2 fun hf => by have := (h.lt g hf).2; omega⟩
theorem Mil.within (h : Mil w0 B g a er wb) (k : Keeps (fun _ => False) wb w) (ht : Tab B w0) (hB : B ≤ w0.heap.size) (ha : a ≤ 900) {d : D} (hL : Ents w A n d.L) (hf : ∀ y ∈ d.L, Fits y) (hE : 0 < n → ∀ b o, A = some ⟨b, o, none⟩ → wb.heap.size ≤ b) (fr up : Int) :
    Calls Tryz.prog 25 #[.pointer (some ⟨g, 0, none⟩), .agg (dv A n c d), .int .i64 fr, .int .i64 up] w fun r w' => ∃ n' e', r = .returned (.int .i64 n') ∧ ((-2147483647 ≤ n' ∧ n' ≤ 2147483647) ∧ (e' ≠ 0 → n' = 0) ∧ (er ≠ 0 → e' = er) ∧ (e' = 0 → fr ≤ n' ∧ n' ≤ up)) ∧ Mil w0 B g (a + 1) e' w' ∧ ∀ g, wb.heap.size ≤ g → g < w.heap.size → ∀ i, w'.cell? ⟨g, i, none⟩ = w.cell? ⟨g, i, none⟩ := by
  have htw := (h.more k).tab ht hB
  obtain ⟨⟨F, s, G, N, h1, h2⟩, hk⟩ := h
  refine (within_ A n c d fr up w htw (h1.more k) (by omega) hL hf (fun h0 b x e hF => by have := hE h0 b x e; have := (h1.lt b hF).2; omega)).mono ?_
  rintro r w' ⟨F', n', e', s', G', rfl, h3, hs, hr⟩
  obtain ⟨m1, m2⟩ := Mil.step (h1.le (Nat.le_succ N)) h3 (show N + 1 ≤ a + 1 by omega) hk k hs
  exact ⟨n', e', rfl, within_any hr, m1, m2⟩
theorem Mil.int (h : Mil w0 B g a er wb) (k : Keeps (fun _ => False) wb w) (ht : Tab B w0) (hB : B ≤ w0.heap.size) (ha : a ≤ 900) {d : D} (hL : Ents w A n d.L) (hf : ∀ y ∈ d.L, Fits y) (hE : 0 < n → ∀ b o, A = some ⟨b, o, none⟩ → wb.heap.size ≤ b) :
    Calls Tryz.prog 28 #[.pointer (some ⟨g, 0, none⟩), .agg (dv A n c d)] w fun r w' => ∃ n' e', r = .returned (.int .i64 n') ∧ ((-2147483647 ≤ n' ∧ n' ≤ 2147483647) ∧ (e' ≠ 0 → n' = 0) ∧ (er ≠ 0 → e' = er)) ∧ Mil w0 B g (a + 1) e' w' ∧ ∀ g, wb.heap.size ≤ g → g < w.heap.size → ∀ i, w'.cell? ⟨g, i, none⟩ = w.cell? ⟨g, i, none⟩ := by
  have htw := (h.more k).tab ht hB
  obtain ⟨⟨F, s, G, N, h1, h2⟩, hk⟩ := h
  refine (int_ A n c d w htw (h1.more k) (by omega) hL hf (fun h0 b x e hF => by have := hE h0 b x e; have := (h1.lt b hF).2; omega)).mono ?_
  rintro r w' ⟨F', n', e', s', G', rfl, h3, hs, hr⟩
  obtain ⟨m1, m2⟩ := Mil.step (h1.le (Nat.le_succ N)) h3 (show N + 1 ≤ a + 1 by omega) hk k hs
  obtain ⟨r1, r2, r3, _⟩ := within_any hr
  exact ⟨n', e', rfl, ⟨r1, r2, r3⟩, m1, m2⟩
theorem Mil.arr (h : Mil w0 B g a er wb) (k : Keeps (fun _ => False) wb w) (ht : Tab B w0) (hB : B ≤ w0.heap.size) (ha : a ≤ 900) {d : E} (hL : Ents w A n d.d.L) (hf : ∀ y ∈ d.d.L, Fits y) (hE : 0 < n → ∀ b o, A = some ⟨b, o, none⟩ → wb.heap.size ≤ b) (hS : 0 ≤ d.S ∧ d.S < 256) :
    Calls Tryz.prog 24 #[.pointer (some ⟨g, 0, none⟩), .agg (av A n c d)] w fun r w' => ∃ A2 n2 c2 e', r = .returned (.slice A2 n2 c2) ∧ ((e' ≠ 0 → n2 = 0) ∧ (er ≠ 0 → e' = er)) ∧ Mil w0 B g (a + 1) e' w' ∧ ∀ g, wb.heap.size ≤ g → g < w.heap.size → ∀ i, w'.cell? ⟨g, i, none⟩ = w.cell? ⟨g, i, none⟩ := by
  have htw := (h.more k).tab ht hB
  obtain ⟨⟨F, s, G, N, h1, h2⟩, hk⟩ := h
  refine (array_ A n c d w htw (h1.more k) (by omega) hL hf (fun h0 b x e hF => by have := hE h0 b x e; have := (h1.lt b hF).2; omega) hS).mono ?_
  rintro r w' ⟨F', A2, n2, c2, ys, e', s', G', rfl, hn, hl, hb, h3, hs, hr⟩
  obtain ⟨m1, m2⟩ := Mil.step (h1.le (Nat.le_succ N)) h3 (show N + 1 ≤ a + 1 by omega) hk k hs
  obtain ⟨r1, r2⟩ := arr_any hr
  exact ⟨A2, n2, c2, e', rfl, ⟨fun h => by rw [← hn, r1 h]; rfl, r2⟩, m1, m2⟩
end
end Go.Proofs.YtgaofnmgdefdcaaGreatDoor.Le

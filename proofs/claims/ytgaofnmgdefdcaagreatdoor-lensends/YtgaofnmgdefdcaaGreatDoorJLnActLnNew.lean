/- lens: number, Err, Wrong, Within, Int: any way, any numbers. The condition: strconv's table of tens reads as its text lays it. -/
/- lens: New: of a row of bits, and of blocks. -/
import Derived.Test.YtgaofnmgdefdcaaGreatDoorJQlIntLnNext
import Derived.Test.YtgaofnmgdefdcaaGreatDoorDsSmE

namespace Go.Proofs.YtgaofnmgdefdcaaGreatDoor.Le
open Go.RowKit Go.Proofs.YtgaofnmgdefdcaaGreatDoor.Gen Go.Proofs.YtgaofnmgdefdcaaGreatDoor.Mp Go.Proofs.YtgaofnmgdefdcaaGreatDoor.Cm Go.Proofs.YtgaofnmgdefdcaaGreatDoor.Hr Go.Proofs.YtgaofnmgdefdcaaGreatDoor.Hn Go.Proofs.YtgaofnmgdefdcaaGreatDoor.Hk Go.Proofs.YtgaofnmgdefdcaaGreatDoor.Ln Go.Proofs.YtgaofnmgdefdcaaGreatDoor.Ds Go.Proofs.YtgaofnmgdefdcaaGreatDoor.Ky Go.Proofs.YtgaofnmgdefdcaaGreatDoor.Wr Go.Proofs.YtgaofnmgdefdcaaGreatDoor.Ir Go.Proofs.YtgaofnmgdefdcaaGreatDoor.Br Go.Proofs.YtgaofnmgdefdcaaGreatDoor.Qh Go.Proofs.YtgaofnmgdefdcaaGreatDoor.Qs Go.Proofs.YtgaofnmgdefdcaaGreatDoor.Qf Go.Proofs.YtgaofnmgdefdcaaGreatDoor.Qc

/-- The next number, from some up some other one. -/
def NumR (d : D) (s : BS) (G : Rs) (fr up n e : Int) (s' : BS) (G' : Rs) : Prop :=
  ∃ m e1, NextR d s G m e1 s' G' ∧ ((e1 ≠ 0 ∧ n = 0 ∧ e = e1) ∨ (e1 = 0 ∧ (m < fr ∨ up < m) ∧ n = 0 ∧ e = 2) ∨ (e1 = 0 ∧ fr ≤ m ∧ m ≤ up ∧ n = m ∧ e = 0))
/-- A Lens as a whole: its labels, its map and the like kept up itself. -/
def Lz (B g : Nat) (F : Nat → Prop) (s : BS) (G : Rs) (N : Nat) (e : Int) (w : World) : Prop := ∃ o br bb mb mc P, Ln o B g s G N e br bb mb mc P w ∧ ∀ k, F k ↔ Ft o k
section
variable {B g N N' : Nat} {F F' : Nat → Prop} {s : BS} {G : Rs} {e : Int} {w w1 : World} {S : Nat → Prop}
theorem Lz.keeps (h : Lz B g F s G N e w) (k : Keeps S w w1) (hn : ∀ k, F k → ¬ S k) : Lz B g F s G N e w1 := by
  obtain ⟨o, br, bb, mb, mc, P, h, hF⟩ := h
  exact ⟨o, br, bb, mb, mc, P, h.keeps k (fun b hb => hn b ((hF b).2 hb)), hF⟩
theorem Lz.more (h : Lz B g F s G N e w) (k : Keeps (fun _ => False) w w1) : Lz B g F s G N e w1 := h.keeps k fun _ _ => id
theorem Lz.lt (h : Lz B g F s G N e w) : ∀ k, F k → B ≤ k ∧ k < w.heap.size := by
  obtain ⟨o, br, bb, mb, mc, P, h, hF⟩ := h
  intro k hk
  obtain ⟨l, hl⟩ := Option.ne_none_iff_exists'.1 ((hF k).1 hk)
  exact h.lt k l hl
theorem Lz.own (h : Lz B g F s G N e w) : F g := by
  obtain ⟨o, br, bb, mb, mc, P, h, hF⟩ := h
  exact (hF g).2 (by rw [Ft, h.og]; simp)
theorem Lz.le (h : Lz B g F s G N e w) (hN : N ≤ N') : Lz B g F s G N' e w := by
  obtain ⟨o, br, bb, mb, mc, P, h, hF⟩ := h
  exact ⟨o, br, bb, mb, mc, P, h.le hN, hF⟩
theorem Lz.errCell (h : Lz B g F s G N e w) : w.cell? ⟨g, 3, none⟩ = some (.int .i64 e) := by
  obtain ⟨o, br, bb, mb, mc, P, h, hF⟩ := h
  exact h.blk.cell 3
end

set_option maxHeartbeats 8000000 in
set_option maxRecDepth 100000 in
theorem next_z {B g N : Nat} {F : Nat → Prop} {s : BS} {G : Rs} {e : Int} (A : Option Addr) (n c : Nat) (d : D) (w : World) (ht : Tab B w) (h : Lz B g F s G N e w) (hN : N ≤ 1000)
    (hL : Ents w A n d.L) (hf : ∀ x ∈ d.L, Fits x) (hE : 0 < n → ∀ b x, A = some ⟨b, x, none⟩ → ¬ F b) :
    Calls Tryz.prog 76 #[.pointer (some ⟨g, 0, none⟩), .agg (dv A n c d)] w fun r w' => ∃ F' n' e' s' G', r = .returned (.tuple #[.int .i64 n', .int .i64 e']) ∧ Lz B g F' s' G' (N + 1) e w' ∧ Step F F' w w' ∧ NextR d s G n' e' s' G' := by
  obtain ⟨o, br, bb, mb, mc, P, h, hF⟩ := h
  refine (next_ A n c d w ht h hN hL hf (fun h0 b x e => by have := hE h0 b x e; rw [hF] at this; exact Classical.not_not.1 this)).mono ?_
  rintro r w' ⟨o', mc', n', e', s', G', rfl, h1, h2, h3⟩
  exact ⟨Ft o', n', e', s', G', rfl, ⟨o', br, bb, mb, mc', P, h1, fun _ => Iff.rfl⟩, ⟨h2.keeps.mono fun k _ hk => (hF k).2 hk, fun k hk => (h2.sub k hk).imp (hF k).2 id⟩, h3⟩

set_option maxHeartbeats 8000000 in
set_option maxRecDepth 100000 in
theorem number_ {B g N : Nat} {F : Nat → Prop} {s : BS} {G : Rs} {e : Int} (A : Option Addr) (n c : Nat) (d : D) (fr up : Int) (w : World) (ht : Tab B w) (h : Lz B g F s G N e w) (hN : N ≤ 1000)
    (hL : Ents w A n d.L) (hf : ∀ x ∈ d.L, Fits x) (hE : 0 < n → ∀ b x, A = some ⟨b, x, none⟩ → ¬ F b) :
    Calls Tryz.prog 50 #[.pointer (some ⟨g, 0, none⟩), .agg (dv A n c d), .int .i64 fr, .int .i64 up] w fun r w' => ∃ F' n' e' s' G', r = .returned (.tuple #[.int .i64 n', .int .i64 e']) ∧ Lz B g F' s' G' (N + 1) e w' ∧ Step F F' w w' ∧ NumR d s G fr up n' e' s' G' := by
  have hk1 := (Keeps.refl (fun _ => False) w).alloc (.cells (dv A n c d) 43)
  have HNX := Lib.hid (fun W (k : Keeps (fun _ => False) w W) => next_z A n c d W (ht.more (Nat.le_of_lt (Nat.lt_of_le_of_lt (h.lt g h.own).1 (h.lt g h.own).2)) k) (h.more k) hN (hL.more k) hf hE)
  clear h hL hf hE ht
  obtain ⟨K, Bl, L, le, bi⟩ := d
  unfold dv at HNX hk1 ⊢
  simp only at HNX hk1 ⊢
  have HK1 := Lib.hid hk1
  clear hk1
  go_enter Tryz.func50, Tryz.ntmps50
  go_wp2_with fail
  refine (HNX.out _ HK1.out).mono ?_
  rintro r w1 ⟨F1, m, e1, s1, G1, rfl, h1, hs1, hr1⟩
  have H1 := Lib.hid h1
  have HS1 := Lib.hid (Step.pre HK1.out hs1)
  have HR1 := Lib.hid hr1
  clear h1 hs1 hr1 HNX HK1
  by_cases h0 : e1 = 0
  · subst h0
    by_cases hm1 : m < fr
    · go_wp2
      go_ret2
      exact ⟨F1, 0, 2, s1, G1, rfl, H1.out, HS1.out, m, 0, HR1.out, .inr (.inl ⟨rfl, .inl hm1, rfl, rfl⟩)⟩
    by_cases hm2 : up < m
    · go_wp2
      go_ret2
      exact ⟨F1, 0, 2, s1, G1, rfl, H1.out, HS1.out, m, 0, HR1.out, .inr (.inl ⟨rfl, .inr hm2, rfl, rfl⟩)⟩
    go_wp2
    go_ret2
    exact ⟨F1, m, 0, s1, G1, rfl, H1.out, HS1.out, m, 0, HR1.out, .inr (.inr ⟨rfl, by omega, by omega, rfl, rfl⟩)⟩
  · have hne : (e1 != 0) = true := by simpa using h0
    go_wp2
    go_ret2
    exact ⟨F1, 0, e1, s1, G1, rfl, H1.out, HS1.out, m, e1, HR1.out, .inl ⟨h0, rfl, rfl⟩⟩

theorem err_ {B g N : Nat} {F : Nat → Prop} {s : BS} {G : Rs} {e : Int} (w : World) (h : Lz B g F s G N e w) :
    Calls Tryz.prog 26 #[.pointer (some ⟨g, 0, none⟩)] w fun r w' => r = .returned (.int .i64 e) ∧ w' = w := by
  have h3 := h.errCell
  clear h
  go_enter Tryz.func26, Tryz.ntmps26
  go_wp2
  go_ret
  exact ⟨rfl, rfl⟩
theorem err_nil (w : World) : Calls Tryz.prog 26 #[.pointer none] w fun r w' => r = .returned (.int .i64 1) ∧ w' = w := by
  go_enter Tryz.func26, Tryz.ntmps26
  go_wp2
  go_ret
  exact ⟨rfl, rfl⟩
/-- The error behind an error that is told, and the row. -/
def wrE (er e : Int) : Int := if er ≠ 0 then er else e
def wrS (er e : Int) (s : BS) : BS := if er ≠ 0 ∨ e = 0 then s else { s with ended := true }

set_option maxHeartbeats 8000000 in
set_option maxRecDepth 100000 in
theorem wrong_ {B g N : Nat} {F : Nat → Prop} {s : BS} {G : Rs} {er : Int} (e : Int) (w : World) (h : Lz B g F s G N er w) :
    Calls Tryz.prog 29 #[.pointer (some ⟨g, 0, none⟩), .int .i64 e] w fun r w' => r = .returned (.tuple #[]) ∧ Lz B g F (wrS er e s) G N (wrE er e) w' ∧ Step F F w w' := by
  have HE := Lib.hid (err_ w h)
  by_cases h0 : er = 0
  · subst h0
    by_cases h1 : e = 0
    · subst h1
      have HH := Lib.hid h
      clear h
      go_enter Tryz.func29, Tryz.ntmps29
      go_wp2_with fail
      refine HE.out.mono ?_
      rintro r w1 ⟨rfl, rfl⟩
      go_wp2
      (first | go_end0 | go_returns)
      exact ⟨rfl, HH.out, Step.refl _ _⟩
    · obtain ⟨o, br, bb, mb, mc, P, h, hF⟩ := h
      have he1 : (e == 0) = false := by simpa using h1
      have hc0 := h.blk.cell 0
      have hc3 := h.blk.cell 3
      have hf3 := h.blk.frozen 3
      simp only [List.getElem?_toArray, List.getElem?_cons_zero, List.getElem?_cons_succ] at hc0 hc3
      have hb1 : Blk (w.setCell ⟨g, 3, none⟩ (.int .i64 e)) g 107 #[.pointer (some ⟨br, 0, none⟩), .map (some mb), mc, .int .i64 e] := by simpa using h.blk.setCell 3 (.int .i64 e)
      have hk1 : Keeps (· = g) w (w.setCell ⟨g, 3, none⟩ (.int .i64 e)) := (Keeps.refl _ _).setOwn 3 _
      have hl1 := h.own' hk1 hb1
      have HFL := Lib.hid (Br.fail br s bb _ hl1.row)
      have HL1 := Lib.hid hl1
      have hz0 := hb1.cell 0
      simp only [List.getElem?_toArray, List.getElem?_cons_zero, List.getElem?_cons_succ] at hz0
      have HK1 := Lib.hid hk1
      have HF := Lib.hid hF
      have HG : Hid (F g) := by show F g; rw [hF, Ft, h.og]; simp
      have HBR : Hid (F br) := by show F br; rw [hF, Ft, h.orow br (br_le h.row) (Nat.le_refl _)]; simp
      clear h hl1 hk1 hb1 hF
      go_enter Tryz.func29, Tryz.ntmps29
      go_wp2_with fail
      refine HE.out.mono ?_
      rintro r w1 ⟨rfl, rfl⟩
      go_wp2_with fail
      refine HFL.out.mono ?_
      rintro r w2 ⟨rfl, hr2, hk2⟩
      have HL2 := Lib.hid (HL1.out.row' hr2 hk2)
      have HK2 := Lib.hid hk2
      clear hr2 hk2 HFL
      go_wp2
      (first | go_end0 | go_returns)
      have e1 : wrS 0 e s = { s with ended := true } := by unfold wrS; rw [if_neg (by simp [h1])]
      have e2 : wrE 0 e = e := by simp [wrE]
      rw [e1, e2]
      exact ⟨rfl, ⟨o, br, bb, mb, mc, P, HL2.out, HF.out⟩, ⟨(HK1.out.mono fun k _ e => by rw [e]; exact HG.out).trans (HK2.out.mono fun k _ e => by rw [e]; exact HBR.out), fun _ => .inl⟩⟩
  · have hne : (er != 0) = true := by simpa using h0
    have HH := Lib.hid h
    clear h
    go_enter Tryz.func29, Tryz.ntmps29
    go_wp2_with fail
    refine HE.out.mono ?_
    rintro r w1 ⟨rfl, rfl⟩
    go_wp2
    (first | go_end0 | go_returns)
    have e1 : wrS er e s = s := by unfold wrS; rw [if_pos (.inl h0)]
    have e2 : wrE er e = er := by simp [wrE, h0]
    rw [e1, e2]
    exact ⟨rfl, HH.out, Step.refl _ _⟩
theorem wrong_nil (e : Int) (w : World) : Calls Tryz.prog 29 #[.pointer none, .int .i64 e] w fun r w' => r = .returned (.tuple #[]) ∧ w' = w := by
  have HE := Lib.hid (err_nil w)
  go_enter Tryz.func29, Tryz.ntmps29
  go_wp2_with fail
  refine HE.out.mono ?_
  rintro r w1 ⟨rfl, rfl⟩
  go_wp2
  (first | go_end0 | go_returns)
  exact ⟨rfl, rfl⟩
/-- The next number within some: what it is, the Lens's error behind it, and the rest. -/
def WithinR (d : D) (s : BS) (G : Rs) (er fr up n e : Int) (s' : BS) (G' : Rs) : Prop :=
  (er ≠ 0 ∧ n = 0 ∧ e = er ∧ s' = s ∧ G' = G) ∨ (er = 0 ∧ ∃ s1, NumR d s G (max fr (-2147483647)) (min up 2147483647) n e s1 G' ∧ s' = wrS 0 e s1)

set_option maxHeartbeats 8000000 in
set_option maxRecDepth 100000 in
theorem within_ {B g N : Nat} {F : Nat → Prop} {s : BS} {G : Rs} {er : Int} (A : Option Addr) (n c : Nat) (d : D) (fr up : Int) (w : World) (ht : Tab B w) (h : Lz B g F s G N er w) (hN : N ≤ 1000)
    (hL : Ents w A n d.L) (hf : ∀ x ∈ d.L, Fits x) (hE : 0 < n → ∀ b x, A = some ⟨b, x, none⟩ → ¬ F b) :
    Calls Tryz.prog 25 #[.pointer (some ⟨g, 0, none⟩), .agg (dv A n c d), .int .i64 fr, .int .i64 up] w fun r w' => ∃ F' n' e' s' G', r = .returned (.int .i64 n') ∧ Lz B g F' s' G' (N + 1) e' w' ∧ Step F F' w w' ∧ WithinR d s G er fr up n' e' s' G' := by
  obtain ⟨p, hp⟩ : ∃ p, max fr (-2147483647) = p := ⟨_, rfl⟩
  obtain ⟨q, hq⟩ : ∃ q, min up 2147483647 = q := ⟨_, rfl⟩
  have hk1 := (Keeps.refl (fun _ => False) w).alloc (.cells (dv A n c d) 43)
  have HE := Lib.hid (err_ _ (h.more hk1))
  have HH := Lib.hid (h.more hk1)
  have hBs : B ≤ w.heap.size := Nat.le_of_lt (Nat.lt_of_le_of_lt (h.lt g h.own).1 (h.lt g h.own).2)
  have HNU := Lib.hid (fun W (k : Keeps (fun _ => False) w W) => number_ A n c d p q W (ht.more hBs k) (h.more k) hN (hL.more k) hf hE)
  have HP := Lib.hid hp
  have HQ := Lib.hid hq
  have HK1 := Lib.hid hk1
  have HD : Hid (∀ n e s1 G', NumR d s G p q n e s1 G' → er = 0 → WithinR d s G er fr up n e (wrS 0 e s1) G') := fun n e s1 G' h h0 => .inr ⟨h0, s1, by rw [hp, hq]; exact h, rfl⟩
  have HD0 : Hid (er ≠ 0 → WithinR d s G er fr up 0 er s G) := fun h0 => .inl ⟨h0, rfl, rfl, rfl, rfl⟩
  clear h hL hf hE ht hp hq hBs hk1
  generalize hR : WithinR d = R at HD HD0 ⊢
  generalize hR2 : NumR d = R2 at HD HNU
  clear hR hR2
  obtain ⟨K, Bl, L, le, bi⟩ := d
  unfold dv at HE HH HNU HK1 ⊢
  simp only at HE HH HNU HK1 ⊢
  by_cases h0 : er = 0
  · subst h0
    have rmx := fun (ts : Array TypeId) (t : TypeId) w => run_mx (P := Tryz.prog) ts t fr (-2147483647) p HP.out w
    have rmn := fun (ts : Array TypeId) (t : TypeId) w => run_mini (P := Tryz.prog) ts t up 2147483647 q HQ.out w
    go_enter Tryz.func25, Tryz.ntmps25
    go_wp2_with fail
    refine HE.out.mono ?_
    rintro r w1 ⟨rfl, rfl⟩
    go_wp2_with fail
    refine (HNU.out _ HK1.out).mono ?_
    rintro r w2 ⟨F2, m, e2, s2, G2, rfl, h2, hs2, hr2⟩
    have HW2 := Lib.hid (wrong_ e2 w2 h2)
    have HS2 := Lib.hid (Step.pre HK1.out hs2)
    have HR2 := Lib.hid hr2
    clear h2 hs2 hr2 HNU
    go_wp2_with fail
    refine HW2.out.mono ?_
    rintro r w3 ⟨rfl, h3, hs3⟩
    have H3 := Lib.hid h3
    have HS3 := Lib.hid (HS2.out.trans hs3)
    clear h3 hs3
    go_wp2
    go_ret
    have e1 : wrE 0 e2 = e2 := by simp [wrE]
    have h3 := H3.out
    rw [e1] at h3
    exact ⟨F2, m, e2, _, G2, rfl, h3, HS3.out, HD.out m e2 s2 G2 HR2.out trivial⟩
  · have hne : (er != 0) = true := by simpa using h0
    go_enter Tryz.func25, Tryz.ntmps25
    go_wp2_with fail
    refine HE.out.mono ?_
    rintro r w1 ⟨rfl, rfl⟩
    go_wp2
    go_ret
    exact ⟨F, 0, er, s, G, rfl, HH.out.le (by omega), Step.quiet HK1.out, HD0.out h0⟩

set_option maxHeartbeats 8000000 in
set_option maxRecDepth 100000 in
theorem int_ {B g N : Nat} {F : Nat → Prop} {s : BS} {G : Rs} {er : Int} (A : Option Addr) (n c : Nat) (d : D) (w : World) (ht : Tab B w) (h : Lz B g F s G N er w) (hN : N ≤ 1000)
    (hL : Ents w A n d.L) (hf : ∀ x ∈ d.L, Fits x) (hE : 0 < n → ∀ b x, A = some ⟨b, x, none⟩ → ¬ F b) :
    Calls Tryz.prog 28 #[.pointer (some ⟨g, 0, none⟩), .agg (dv A n c d)] w fun r w' => ∃ F' n' e' s' G', r = .returned (.int .i64 n') ∧ Lz B g F' s' G' (N + 1) e' w' ∧ Step F F' w w' ∧ WithinR d s G er (-2147483647) 2147483647 n' e' s' G' := by
  have hk1 := (Keeps.refl (fun _ => False) w).alloc (.cells (dv A n c d) 43)
  have hBs : B ≤ w.heap.size := Nat.le_of_lt (Nat.lt_of_le_of_lt (h.lt g h.own).1 (h.lt g h.own).2)
  have HWI := Lib.hid (fun W (k : Keeps (fun _ => False) w W) => within_ A n c d (-2147483647) 2147483647 W (ht.more hBs k) (h.more k) hN (hL.more k) hf hE)
  have HK1 := Lib.hid hk1
  clear h hL hf hE ht hBs hk1
  generalize WithinR d = R at HWI ⊢
  obtain ⟨K, Bl, L, le, bi⟩ := d
  unfold dv at HWI HK1 ⊢
  simp only at HWI HK1 ⊢
  go_enter Tryz.func28, Tryz.ntmps28
  go_wp2_with fail
  refine (HWI.out _ HK1.out).mono ?_
  rintro r w2 ⟨F2, m, e2, s2, G2, rfl, h2, hs2, hr2⟩
  have H2 := Lib.hid h2
  have HS2 := Lib.hid (Step.pre HK1.out hs2)
  have HR2 := Lib.hid hr2
  clear h2 hs2 hr2 HWI
  go_wp2
  go_ret
  exact ⟨F2, m, e2, s2, G2, rfl, H2.out, HS2.out, HR2.out⟩
end Go.Proofs.YtgaofnmgdefdcaaGreatDoor.Le

namespace Go.Proofs.YtgaofnmgdefdcaaGreatDoor.Le
open Go.RowKit Go.Proofs.YtgaofnmgdefdcaaGreatDoor.Gen Go.Proofs.YtgaofnmgdefdcaaGreatDoor.Mp Go.Proofs.YtgaofnmgdefdcaaGreatDoor.Cm Go.Proofs.YtgaofnmgdefdcaaGreatDoor.Hr Go.Proofs.YtgaofnmgdefdcaaGreatDoor.Hn Go.Proofs.YtgaofnmgdefdcaaGreatDoor.Hk Go.Proofs.YtgaofnmgdefdcaaGreatDoor.Ln Go.Proofs.YtgaofnmgdefdcaaGreatDoor.Ds Go.Proofs.YtgaofnmgdefdcaaGreatDoor.Ky Go.Proofs.YtgaofnmgdefdcaaGreatDoor.Wr Go.Proofs.YtgaofnmgdefdcaaGreatDoor.Ir Go.Proofs.YtgaofnmgdefdcaaGreatDoor.Br Go.Proofs.YtgaofnmgdefdcaaGreatDoor.Qh Go.Proofs.YtgaofnmgdefdcaaGreatDoor.Qs Go.Proofs.YtgaofnmgdefdcaaGreatDoor.Qf Go.Proofs.YtgaofnmgdefdcaaGreatDoor.Qc

/-- What only new blocks turn in. -/
theorem keeps_low {w wr w1 : World} {S : Nat → Prop} (h : Keeps (fun _ => False) w wr) (k : Keeps S wr w1) (hw : ∀ x, S x → w.heap.size ≤ x) : Keeps (fun _ => False) w w1 :=
  ⟨k.os.trans h.os, k.tape.trans h.tape, k.output.trans h.output, Nat.le_trans h.size k.size, fun x hx hn => (k.block x (Nat.lt_of_lt_of_le hx h.size) (fun hs => by have := hw x hs; omega)).trans (h.block x hx hn)⟩
/-- A block's Reader is added. -/
theorem Ln.add {o : Nat → Option Nat} {B g N br bb mb i base g' : Nat} {s : BS} {G : Rs} {e : Int} {mc : Value} {P : Nat → Nat × Nat} {w w1 w2 : World} {r : RS} (h : Ln o B g s G N e br bb mb mc P w) (hi : i < 60001) (hG : G i = none)
    (k1 : Keeps (fun _ => False) w w1) (hr : IsRd base g' r w1) (hb : w.heap.size ≤ base) (k2 : Keeps (· = mb) w1 w2) (hm : IsF Tryz.prog 3 60001 ikl w2 mb (putF (fun i => (G i).map fun _ => rd (P i).2) i (rd g'))) :
    Ln (fun k => if base ≤ k ∧ k ≤ g' then some (4 + i) else o k) B g s (ru G i r) N e br bb mb mc (fun j => if j = i then (base, g') else P j) w2 := by
  have h1 := h.keeps k1 fun _ _ => id
  have hold : ∀ x l, o x = some l → (if base ≤ x ∧ x ≤ g' then some (4 + i) else o x) = some l := fun x l hx => by
    have := (h.lt x l hx).2
    rw [if_neg (by omega)]
    exact hx
  have hne : ∀ x l, o x = some l → l ≠ 2 → x ≠ mb := fun x l hx hl e => by
    rw [e, h.omap] at hx
    injection hx with hx
    exact hl hx.symm
  have hBw := (h.lt g 0 h.og)
  have hgl := hr.lt
  refine ⟨fun x l hx => ?_, h1.blk.keeps k2 (hne g 0 h.og (by omega)), hold g 0 h.og, h1.row.low k2 fun b a1 a2 => hne b 1 (h.orow b a1 a2) (by omega), fun b a1 a2 => hold b 1 (h.orow b a1 a2), hm.congr fun j _ => ?_, hold mb 2 h.omap, fun j r2 h2 => ?_, Kept.mono (h1.kept.keeps k2 fun b hb => hne b 3 hb (by omega)) (fun x hx => hold x 3 hx) fun x hx => ?_⟩
  · split at hx
    · have := k2.size
      omega
    · have := h1.lt x l hx
      have := k2.size
      omega
  · unfold putF ru
    by_cases hj : j = i
    · subst hj
      simp
    · simp [hj]
  · unfold ru at h2
    by_cases hj : j = i
    · subst hj
      rw [if_pos rfl] at h2
      injection h2 with h2
      subst h2
      refine ⟨hi, ?_, fun k a1 a2 => ?_⟩
      · simp only [if_true]
        exact hr.low k2 fun b a1 a2 e => by
          have := (h.lt mb 2 h.omap).2
          omega
      · simp only [if_true] at a1 a2 ⊢
        rw [if_pos ⟨a1, a2⟩]
    · rw [if_neg hj] at h2
      obtain ⟨a1, a2, a3⟩ := h1.rds j r2 h2
      refine ⟨a1, ?_, fun k b1 b2 => ?_⟩
      · simp only [if_neg hj]
        exact a2.low k2 fun b h1 h2 => hne b (4 + j) (a3 b h1 h2) (by omega)
      · simp only [if_neg hj] at b1 b2
        exact hold k (4 + j) (a3 k b1 b2)
  · split at hx
    · have := k2.size
      omega
    · have := h1.lt x 3 hx
      have := k2.size
      omega
/-- A new one, without blocks. -/
theorem Ln.start {B bb br : Nat} {s : BS} {w1 : World} (P : Nat → Nat × Nat) (hr : IsBr bb br s w1) (hB : B ≤ bb) :
    Ln (fun k => if k = w1.heap.size + 1 then some 0 else if k = w1.heap.size then some 2 else if bb ≤ k ∧ k ≤ br then some 1 else none) B (w1.heap.size + 1) s (fun _ => none) 0 0 br bb w1.heap.size (.map none) P ((w1.alloc (.map #[] 0)).alloc (.cells #[.pointer (some ⟨br, 0, none⟩), .map (some w1.heap.size), .map none, .int .i64 0] 107)) := by
  have hbl := hr.lt
  have hb0 := br_le hr
  have hk1 : Keeps (fun _ => False) w1 ((w1.alloc (.map #[] 0)).alloc (.cells #[.pointer (some ⟨br, 0, none⟩), .map (some w1.heap.size), .map none, .int .i64 0] 107)) := ((Keeps.refl _ _).alloc _).alloc _
  have hk2 : Keeps (fun _ => False) (w1.alloc (.map #[] 0)) ((w1.alloc (.map #[] 0)).alloc (.cells #[.pointer (some ⟨br, 0, none⟩), .map (some w1.heap.size), .map none, .int .i64 0] 107)) := (Keeps.refl _ _).alloc _
  have hsz : ((w1.alloc (.map #[] 0)).alloc (.cells #[.pointer (some ⟨br, 0, none⟩), .map (some w1.heap.size), .map none, .int .i64 0] 107)).heap.size = w1.heap.size + 2 := by simp
  have hsz1 : (w1.alloc (.map #[] 0)).heap.size = w1.heap.size + 1 := by simp
  refine ⟨fun x l hx => ?_, ?_, if_pos rfl, hr.low hk1 fun _ _ _ => id, fun k h1 h2 => ?_, ?_, ?_, fun i r h => (by cases h), ⟨fun k hk => ?_, .inl ?_⟩⟩
  · rw [hsz]
    split at hx
    · omega
    · split at hx
      · omega
      · split at hx
        · omega
        · cases hx
  · have := Blk.new (w1.alloc (.map #[] 0)) 107 #[.pointer (some ⟨br, 0, none⟩), .map (some w1.heap.size), .map none, .int .i64 0]
    rw [hsz1] at this
    exact this
  · rw [if_neg (by omega), if_neg (by omega), if_pos ⟨h1, h2⟩]
  · have := (IsF.new Tryz.prog 3 60001 ikl w1).keeps hk2 id
    exact this
  · simp
  · simp only at hk
    split at hk
    · cases hk
    · split at hk
      · cases hk
      · split at hk
        · cases hk
        · cases hk
  · rfl
set_option maxHeartbeats 8000000 in
set_option maxRecDepth 100000 in
theorem new_m (A : Option Addr) (n c : Nat) (xs : List Int) (b : Nat) (V : Nat → Option (List Int)) (fa : Nat → Option Addr) (fc : Nat → Nat) (w : World) (hx : xs.length = n) (hl : Lies w A xs) (hn : n ≤ 1000000) (hb : ∀ x ∈ xs, 0 ≤ x ∧ x < 256)
    (hm : IsF Tryz.prog 3 60001 ikl w b (fun i => (V i).map fun l => .slice (fa i) l.length (fc i))) (hV : ∀ i l, V i = some l → Lies w (fa i) l ∧ l.length ≤ 1000000 ∧ ∀ x ∈ l, 0 ≤ x ∧ x < 256) (hV0 : ∀ i, 60001 ≤ i → V i = none) :
    Calls Tryz.prog 22 #[.slice A n c, .map (some b)] w fun r w' => ∃ g F, r = .returned (.pointer (some ⟨g, 0, none⟩)) ∧ Lz w.heap.size g F ⟨xs, 0, false⟩ (fun i => (V i).map fun l => ⟨l, 0, 0⟩) 0 0 w' ∧ Keeps (fun _ => False) w w' := by
  obtain ⟨vv, hvv⟩ : ∃ vv : Nat → Option Value, (fun i => (V i).map fun l => .slice (fa i) l.length (fc i)) = vv := ⟨_, rfl⟩
  rw [hvv] at hm
  have HVV := Lib.hid hvv
  have HM := Lib.hid hm
  have HV := Lib.hid hV
  have HV0 := Lib.hid hV0
  have HR := Lib.hid (fun W (k : Keeps (fun _ => False) w W) => Br.read_n A n c xs W hx (hl.keeps k fun _ _ _ => id) hn hb)
  clear hvv hm hV hx hl hb hV0
  go_enter Tryz.func22, Tryz.ntmps22
  go_wp2_with fail
  refine (HR.out w (Keeps.refl _ _)).mono ?_
  rintro r w1 ⟨br, rfl, hr1, hk1⟩
  have HR1 := Lib.hid hr1
  have HK1 := Lib.hid hk1
  have hmm := @run_makeMap Tryz.prog
  clear hr1 hk1 HR
  go_upto_region 2 with fail
  have HL0 := Lib.hid (Ln.start (B := w.heap.size) (fun _ => (0, 0)) HR1.out (Nat.le_refl _))
  have HW0 : Hid (Keeps (fun _ => False) w1 ((w1.alloc (.map #[] 0)).alloc (.cells #[.pointer (some ⟨br, 0, none⟩), .map (some w1.heap.size), .map none, .int .i64 0] 107))) := ((Keeps.refl _ _).alloc _).alloc _
  generalize (w1.alloc (.map #[] 0)).alloc (.cells #[.pointer (some ⟨br, 0, none⟩), .map (some w1.heap.size), .map none, .int .i64 0] 107) = W at HL0 HW0 ⊢
  obtain ⟨o0, ho0⟩ : ∃ o0, (fun k => if k = w1.heap.size + 1 then some 0 else if k = w1.heap.size then some 2 else if w.heap.size ≤ k ∧ k ≤ br then some 1 else none) = o0 := ⟨_, rfl⟩
  rw [ho0] at HL0
  obtain ⟨g, hg⟩ : ∃ g, w1.heap.size + 1 = g := ⟨_, rfl⟩
  obtain ⟨mb, hmb⟩ : ∃ mb, w1.heap.size = mb := ⟨_, rfl⟩
  rw [hg] at HL0
  rw [hmb] at HL0
  rw [hg, hmb]
  have HKW := Lib.hid (HK1.out.trans HW0.out)
  have HM0 := Lib.hid (HM.out.keeps HKW.out id)
  have HBW := Lib.hid HM.out.lt
  clear ho0 hg hmb hmm
  go_upto_region 3 with (
    at_range
    refine wpList_range_f _ int_ks rfl _ _ rfl 29 Tryz.underlying28 b vv rfl HM0.out ?_
    intro w2 cn hrg2 hk2
    have HRG := Lib.hid hrg2
    have HL2 := Lib.hid (HL0.out.keeps hk2 fun _ _ => id)
    have HK2 := Lib.hid (HKW.out.trans hk2)
    clear hrg2 hk2)
  obtain ⟨r1, hr1⟩ : ∃ r1, W.heap.size = r1 := ⟨_, rfl⟩
  have HOR : Hid (o0 r1 = none) := by
    show o0 r1 = none
    cases ho : o0 r1 with
    | none => rfl
    | some l =>
      have := (HL0.out.lt r1 l ho).2
      omega
  have HWR : Hid (w.heap.size ≤ r1) := by have := HKW.out.size; show _ ≤ r1; omega
  rw [hr1] at HRG ⊢
  clear hr1 HM0 HL0
  go_frame
  go_loopw [6, 7] (fun _ _ wr => ∃ (seen : List Nat) (cn : Nat) (o : Nat → Option Nat) (P : Nat → Nat × Nat), Hid (RgF Tryz.prog 3 60001 ikl wr b r1 vv seen cn ∧ Ln o w.heap.size g ⟨xs, 0, false⟩ (fun i => if i ∈ seen then (V i).map fun l => ⟨l, 0, 0⟩ else none) 0 0 br w.heap.size mb (.map none) P wr ∧ o r1 = none ∧ Keeps (fun _ => False) w wr)) (fun _ _ wr => wr.rangeLeft b r1)
  case atStart => exact ⟨[], cn, o0, _, HRG.out, by simpa using HL2.out, HOR.out, HK2.out⟩
  case round =>
    clear HRG HL2 HOR HK2
    obtain ⟨seen, cn1, o, P, HI⟩ := hrel
    have HR := Lib.hid HI.out.1
    have HL := Lib.hid HI.out.2.1
    have HO := Lib.hid HI.out.2.2.1
    have HK := Lib.hid HI.out.2.2.2
    clear HI
    go_wp2_with (
      at_next
      refine wpList_next_f _ int_ks rfl _ rfl b r1 _ seen cn1 rfl HR.out ?_ ?_)
    · intro hall
      have HG : Hid ((fun i => if i ∈ seen then (V i).map fun l => (⟨l, 0, 0⟩ : RS) else none) = fun i => (V i).map fun l => ⟨l, 0, 0⟩) := by
        show _ = _
        funext i
        by_cases hs : i ∈ seen
        · rw [if_pos hs]
        · rw [if_neg hs]
          rcases Nat.lt_or_ge i 60001 with hi | hi
          · have : vv i = none := Classical.byContradiction fun h => hs (hall i hi h)
            rw [← HVV.out] at this
            cases hv : V i with
            | none => rfl
            | some l =>
              simp [hv] at this
          · rw [HV0.out i hi]
            rfl
      clear hall
      go_wp2_with fail
      go_ret
      have hl := HL.out
      rw [HG.out] at hl
      exact ⟨g, Ft o, rfl, ⟨o, br, w.heap.size, mb, _, P, hl, fun _ => Iff.rfl⟩, HK.out⟩
    · intro i v w7 cn7 hi hv hns hrg7 hlt7 hk7 hen
      obtain ⟨l, hl, rfl⟩ : ∃ l, V i = some l ∧ .slice (fa i) l.length (fc i) = v := by
        rw [← HVV.out] at hv
        simpa using hv
      obtain ⟨hvl, hvn, hvb⟩ := HV.out i l hl
      obtain ⟨ln, hln⟩ : ∃ ln, l.length = ln := ⟨_, rfl⟩
      have HL7 := Lib.hid (HL.out.keeps hk7 (fun k hk e => by rw [e, Ft, HO.out] at hk; exact hk rfl))
      have HK7 : Hid (Keeps (fun _ => False) w w7) := Lib.hid (keeps_low HK.out hk7 (fun z hz => by subst hz; exact HWR.out))
      have HR7 := Lib.hid hrg7
      have HLT : Hid (cn7 < wr.rangeLeft b r1) := by show _ < _; rw [HR.out.left_eq]; exact hlt7
      have HIR := Lib.hid (fun W (k : Keeps (fun _ => False) w7 W) => Ir.iread (fa i) ln (fc i) l W hln (hvl.keeps (HK7.out.trans k) fun _ _ _ => id) (by omega) hvb)
      have HGM : Hid (¬ g = mb) := by
        show ¬ g = mb
        intro e
        have h1 := HL7.out.og
        rw [e, HL7.out.omap] at h1
        cases h1
      have hc1 : w7.cell? ⟨g, 1, none⟩ = some (.map (some mb)) := HL7.out.blk.cell 1
      have HI := Lib.hid hi
      have HLI := Lib.hid hl
      have HNS := Lib.hid hns
      rw [hln] at hen ⊢
      clear hv hvl hvn hvb hln hrg7 hlt7 hk7 HR HL HK hi hl hns
      unfold ikv at hen ⊢
      go_upto_region 5 with fail
      go_region_held3 (fun w' => w'.cell? ⟨g, 1, none⟩ = some (.map (some mb))) (go_keep)
        ((have H := HIR; go_at_call 48; refine (H.out _ ((Keeps.refl _ _).drewN 1)).mono ?_; rintro e w8 ⟨g8, rfl, hr8, hk8'⟩; have hk8 : Keeps (fun _ => False) w7 w8 := hk8'.of_drew; obtain ⟨W9, hrun, hu9, hk9⟩ := Qi.IsF.update_run int_ks (HL7.out.keeps hk8 fun _ _ => id).map Tryz.underlying105 (by omega) HI.out (rd g8); have hcell9 : W9.cell? ⟨g, 1, none⟩ = some (.map (some mb)) := (hk9.cell (p := ⟨g, 1, none⟩) (Nat.lt_of_lt_of_le HL7.out.blk.lt hk8.size) HGM.out).trans ((HL7.out.keeps hk8 fun _ _ => id).blk.cell 1); have hcell8 : w8.cell? ⟨g, 1, none⟩ = some (.map (some mb)) := (HL7.out.keeps hk8 fun _ _ => id).blk.cell 1; have HRD8 := Lib.hid hr8; have HK8 := Lib.hid hk8; have HU9 := Lib.hid hu9; have HK9 := Lib.hid hk9; unfold ikv at hrun; clear hr8 hk8 hk8' hu9 hk9 HIR))
      have hG : (fun i => if i ∈ seen then (V i).map fun l => (⟨l, 0, 0⟩ : RS) else none) i = none := if_neg HNS.out
      have hl9 := HL7.out.add HI.out hG HK8.out HRD8.out (Nat.le_refl _) HK9.out HU9.out
      have hru : ru (fun i => if i ∈ seen then (V i).map fun l => (⟨l, 0, 0⟩ : RS) else none) i ⟨l, 0, 0⟩ = fun j => if j ∈ seen ++ [i] then (V j).map fun l => ⟨l, 0, 0⟩ else none := by
        funext j
        unfold ru
        by_cases e : j = i
        · subst e
          rw [if_pos rfl, if_pos (by simp), HLI.out]
          rfl
        · rw [if_neg e]
          have : j ∈ seen ++ [i] ↔ j ∈ seen := by simp [e]
          simp only [this]
      rw [hru] at hl9
      have hmb := (HL7.out.lt mb 2 HL7.out.omap)
      have hr1m : r1 ≠ mb := fun e => by
        have h1 := HO.out
        rw [e, HL7.out.omap] at h1
        cases h1
      have HR9 := Lib.hid ((HR7.out.keeps HK8.out id id).keeps HK9.out (fun e => by have := HBW.out; omega) hr1m)
      have HL9 := Lib.hid hl9
      have HO9 : Hid ((fun k => if w7.drew.heap.size ≤ k ∧ k ≤ g8 then some (4 + i) else o k) r1 = none) := by
        show (if w7.drew.heap.size ≤ r1 ∧ r1 ≤ g8 then some (4 + i) else o r1) = none
        rw [if_neg (fun h => by have h1 := HR7.out.lt; have h2 : w7.drew.heap.size = w7.heap.size := rfl; omega)]
        exact HO.out
      have HK10 : Hid (Keeps (fun _ => False) w W9) := Lib.hid (keeps_low (HK7.out.trans HK8.out) HK9.out (fun z hz => by subst hz; exact hmb.1))
      clear hG hl9 hru hmb hr1m
      go_roundw
      case rel =>
        exact ⟨_, _, _, _, _, _, _, _, _, _, _, _, _, _, ⟨seen ++ [i], cn7, _, _, HR9.out, HL9.out, HO9.out, HK10.out⟩, rfl⟩
      case measure =>
        exact Nat.lt_of_le_of_lt (Nat.le_of_eq HR9.out.left_eq) HLT.out
set_option maxHeartbeats 8000000 in
set_option maxRecDepth 100000 in
theorem new_nil (A : Option Addr) (n c : Nat) (xs : List Int) (w : World) (hx : xs.length = n) (hl : Lies w A xs) (hn : n ≤ 1000000) (hb : ∀ x ∈ xs, 0 ≤ x ∧ x < 256) :
    Calls Tryz.prog 22 #[.slice A n c, .map none] w fun r w' => ∃ g F, r = .returned (.pointer (some ⟨g, 0, none⟩)) ∧ Lz w.heap.size g F ⟨xs, 0, false⟩ (fun _ => none) 0 0 w' ∧ Keeps (fun _ => False) w w' := by
  have HR := Lib.hid (fun W (k : Keeps (fun _ => False) w W) => Br.read_n A n c xs W hx (hl.keeps k fun _ _ _ => id) hn hb)
  clear hx hl hb
  go_enter Tryz.func22, Tryz.ntmps22
  go_wp2_with fail
  refine (HR.out w (Keeps.refl _ _)).mono ?_
  rintro r w1 ⟨br, rfl, hr1, hk1⟩
  have HR1 := Lib.hid hr1
  have HK1 := Lib.hid hk1
  have hmm := @run_makeMap Tryz.prog
  clear hr1 hk1 HR
  go_upto_region 2 with fail
  have HL0 := Lib.hid (Ln.start (B := w.heap.size) (fun _ => (0, 0)) HR1.out (Nat.le_refl _))
  have HW0 : Hid (Keeps (fun _ => False) w1 ((w1.alloc (.map #[] 0)).alloc (.cells #[.pointer (some ⟨br, 0, none⟩), .map (some w1.heap.size), .map none, .int .i64 0] 107))) := ((Keeps.refl _ _).alloc _).alloc _
  generalize (w1.alloc (.map #[] 0)).alloc (.cells #[.pointer (some ⟨br, 0, none⟩), .map (some w1.heap.size), .map none, .int .i64 0] 107) = W at HL0 HW0 ⊢
  obtain ⟨o0, ho0⟩ : ∃ o0, (fun k => if k = w1.heap.size + 1 then some 0 else if k = w1.heap.size then some 2 else if w.heap.size ≤ k ∧ k ≤ br then some 1 else none) = o0 := ⟨_, rfl⟩
  rw [ho0] at HL0
  obtain ⟨g, hg⟩ : ∃ g, w1.heap.size + 1 = g := ⟨_, rfl⟩
  obtain ⟨mb, hmb⟩ : ∃ mb, w1.heap.size = mb := ⟨_, rfl⟩
  rw [hg] at HL0
  rw [hmb] at HL0
  rw [hg, hmb]
  have HKW := Lib.hid (HK1.out.trans HW0.out)
  have hrn := run_range_nilMap (P := Tryz.prog) W 28 3 29 Tryz.underlying28
  have hnx := fun ty => run_next_nilMap (P := Tryz.prog) W ty 0 0 #[]
  have HKF : Hid (Keeps (fun _ => False) W (W.alloc (.mapIter none 0 #[] 0))) := (Keeps.refl _ _).alloc _
  clear ho0 hg hmb hmm
  go_wp2
  go_loopw [6] (fun _ wr => wr = W.alloc (.mapIter none 0 #[] 0)) (fun _ _ => 0)
  case atStart => rfl
  case round =>
    subst hrel
    go_wp2
    go_ret
    exact ⟨g, Ft o0, rfl, ⟨o0, br, w.heap.size, mb, _, _, HL0.out.keeps HKF.out fun _ _ => id, fun _ => Iff.rfl⟩, HKW.out.trans HKF.out⟩
end Go.Proofs.YtgaofnmgdefdcaaGreatDoor.Le

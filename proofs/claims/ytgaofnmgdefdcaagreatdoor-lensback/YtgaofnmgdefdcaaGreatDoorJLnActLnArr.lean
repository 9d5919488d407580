/- lens: number, Err, Wrong, Within, Int: any way, any numbers. The condition: strconv's table of tens reads as its text lays it. -/
/- lens: bytes, Array: any way. The condition: strconv's table of tens reads as its text lays it. -/
/- lens: Array: any way; what a nil one answers. The condition: strconv's table of tens reads as its text lays it. -/
import Derived.Test.YtgaofnmgdefdcaaGreatDoorJQlIntLnNext
import Derived.Test.YtgaofnmgdefdcaaGreatDoorDsSmE
import Derived.Test.YtgaofnmgdefdcaaGreatDoorJWireTakeSrtShelf

namespace Go.Proofs.YtgaofnmgdefdcaaGreatDoor.Le
open Go.RowKit Go.Proofs.YtgaofnmgdefdcaaGreatDoor.Gen Go.Proofs.YtgaofnmgdefdcaaGreatDoor.Mp Go.Proofs.YtgaofnmgdefdcaaGreatDoor.Cm Go.Proofs.YtgaofnmgdefdcaaGreatDoor.Hr Go.Proofs.YtgaofnmgdefdcaaGreatDoor.Hn Go.Proofs.YtgaofnmgdefdcaaGreatDoor.Hk Go.Proofs.YtgaofnmgdefdcaaGreatDoor.Ln Go.Proofs.YtgaofnmgdefdcaaGreatDoor.Ds Go.Proofs.YtgaofnmgdefdcaaGreatDoor.Ky Go.Proofs.YtgaofnmgdefdcaaGreatDoor.Wr Go.Proofs.YtgaofnmgdefdcaaGreatDoor.Ir Go.Proofs.YtgaofnmgdefdcaaGreatDoor.Br Go.Proofs.YtgaofnmgdefdcaaGreatDoor.Qh Go.Proofs.YtgaofnmgdefdcaaGreatDoor.Qs Go.Proofs.YtgaofnmgdefdcaaGreatDoor.Qf Go.Proofs.YtgaofnmgdefdcaaGreatDoor.Qc

/-- The next number, from some up some other one. -/
def NumR (d : D) (s : BS) (G : Rs) (fr up n e : Int) (s' : BS) (G' : Rs) : Prop :=
  ∃ m e1, NextR d s G m e1 s' G' ∧ ((e1 ≠ 0 ∧ n = 0 ∧ e = e1) ∨ (e1 = 0 ∧ (m < fr ∨ up < m) ∧ n = 0 ∧ e = 2) ∨ (e1 = 0 ∧ fr ≤ m ∧ m ≤ up ∧ n = m ∧ e = 0))
/-- A Lens as a whole: its labels, its map and the like kept up itself. -/
def Lz (B g : Nat) (F : Nat → Prop) (s : BS) (G : Rs) (N : Nat) (e : Int) (w : World) : Prop := ∃ o br bb mb mc P, Ln o B g s G N e br bb mb mc P w ∧ ∀ k, F k ↔ Ft o k
section
variable {B g N N' : Nat} {F F' : Nat → Prop} {s : BS} {G : Rs} {e : Int} {w w1 : World} {S : Nat → Prop}
theorem Lz.keeps (h : Lz B g F s G N e w) (k : Keeps S w w1) (hn : ∀ k, F k → ¬ S k) : Lz B g F s G N e w1 := by
  obtain ⟨o, br, bb, mb, mc, P, h, hF⟩ := h
  exact ⟨o, br, bb, mb, mc, P, h.keeps k (fun b hb => hn b ((hF b).2 hb)), hF⟩
theorem Lz.more (h : Lz B g F s G N e w) (k : Keeps (fun _ => False) w w1) : Lz B g F s G N e w1 := h.keeps k fun _ _ => id
theorem Lz.lt (h : Lz B g F s G N e w) : ∀ k, F k → B ≤ k ∧ k < w.heap.size := by
  obtain ⟨o, br, bb, mb, mc, P, h, hF⟩ := h
  intro k hk
  obtain ⟨l, hl⟩ := Option.ne_none_iff_exists'.1 ((hF k).1 hk)
  exact h.lt k l hl
theorem Lz.own (h : Lz B g F s G N e w) : F g := by
  obtain ⟨o, br, bb, mb, mc, P, h, hF⟩ := h
  exact (hF g).2 (by rw [Ft, h.og]; simp)
theorem Lz.le (h : Lz B g F s G N e w) (hN : N ≤ N') : Lz B g F s G N' e w := by
  obtain ⟨o, br, bb, mb, mc, P, h, hF⟩ := h
  exact ⟨o, br, bb, mb, mc, P, h.le hN, hF⟩
theorem Lz.errCell (h : Lz B g F s G N e w) : w.cell? ⟨g, 3, none⟩ = some (.int .i64 e) := by
  obtain ⟨o, br, bb, mb, mc, P, h, hF⟩ := h
  exact h.blk.cell 3
end

set_option maxHeartbeats 8000000 in
set_option maxRecDepth 100000 in
theorem next_z {B g N : Nat} {F : Nat → Prop} {s : BS} {G : Rs} {e : Int} (A : Option Addr) (n c : Nat) (d : D) (w : World) (ht : Tab B w) (h : Lz B g F s G N e w) (hN : N ≤ 1000)
    (hL : Ents w A n d.L) (hf : ∀ x ∈ d.L, Fits x) (hE : 0 < n → ∀ b x, A = some ⟨b, x, none⟩ → ¬ F b) :
    Calls Tryz.prog 76 #[.pointer (some ⟨g, 0, none⟩), .agg (dv A n c d)] w fun r w' => ∃ F' n' e' s' G', r = .returned (.tuple #[.int .i64 n', .int .i64 e']) ∧ Lz B g F' s' G' (N + 1) e w' ∧ Step F F' w w' ∧ NextR d s G n' e' s' G' := by
  obtain ⟨o, br, bb, mb, mc, P, h, hF⟩ := h
  refine (next_ A n c d w ht h hN hL hf (fun h0 b x e => by have := hE h0 b x e; rw [hF] at this; exact Classical.not_not.1 this)).mono ?_
  rintro r w' ⟨o', mc', n', e', s', G', rfl, h1, h2, h3⟩
  exact ⟨Ft o', n', e', s', G', rfl, ⟨o', br, bb, mb, mc', P, h1, fun _ => Iff.rfl⟩, ⟨h2.keeps.mono fun k _ hk => (hF k).2 hk, fun k hk => (h2.sub k hk).imp (hF k).2 id⟩, h3⟩

set_option maxHeartbeats 8000000 in
set_option maxRecDepth 100000 in
theorem number_ {B g N : Nat} {F : Nat → Prop} {s : BS} {G : Rs} {e : Int} (A : Option Addr) (n c : Nat) (d : D) (fr up : Int) (w : World) (ht : Tab B w) (h : Lz B g F s G N e w) (hN : N ≤ 1000)
    (hL : Ents w A n d.L) (hf : ∀ x ∈ d.L, Fits x) (hE : 0 < n → ∀ b x, A = some ⟨b, x, none⟩ → ¬ F b) :
    Calls Tryz.prog 50 #[.pointer (some ⟨g, 0, none⟩), .agg (dv A n c d), .int .i64 fr, .int .i64 up] w fun r w' => ∃ F' n' e' s' G', r = .returned (.tuple #[.int .i64 n', .int .i64 e']) ∧ Lz B g F' s' G' (N + 1) e w' ∧ Step F F' w w' ∧ NumR d s G fr up n' e' s' G' := by
  have hk1 := (Keeps.refl (fun _ => False) w).alloc (.cells (dv A n c d) 43)
  have HNX := Lib.hid (fun W (k : Keeps (fun _ => False) w W) => next_z A n c d W (ht.more (Nat.le_of_lt (Nat.lt_of_le_of_lt (h.lt g h.own).1 (h.lt g h.own).2)) k) (h.more k) hN (hL.more k) hf hE)
  clear h hL hf hE ht
  obtain ⟨K, Bl, L, le, bi⟩ := d
  unfold dv at HNX hk1 ⊢
  simp only at HNX hk1 ⊢
  have HK1 := Lib.hid hk1
  clear hk1
  go_enter Tryz.func50, Tryz.ntmps50
  go_wp2_with fail
  refine (HNX.out _ HK1.out).mono ?_
  rintro r w1 ⟨F1, m, e1, s1, G1, rfl, h1, hs1, hr1⟩
  have H1 := Lib.hid h1
  have HS1 := Lib.hid (Step.pre HK1.out hs1)
  have HR1 := Lib.hid hr1
  clear h1 hs1 hr1 HNX HK1
  by_cases h0 : e1 = 0
  · subst h0
    by_cases hm1 : m < fr
    · go_wp2
      go_ret2
      exact ⟨F1, 0, 2, s1, G1, rfl, H1.out, HS1.out, m, 0, HR1.out, .inr (.inl ⟨rfl, .inl hm1, rfl, rfl⟩)⟩
    by_cases hm2 : up < m
    · go_wp2
      go_ret2
      exact ⟨F1, 0, 2, s1, G1, rfl, H1.out, HS1.out, m, 0, HR1.out, .inr (.inl ⟨rfl, .inr hm2, rfl, rfl⟩)⟩
    go_wp2
    go_ret2
    exact ⟨F1, m, 0, s1, G1, rfl, H1.out, HS1.out, m, 0, HR1.out, .inr (.inr ⟨rfl, by omega, by omega, rfl, rfl⟩)⟩
  · have hne : (e1 != 0) = true := by simpa using h0
    go_wp2
    go_ret2
    exact ⟨F1, 0, e1, s1, G1, rfl, H1.out, HS1.out, m, e1, HR1.out, .inl ⟨h0, rfl, rfl⟩⟩

theorem err_ {B g N : Nat} {F : Nat → Prop} {s : BS} {G : Rs} {e : Int} (w : World) (h : Lz B g F s G N e w) :
    Calls Tryz.prog 26 #[.pointer (some ⟨g, 0, none⟩)] w fun r w' => r = .returned (.int .i64 e) ∧ w' = w := by
  have h3 := h.errCell
  clear h
  go_enter Tryz.func26, Tryz.ntmps26
  go_wp2
  go_ret
  exact ⟨rfl, rfl⟩
theorem err_nil (w : World) : Calls Tryz.prog 26 #[.pointer none] w fun r w' => r = .returned (.int .i64 1) ∧ w' = w := by
  go_enter Tryz.func26, Tryz.ntmps26
  go_wp2
  go_ret
  exact ⟨rfl, rfl⟩
/-- The error behind an error that is told, and the row. -/
def wrE (er e : Int) : Int := if er ≠ 0 then er else e
def wrS (er e : Int) (s : BS) : BS := if er ≠ 0 ∨ e = 0 then s else { s with ended := true }

set_option maxHeartbeats 8000000 in
set_option maxRecDepth 100000 in
theorem wrong_ {B g N : Nat} {F : Nat → Prop} {s : BS} {G : Rs} {er : Int} (e : Int) (w : World) (h : Lz B g F s G N er w) :
    Calls Tryz.prog 29 #[.pointer (some ⟨g, 0, none⟩), .int .i64 e] w fun r w' => r = .returned (.tuple #[]) ∧ Lz B g F (wrS er e s) G N (wrE er e) w' ∧ Step F F w w' := by
  have HE := Lib.hid (err_ w h)
  by_cases h0 : er = 0
  · subst h0
    by_cases h1 : e = 0
    · subst h1
      have HH := Lib.hid h
      clear h
      go_enter Tryz.func29, Tryz.ntmps29
      go_wp2_with fail
      refine HE.out.mono ?_
      rintro r w1 ⟨rfl, rfl⟩
      go_wp2
      (first | go_end0 | go_returns)
      exact ⟨rfl, HH.out, Step.refl _ _⟩
    · obtain ⟨o, br, bb, mb, mc, P, h, hF⟩ := h
      have he1 : (e == 0) = false := by simpa using h1
      have hc0 := h.blk.cell 0
      have hc3 := h.blk.cell 3
      have hf3 := h.blk.frozen 3
      simp only [List.getElem?_toArray, List.getElem?_cons_zero, List.getElem?_cons_succ] at hc0 hc3
      have hb1 : Blk (w.setCell ⟨g, 3, none⟩ (.int .i64 e)) g 107 #[.pointer (some ⟨br, 0, none⟩), .map (some mb), mc, .int .i64 e] := by simpa using h.blk.setCell 3 (.int .i64 e)
      have hk1 : Keeps (· = g) w (w.setCell ⟨g, 3, none⟩ (.int .i64 e)) := (Keeps.refl _ _).setOwn 3 _
      have hl1 := h.own' hk1 hb1
      have HFL := Lib.hid (Br.fail br s bb _ hl1.row)
      have HL1 := Lib.hid hl1
      have hz0 := hb1.cell 0
      simp only [List.getElem?_toArray, List.getElem?_cons_zero, List.getElem?_cons_succ] at hz0
      have HK1 := Lib.hid hk1
      have HF := Lib.hid hF
      have HG : Hid (F g) := by show F g; rw [hF, Ft, h.og]; simp
      have HBR : Hid (F br) := by show F br; rw [hF, Ft, h.orow br (br_le h.row) (Nat.le_refl _)]; simp
      clear h hl1 hk1 hb1 hF
      go_enter Tryz.func29, Tryz.ntmps29
      go_wp2_with fail
      refine HE.out.mono ?_
      rintro r w1 ⟨rfl, rfl⟩
      go_wp2_with fail
      refine HFL.out.mono ?_
      rintro r w2 ⟨rfl, hr2, hk2⟩
      have HL2 := Lib.hid (HL1.out.row' hr2 hk2)
      have HK2 := Lib.hid hk2
      clear hr2 hk2 HFL
      go_wp2
      (first | go_end0 | go_returns)
      have e1 : wrS 0 e s = { s with ended := true } := by unfold wrS; rw [if_neg (by simp [h1])]
      have e2 : wrE 0 e = e := by simp [wrE]
      rw [e1, e2]
      exact ⟨rfl, ⟨o, br, bb, mb, mc, P, HL2.out, HF.out⟩, ⟨(HK1.out.mono fun k _ e => by rw [e]; exact HG.out).trans (HK2.out.mono fun k _ e => by rw [e]; exact HBR.out), fun _ => .inl⟩⟩
  · have hne : (er != 0) = true := by simpa using h0
    have HH := Lib.hid h
    clear h
    go_enter Tryz.func29, Tryz.ntmps29
    go_wp2_with fail
    refine HE.out.mono ?_
    rintro r w1 ⟨rfl, rfl⟩
    go_wp2
    (first | go_end0 | go_returns)
    have e1 : wrS er e s = s := by unfold wrS; rw [if_pos (.inl h0)]
    have e2 : wrE er e = er := by simp [wrE, h0]
    rw [e1, e2]
    exact ⟨rfl, HH.out, Step.refl _ _⟩
theorem wrong_nil (e : Int) (w : World) : Calls Tryz.prog 29 #[.pointer none, .int .i64 e] w fun r w' => r = .returned (.tuple #[]) ∧ w' = w := by
  have HE := Lib.hid (err_nil w)
  go_enter Tryz.func29, Tryz.ntmps29
  go_wp2_with fail
  refine HE.out.mono ?_
  rintro r w1 ⟨rfl, rfl⟩
  go_wp2
  (first | go_end0 | go_returns)
  exact ⟨rfl, rfl⟩
/-- The next number within some: what it is, the Lens's error behind it, and the rest. -/
def WithinR (d : D) (s : BS) (G : Rs) (er fr up n e : Int) (s' : BS) (G' : Rs) : Prop :=
  (er ≠ 0 ∧ n = 0 ∧ e = er ∧ s' = s ∧ G' = G) ∨ (er = 0 ∧ ∃ s1, NumR d s G (max fr (-2147483647)) (min up 2147483647) n e s1 G' ∧ s' = wrS 0 e s1)

set_option maxHeartbeats 8000000 in
set_option maxRecDepth 100000 in
theorem within_ {B g N : Nat} {F : Nat → Prop} {s : BS} {G : Rs} {er : Int} (A : Option Addr) (n c : Nat) (d : D) (fr up : Int) (w : World) (ht : Tab B w) (h : Lz B g F s G N er w) (hN : N ≤ 1000)
    (hL : Ents w A n d.L) (hf : ∀ x ∈ d.L, Fits x) (hE : 0 < n → ∀ b x, A = some ⟨b, x, none⟩ → ¬ F b) :
    Calls Tryz.prog 25 #[.pointer (some ⟨g, 0, none⟩), .agg (dv A n c d), .int .i64 fr, .int .i64 up] w fun r w' => ∃ F' n' e' s' G', r = .returned (.int .i64 n') ∧ Lz B g F' s' G' (N + 1) e' w' ∧ Step F F' w w' ∧ WithinR d s G er fr up n' e' s' G' := by
  obtain ⟨p, hp⟩ : ∃ p, max fr (-2147483647) = p := ⟨_, rfl⟩
  obtain ⟨q, hq⟩ : ∃ q, min up 2147483647 = q := ⟨_, rfl⟩
  have hk1 := (Keeps.refl (fun _ => False) w).alloc (.cells (dv A n c d) 43)
  have HE := Lib.hid (err_ _ (h.more hk1))
  have HH := Lib.hid (h.more hk1)
  have hBs : B ≤ w.heap.size := Nat.le_of_lt (Nat.lt_of_le_of_lt (h.lt g h.own).1 (h.lt g h.own).2)
  have HNU := Lib.hid (fun W (k : Keeps (fun _ => False) w W) => number_ A n c d p q W (ht.more hBs k) (h.more k) hN (hL.more k) hf hE)
  have HP := Lib.hid hp
  have HQ := Lib.hid hq
  have HK1 := Lib.hid hk1
  have HD : Hid (∀ n e s1 G', NumR d s G p q n e s1 G' → er = 0 → WithinR d s G er fr up n e (wrS 0 e s1) G') := fun n e s1 G' h h0 => .inr ⟨h0, s1, by rw [hp, hq]; exact h, rfl⟩
  have HD0 : Hid (er ≠ 0 → WithinR d s G er fr up 0 er s G) := fun h0 => .inl ⟨h0, rfl, rfl, rfl, rfl⟩
  clear h hL hf hE ht hp hq hBs hk1
  generalize hR : WithinR d = R at HD HD0 ⊢
  generalize hR2 : NumR d = R2 at HD HNU
  clear hR hR2
  obtain ⟨K, Bl, L, le, bi⟩ := d
  unfold dv at HE HH HNU HK1 ⊢
  simp only at HE HH HNU HK1 ⊢
  by_cases h0 : er = 0
  · subst h0
    have rmx := fun (ts : Array TypeId) (t : TypeId) w => run_mx (P := Tryz.prog) ts t fr (-2147483647) p HP.out w
    have rmn := fun (ts : Array TypeId) (t : TypeId) w => run_mini (P := Tryz.prog) ts t up 2147483647 q HQ.out w
    go_enter Tryz.func25, Tryz.ntmps25
    go_wp2_with fail
    refine HE.out.mono ?_
    rintro r w1 ⟨rfl, rfl⟩
    go_wp2_with fail
    refine (HNU.out _ HK1.out).mono ?_
    rintro r w2 ⟨F2, m, e2, s2, G2, rfl, h2, hs2, hr2⟩
    have HW2 := Lib.hid (wrong_ e2 w2 h2)
    have HS2 := Lib.hid (Step.pre HK1.out hs2)
    have HR2 := Lib.hid hr2
    clear h2 hs2 hr2 HNU
    go_wp2_with fail
    refine HW2.out.mono ?_
    rintro r w3 ⟨rfl, h3, hs3⟩
    have H3 := Lib.hid h3
    have HS3 := Lib.hid (HS2.out.trans hs3)
    clear h3 hs3
    go_wp2
    go_ret
    have e1 : wrE 0 e2 = e2 := by simp [wrE]
    have h3 := H3.out
    rw [e1] at h3
    exact ⟨F2, m, e2, _, G2, rfl, h3, HS3.out, HD.out m e2 s2 G2 HR2.out trivial⟩
  · have hne : (er != 0) = true := by simpa using h0
    go_enter Tryz.func25, Tryz.ntmps25
    go_wp2_with fail
    refine HE.out.mono ?_
    rintro r w1 ⟨rfl, rfl⟩
    go_wp2
    go_ret
    exact ⟨F, 0, er, s, G, rfl, HH.out.le (by omega), Step.quiet HK1.out, HD0.out h0⟩

set_option maxHeartbeats 8000000 in
set_option maxRecDepth 100000 in
theorem int_ {B g N : Nat} {F : Nat → Prop} {s : BS} {G : Rs} {er : Int} (A : Option Addr) (n c : Nat) (d : D) (w : World) (ht : Tab B w) (h : Lz B g F s G N er w) (hN : N ≤ 1000)
    (hL : Ents w A n d.L) (hf : ∀ x ∈ d.L, Fits x) (hE : 0 < n → ∀ b x, A = some ⟨b, x, none⟩ → ¬ F b) :
    Calls Tryz.prog 28 #[.pointer (some ⟨g, 0, none⟩), .agg (dv A n c d)] w fun r w' => ∃ F' n' e' s' G', r = .returned (.int .i64 n') ∧ Lz B g F' s' G' (N + 1) e' w' ∧ Step F F' w w' ∧ WithinR d s G er (-2147483647) 2147483647 n' e' s' G' := by
  have hk1 := (Keeps.refl (fun _ => False) w).alloc (.cells (dv A n c d) 43)
  have hBs : B ≤ w.heap.size := Nat.le_of_lt (Nat.lt_of_le_of_lt (h.lt g h.own).1 (h.lt g h.own).2)
  have HWI := Lib.hid (fun W (k : Keeps (fun _ => False) w W) => within_ A n c d (-2147483647) 2147483647 W (ht.more hBs k) (h.more k) hN (hL.more k) hf hE)
  have HK1 := Lib.hid hk1
  clear h hL hf hE ht hBs hk1
  generalize WithinR d = R at HWI ⊢
  obtain ⟨K, Bl, L, le, bi⟩ := d
  unfold dv at HWI HK1 ⊢
  simp only at HWI HK1 ⊢
  go_enter Tryz.func28, Tryz.ntmps28
  go_wp2_with fail
  refine (HWI.out _ HK1.out).mono ?_
  rintro r w2 ⟨F2, m, e2, s2, G2, rfl, h2, hs2, hr2⟩
  have H2 := Lib.hid h2
  have HS2 := Lib.hid (Step.pre HK1.out hs2)
  have HR2 := Lib.hid hr2
  clear h2 hs2 hr2 HWI
  go_wp2
  go_ret
  exact ⟨F2, m, e2, s2, G2, rfl, H2.out, HS2.out, HR2.out⟩
end Go.Proofs.YtgaofnmgdefdcaaGreatDoor.Le

namespace Go.Proofs.YtgaofnmgdefdcaaGreatDoor.Le
open Go.RowKit Go.Proofs.YtgaofnmgdefdcaaGreatDoor.Gen Go.Proofs.YtgaofnmgdefdcaaGreatDoor.Mp Go.Proofs.YtgaofnmgdefdcaaGreatDoor.Cm Go.Proofs.YtgaofnmgdefdcaaGreatDoor.Hr Go.Proofs.YtgaofnmgdefdcaaGreatDoor.Hn Go.Proofs.YtgaofnmgdefdcaaGreatDoor.Hk Go.Proofs.YtgaofnmgdefdcaaGreatDoor.Ln Go.Proofs.YtgaofnmgdefdcaaGreatDoor.Ds Go.Proofs.YtgaofnmgdefdcaaGreatDoor.Ky Go.Proofs.YtgaofnmgdefdcaaGreatDoor.Wr Go.Proofs.YtgaofnmgdefdcaaGreatDoor.Ir Go.Proofs.YtgaofnmgdefdcaaGreatDoor.Br Go.Proofs.YtgaofnmgdefdcaaGreatDoor.Qh Go.Proofs.YtgaofnmgdefdcaaGreatDoor.Qs Go.Proofs.YtgaofnmgdefdcaaGreatDoor.Qf Go.Proofs.YtgaofnmgdefdcaaGreatDoor.Qc

/-- What is taken of a block. -/
def GetR (f : RS → List Int × RS) (G : Rs) (i : Nat) (ys : List Int) (e : Int) (G' : Rs) : Prop := match G i with
  | none => ys = [] ∧ e = 11 ∧ G' = G
  | some r => ys = (f r).1 ∧ e = (f r).2.e ∧ G' = ru G i (f r).2
theorem GetR.none_ {f : RS → List Int × RS} {G : Rs} {i : Nat} (h : G i = none) : GetR f G i [] 11 G := by
  unfold GetR
  rw [h]
  exact ⟨rfl, rfl, rfl⟩
theorem GetR.some_ {f : RS → List Int × RS} {G : Rs} {i : Nat} {r : RS} (h : G i = some r) : GetR f G i (f r).1 (f r).2.e (ru G i (f r).2) := by
  unfold GetR
  rw [h]
  exact ⟨rfl, rfl, rfl⟩
/-- What the next bytes by a way are, what is wrong with them, what is behind them. -/
def BytR (a : E) (s : BS) (G : Rs) (ys : List Int) (e : Int) (s' : BS) (G' : Rs) : Prop :=
  (chkA a ≠ 0 ∧ ys = [] ∧ e = chkA a ∧ s' = s ∧ G' = G) ∨
  (chkA a = 0 ∧ a.K = 4 ∧ ∃ m e1 G1, NumR a.d s G 0 1048576 m e1 s' G1 ∧ ((e1 ≠ 0 ∧ ys = [] ∧ e = e1 ∧ G' = G1) ∨ (e1 = 0 ∧ GetR (fun r => r.many m) G1 a.B.toNat ys e G'))) ∨
  (chkA a = 0 ∧ a.K = 5 ∧ s' = s ∧ GetR (fun r => r.upto a.S) G a.B.toNat ys e G')

set_option maxHeartbeats 16000000 in
set_option maxRecDepth 100000 in
theorem bytes_ {B g N : Nat} {F : Nat → Prop} {s : BS} {G : Rs} {er : Int} (A : Option Addr) (n c : Nat) (a : E) (w : World) (ht : Tab B w) (h : Lz B g F s G N er w) (hN : N ≤ 1000)
    (hL : Ents w A n a.d.L) (hf : ∀ x ∈ a.d.L, Fits x) (hE : 0 < n → ∀ b x, A = some ⟨b, x, none⟩ → ¬ F b) (hS : 0 ≤ a.S ∧ a.S < 256) :
    Calls Tryz.prog 49 #[.pointer (some ⟨g, 0, none⟩), .agg (av A n c a)] w fun r w' => ∃ F' A2 n2 c2 ys e' s' G', r = .returned (.tuple #[.slice A2 n2 c2, .int .i64 e']) ∧ ys.length = n2 ∧ Lies w' A2 ys ∧ (∀ b x, A2 = some ⟨b, x, none⟩ → ¬ F' b) ∧ Lz B g F' s' G' (N + 1) er w' ∧ Step F F' w w' ∧ BytR a s G ys e' s' G' := by
  have hBs : B ≤ w.heap.size := Nat.le_of_lt (Nat.lt_of_le_of_lt (h.lt g h.own).1 (h.lt g h.own).2)
  obtain ⟨W, hW⟩ : ∃ W, W = w.alloc (.cells (av A n c a) 45) := ⟨_, rfl⟩
  have hk1 : Keeps (fun _ => False) w W := by
    rw [hW]
    exact (Keeps.refl _ _).alloc _
  obtain ⟨q, hqe⟩ : ∃ q, q = w.heap.size := ⟨_, rfl⟩
  have HBX : Hid (Blk W q 45 (av A n c a)) := by
    show Blk _ _ _ _
    rw [hW, hqe]
    exact Blk.new w 45 (av A n c a)
  have hQF : ∀ k, F k → k ≠ q := fun k hk e => by
    have := (h.lt k hk).2
    omega
  have HKA : Hid (∀ W1, Keeps (fun _ => False) w W1 → Calls Tryz.prog 32 #[.pointer (some ⟨g, 2, none⟩), .agg (av A n c a)] W1 fun r w' => r = .returned (.int .i64 (chkA a)) ∧ Keeps (fun _ => False) W1 w') := by
    intro W1 k
    obtain ⟨o, br, bb, mb, mc, P, h1, hF⟩ := h.more k
    exact arrays_ B g 2 _ N mc A n c a W1 (ht.more hBs k) (Nat.le_trans hBs k.size) (h1.blk.cell 2) h1.blk.lt h1.kept (hL.more k) hf
  have HNU := Lib.hid (fun W1 (k : Keeps (fun _ => False) w W1) => number_ A n c a.d 0 1048576 W1 (ht.more hBs k) (h.more k) hN (hL.more k) hf hE)
  have HH := Lib.hid h
  have HK1 := Lib.hid hk1
  have HQF := Lib.hid hQF
  obtain ⟨ck, hck⟩ : ∃ ck, chkA a = ck := ⟨_, rfl⟩
  rw [hck] at HKA
  have HCK := Lib.hid hck
  have HS := Lib.hid hS
  have hci := hck
  clear h hL hf hE ht hBs hk1 hQF hck hS
  obtain ⟨⟨K, Bl, L, le, bi⟩, K2, B2, S2⟩ := a
  unfold av at HBX HKA hW ⊢
  unfold dv at HNU
  simp only at HBX HKA HNU hW HCK HS hci ⊢
  have x0 := HBX.out.cell 0
  have x1 := HBX.out.cell 1
  have x2 := HBX.out.cell 2
  have x3 := HBX.out.cell 3
  have x4 := HBX.out.cell 4
  have x5 := HBX.out.cell 5
  have x6 := HBX.out.cell 6
  have x7 := HBX.out.cell 7
  simp only [List.getElem?_toArray, List.getElem?_cons_zero, List.getElem?_cons_succ] at x0 x1 x2 x3 x4 x5 x6 x7
  go_enter Tryz.func49, Tryz.ntmps49
  go_upto_region 1 with fail
  rw [← hqe, ← hW]
  clear hqe hW
  have HG : Hid (∀ W1, Keeps (fun _ => False) W W1 → (W1.cell? ⟨q, 0, none⟩ = some (.int .u8 K) ∧ W1.cell? ⟨q, 1, none⟩ = some (.int .i64 Bl) ∧ W1.cell? ⟨q, 2, none⟩ = some (.slice A n c) ∧ W1.cell? ⟨q, 3, none⟩ = some (.int .i64 le) ∧ W1.cell? ⟨q, 4, none⟩ = some (.int .i64 bi) ∧ W1.cell? ⟨q, 5, none⟩ = some (.int .u8 K2) ∧ W1.cell? ⟨q, 6, none⟩ = some (.int .i64 B2) ∧ W1.cell? ⟨q, 7, none⟩ = some (.int .u8 S2))) := by
    intro W1 k
    have h0 := HBX.out.keeps k id
    exact ⟨h0.cell 0, h0.cell 1, h0.cell 2, h0.cell 3, h0.cell 4, h0.cell 5, h0.cell 6, h0.cell 7⟩
  go_region_held3 (fun w' => w'.cell? ⟨q, 0, none⟩ = some (.int .u8 K) ∧ w'.cell? ⟨q, 1, none⟩ = some (.int .i64 Bl) ∧ w'.cell? ⟨q, 2, none⟩ = some (.slice A n c) ∧ w'.cell? ⟨q, 3, none⟩ = some (.int .i64 le) ∧ w'.cell? ⟨q, 4, none⟩ = some (.int .i64 bi) ∧ w'.cell? ⟨q, 5, none⟩ = some (.int .u8 K2) ∧ w'.cell? ⟨q, 6, none⟩ = some (.int .i64 B2) ∧ w'.cell? ⟨q, 7, none⟩ = some (.int .u8 S2)) (go_keep)
    ((have H := HKA; go_at_call 32; refine (H.out _ (HK1.out.drewN 1)).mono ?_; rintro r w1 ⟨rfl, hk1'⟩; have hk1 : Keeps (fun _ => False) W w1 := hk1'.of_drew; obtain ⟨y0, y1, y2, y3, y4, y5, y6, y7⟩ := HG.out w1 hk1; have HK2 := Lib.hid hk1; clear hk1 hk1' HKA))
  have HK3 := Lib.hid (HK1.out.trans HK2.out)
  by_cases h0 : ck = 0
  · subst h0
    have hkk : (K2 = 4 ∧ 1 ≤ B2 ∧ B2 ≤ 60000) ∨ (K2 = 5 ∧ 1 ≤ B2 ∧ B2 ≤ 60000) := by
      have := chkA_ok HCK.out
      simp only at this
      omega
    rcases hkk with ⟨rfl, hb1, hb2⟩ | ⟨rfl, hb1, hb2⟩
    · obtain ⟨i, rfl⟩ := Int.eq_ofNat_of_zero_le (show 0 ≤ B2 by omega)
      go_wp2_with fail
      refine (HNU.out _ HK3.out).mono ?_
      rintro r w2 ⟨F2, m, e1, s2, G2, rfl, h2, hs2, hr2⟩
      have H2 := Lib.hid h2
      have HS2 := Lib.hid (Step.pre HK3.out hs2)
      have HR2 := Lib.hid hr2
      have HX2 := Lib.hid (Blk.keeps (HBX.out.keeps HK2.out id) hs2.keeps (fun e => HQF.out q e rfl))
      clear h2 hs2 hr2 HNU
      by_cases h1 : e1 = 0
      · subst h1
        obtain ⟨o, br, bb, mb, mc, P, hln, hF⟩ := H2.out
        have hc1 : w2.cell? ⟨g, 1, none⟩ = some (.map (some mb)) := hln.blk.cell 1
        have HLK := Lib.hid (fun W' (k : Keeps (fun _ => False) w2 W') => (hln.keeps k fun _ _ => id).map.look int_ks Tryz.underlying105 (zero_ir W') (show i < 60001 by omega))
        have HLN := Lib.hid hln
        have HF := Lib.hid hF
        have z5 := HX2.out.cell 5
        have z6 := HX2.out.cell 6
        have z7 := HX2.out.cell 7
        simp only [List.getElem?_toArray, List.getElem?_cons_zero, List.getElem?_cons_succ] at z5 z6 z7
        clear hln hF
        cases hG : G2 i with
        | none =>
          have hlk2 : ∀ W', Keeps (fun _ => False) w2 W' → (Instr.lookup 105 (.map (some mb)) (.int .i64 (i : Int)) true).run Tryz.prog W' = .ok (.tuple #[.agg #[.pointer none], .bool false]) W' := fun W' k => (by have hlk := ((HLK.out W' k).2 (by rw [hG]; rfl)).2; unfold ikv at hlk; exact hlk)
          have HGI := Lib.hid hG
          clear hG HLK
          go_upto_region 10 with fail
          go_region_held3 (fun w' => w'.cell? ⟨q, 6, none⟩ = some (.int .i64 (i : Int)) ∧ w'.cell? ⟨g, 1, none⟩ = some (.map (some mb)) ∧ Keeps (fun _ => False) w2 w') ((refine ⟨by go_keep, by go_keep, ?_⟩; first | exact (Keeps.refl _ _).drewN 1 | exact ((Keeps.refl _ _).alloc _).drewN 1 | exact (((Keeps.refl _ _).drewN 1).alloc _) | exact (((Keeps.refl _ _).alloc _).drewN 1).setCell (.inr (Nat.le_refl _)) _))
            (fail)
          all_goals go_wp2
          all_goals go_ret2
          all_goals exact ⟨F2, none, 0, 0, [], 11, s2, G2, rfl, rfl, .inl rfl, (fun b x e => by cases e), H2.out.more (((Keeps.refl _ _).alloc _).drewN 1), HS2.out.more (((Keeps.refl _ _).alloc _).drewN 1), .inr (.inl ⟨HCK.out, rfl, m, 0, G2, HR2.out, .inr ⟨rfl, GetR.none_ HGI.out⟩⟩)⟩
        | some r =>
          obtain ⟨_, hrd, hall⟩ := HLN.out.rds i r hG
          obtain ⟨g', hg'⟩ : ∃ g', (P i).2 = g' := ⟨_, rfl⟩
          have hlk2 : ∀ W', Keeps (fun _ => False) w2 W' → (Instr.lookup 105 (.map (some mb)) (.int .i64 (i : Int)) true).run Tryz.prog W' = .ok (.tuple #[.agg #[.pointer (some ⟨g', 0, none⟩)], .bool true]) W' := fun W' k => (by have hlk := ((HLK.out W' k).1 (rd (P i).2) (by rw [hG]; rfl)).2; unfold ikv rd at hlk; rw [hg'] at hlk; exact hlk)
          have HGI := Lib.hid hG
          have HGE := Lib.hid hg'
          have HGL : Hid (g' < w2.heap.size) := by show g' < _; rw [← hg']; exact hrd.lt
          have HOF : Hid (Ft o (P i).2) := by show Ft o _; rw [Ft, hall _ (rd_le hrd) (Nat.le_refl _)]; simp
          have hkX : Keeps (fun _ => False) w2 ((w2.alloc (.cells #[.pointer (some ⟨g', 0, none⟩)] 110)).drew) := ((Keeps.refl _ _).alloc _).drewN 1
          have hBX : Blk ((w2.alloc (.cells #[.pointer (some ⟨g', 0, none⟩)] 110)).drew) w2.heap.size 110 #[.pointer (some ⟨g', 0, none⟩)] := Blk.new w2 110 #[.pointer (some ⟨g', 0, none⟩)]
          have HBT := Lib.hid (Wr.bytes (P i).2 r (P i).1 m _ (hrd.keeps hkX fun _ _ => id))
          obtain ⟨pr, hpr⟩ : ∃ pr, r.many m = pr := ⟨_, rfl⟩
          rw [hpr] at HBT
          have HPR := Lib.hid hpr
          have hqX := HX2.out.keeps hkX id
          have t5 : (w2.alloc (.cells #[.pointer (some ⟨g', 0, none⟩)] 110)).cell? ⟨q, 5, none⟩ = some (.int .u8 4) := hqX.cell 5
          have t7 : (w2.alloc (.cells #[.pointer (some ⟨g', 0, none⟩)] 110)).cell? ⟨q, 7, none⟩ = some (.int .u8 S2) := hqX.cell 7
          have HKX := Lib.hid hkX
          have HBX2 := Lib.hid hBX
          rw [hg'] at HBT
          clear hG HLK hg' hrd hall hkX hBX hqX hpr
          go_upto_region 10 with fail
          go_region_held3 (fun w' => w'.cell? ⟨q, 6, none⟩ = some (.int .i64 (i : Int)) ∧ w'.cell? ⟨g, 1, none⟩ = some (.map (some mb)) ∧ Keeps (fun _ => False) w2 w') ((refine ⟨by go_keep, by go_keep, ?_⟩; first | exact (Keeps.refl _ _).drewN 1 | exact ((Keeps.refl _ _).alloc _).drewN 1 | exact (((Keeps.refl _ _).drewN 1).alloc _) | exact (((Keeps.refl _ _).alloc _).drewN 1).setCell (.inr (Nat.le_refl _)) _))
            (fail)
          all_goals (
            go_wp2_with fail
            refine HBT.out.mono ?_
            rintro r5 w5 ⟨A5, c5, rfl, hv5, hr5, hk5⟩
            have hx5 : w5.cell? ⟨w2.heap.size, 0, none⟩ = some (.pointer (some ⟨g', 0, none⟩)) := (HBX2.out.keeps hk5 (fun e => by have := HGL.out; omega)).cell 0
            have HER := Lib.hid (Wr.err g' pr.2 (P i).1 w5 hr5)
            have HR5 := Lib.hid hr5
            have HK5 := Lib.hid hk5
            have HV5 := Lib.hid (Lies.of_own hv5)
            have HVB : Hid (∀ b x, A5 = some ⟨b, x, none⟩ → w2.heap.size ≤ b) := fun b x e => (by subst e; exact Nat.le_trans HKX.out.size (hv5.lt b rfl).1)
            clear hr5 hk5 hv5 HBT
            go_wp2_with fail
            refine HER.out.mono ?_
            rintro r6 w6 ⟨rfl, rfl⟩
            go_wp2
            go_ret2
            have hl2 := (HLN.out.keeps HKX.out fun _ _ => id).rd' HGI.out (r' := pr.2) (by rw [HGE.out]; exact HR5.out) (by rw [HGE.out]; exact HK5.out)
            exact ⟨F2, A5, _, c5, pr.1, pr.2.e, s2, _, rfl, rfl, HV5.out, (fun b x e hFb => by have h1 := HVB.out b x e; have h2 := (H2.out.lt b hFb).2; omega), ⟨o, br, bb, mb, mc, P, hl2, HF.out⟩, (HS2.out.more HKX.out).trans ⟨HK5.out.mono fun k _ e => by rw [e, ← HGE.out]; exact (HF.out _).2 HOF.out, fun _ => .inl⟩, .inr (.inl ⟨HCK.out, rfl, m, 0, G2, HR2.out, .inr ⟨rfl, by rw [← HPR.out]; exact GetR.some_ HGI.out⟩⟩)⟩)
      · have hne : (e1 != 0) = true := by simpa using h1
        go_wp2
        go_ret2
        exact ⟨F2, none, 0, 0, [], e1, s2, G2, rfl, rfl, .inl rfl, (fun b x e => by cases e), H2.out, HS2.out, .inr (.inl ⟨HCK.out, rfl, m, e1, G2, HR2.out, .inl ⟨h1, rfl, rfl, rfl⟩⟩)⟩
    · obtain ⟨i, rfl⟩ := Int.eq_ofNat_of_zero_le (show 0 ≤ B2 by omega)
      have H2 := Lib.hid ((HH.out.more HK3.out).le (show N ≤ N + 1 by omega))
      have HS2 : Hid (Step F F w w1) := Step.quiet HK3.out
      have HX2 := Lib.hid (HBX.out.keeps HK2.out id)
      clear HNU
      obtain ⟨o, br, bb, mb, mc, P, hln, hF⟩ := H2.out
      have hc1 : w1.cell? ⟨g, 1, none⟩ = some (.map (some mb)) := hln.blk.cell 1
      have HLK := Lib.hid (fun W' (k : Keeps (fun _ => False) w1 W') => (hln.keeps k fun _ _ => id).map.look int_ks Tryz.underlying105 (zero_ir W') (show i < 60001 by omega))
      have HLN := Lib.hid hln
      have HF := Lib.hid hF
      have z5 := HX2.out.cell 5
      have z6 := HX2.out.cell 6
      have z7 := HX2.out.cell 7
      simp only [List.getElem?_toArray, List.getElem?_cons_zero, List.getElem?_cons_succ] at z5 z6 z7
      clear hln hF
      cases hG : G i with
      | none =>
        have hlk2 : ∀ W', Keeps (fun _ => False) w1 W' → (Instr.lookup 105 (.map (some mb)) (.int .i64 (i : Int)) true).run Tryz.prog W' = .ok (.tuple #[.agg #[.pointer none], .bool false]) W' := fun W' k => (by have hlk := ((HLK.out W' k).2 (by rw [hG]; rfl)).2; unfold ikv at hlk; exact hlk)
        have HGI := Lib.hid hG
        clear hG HLK
        go_upto_region 10 with fail
        go_region_held3 (fun w' => w'.cell? ⟨q, 6, none⟩ = some (.int .i64 (i : Int)) ∧ w'.cell? ⟨g, 1, none⟩ = some (.map (some mb)) ∧ Keeps (fun _ => False) w1 w') ((refine ⟨by go_keep, by go_keep, ?_⟩; first | exact (Keeps.refl _ _).drewN 1 | exact ((Keeps.refl _ _).alloc _).drewN 1 | exact (((Keeps.refl _ _).drewN 1).alloc _) | exact (((Keeps.refl _ _).alloc _).drewN 1).setCell (.inr (Nat.le_refl _)) _))
          (fail)
        all_goals go_wp2
        all_goals go_ret2
        all_goals exact ⟨F, none, 0, 0, [], 11, s, G, rfl, rfl, .inl rfl, (fun b x e => by cases e), H2.out.more (((Keeps.refl _ _).alloc _).drewN 1), HS2.out.more (((Keeps.refl _ _).alloc _).drewN 1), .inr (.inr ⟨HCK.out, rfl, rfl, GetR.none_ HGI.out⟩)⟩
      | some r =>
        obtain ⟨_, hrd, hall⟩ := HLN.out.rds i r hG
        obtain ⟨g', hg'⟩ : ∃ g', (P i).2 = g' := ⟨_, rfl⟩
        have hlk2 : ∀ W', Keeps (fun _ => False) w1 W' → (Instr.lookup 105 (.map (some mb)) (.int .i64 (i : Int)) true).run Tryz.prog W' = .ok (.tuple #[.agg #[.pointer (some ⟨g', 0, none⟩)], .bool true]) W' := fun W' k => (by have hlk := ((HLK.out W' k).1 (rd (P i).2) (by rw [hG]; rfl)).2; unfold ikv rd at hlk; rw [hg'] at hlk; exact hlk)
        have HGI := Lib.hid hG
        have HGE := Lib.hid hg'
        have HGL : Hid (g' < w1.heap.size) := by show g' < _; rw [← hg']; exact hrd.lt
        have HOF : Hid (Ft o (P i).2) := by show Ft o _; rw [Ft, hall _ (rd_le hrd) (Nat.le_refl _)]; simp
        have hkX : Keeps (fun _ => False) w1 ((w1.alloc (.cells #[.pointer (some ⟨g', 0, none⟩)] 110)).drew) := ((Keeps.refl _ _).alloc _).drewN 1
        have hBX : Blk ((w1.alloc (.cells #[.pointer (some ⟨g', 0, none⟩)] 110)).drew) w1.heap.size 110 #[.pointer (some ⟨g', 0, none⟩)] := Blk.new w1 110 #[.pointer (some ⟨g', 0, none⟩)]
        have HBT := Lib.hid (Wr.until_ (P i).2 r (P i).1 S2 _ (hrd.keeps hkX fun _ _ => id) HS.out)
        obtain ⟨pr, hpr⟩ : ∃ pr, r.upto S2 = pr := ⟨_, rfl⟩
        rw [hpr] at HBT
        have HPR := Lib.hid hpr
        have hqX := HX2.out.keeps hkX id
        have t5 : (w1.alloc (.cells #[.pointer (some ⟨g', 0, none⟩)] 110)).cell? ⟨q, 5, none⟩ = some (.int .u8 5) := hqX.cell 5
        have t7 : (w1.alloc (.cells #[.pointer (some ⟨g', 0, none⟩)] 110)).cell? ⟨q, 7, none⟩ = some (.int .u8 S2) := hqX.cell 7
        have HKX := Lib.hid hkX
        have HBX2 := Lib.hid hBX
        rw [hg'] at HBT
        clear hG HLK hg' hrd hall hkX hBX hqX hpr
        go_upto_region 10 with fail
        go_region_held3 (fun w' => w'.cell? ⟨q, 6, none⟩ = some (.int .i64 (i : Int)) ∧ w'.cell? ⟨g, 1, none⟩ = some (.map (some mb)) ∧ Keeps (fun _ => False) w1 w') ((refine ⟨by go_keep, by go_keep, ?_⟩; first | exact (Keeps.refl _ _).drewN 1 | exact ((Keeps.refl _ _).alloc _).drewN 1 | exact (((Keeps.refl _ _).drewN 1).alloc _) | exact (((Keeps.refl _ _).alloc _).drewN 1).setCell (.inr (Nat.le_refl _)) _))
          (fail)
        all_goals (
          go_wp2_with fail
          refine HBT.out.mono ?_
          rintro r5 w5 ⟨A5, c5, rfl, hv5, hr5, hk5⟩
          have hx5 : w5.cell? ⟨w1.heap.size, 0, none⟩ = some (.pointer (some ⟨g', 0, none⟩)) := (HBX2.out.keeps hk5 (fun e => by have := HGL.out; omega)).cell 0
          have HER := Lib.hid (Wr.err g' pr.2 (P i).1 w5 hr5)
          have HR5 := Lib.hid hr5
          have HK5 := Lib.hid hk5
          have HV5 := Lib.hid (Lies.of_own hv5)
          have HVB : Hid (∀ b x, A5 = some ⟨b, x, none⟩ → w1.heap.size ≤ b) := fun b x e => (by subst e; exact Nat.le_trans HKX.out.size (hv5.lt b rfl).1)
          clear hr5 hk5 hv5 HBT
          go_wp2_with fail
          refine HER.out.mono ?_
          rintro r6 w6 ⟨rfl, rfl⟩
          go_wp2
          go_ret2
          have hl2 := (HLN.out.keeps HKX.out fun _ _ => id).rd' HGI.out (r' := pr.2) (by rw [HGE.out]; exact HR5.out) (by rw [HGE.out]; exact HK5.out)
          exact ⟨F, A5, _, c5, pr.1, pr.2.e, s, _, rfl, rfl, HV5.out, (fun b x e hFb => by have h1 := HVB.out b x e; have h2 := (H2.out.lt b hFb).2; omega), ⟨o, br, bb, mb, mc, P, hl2, HF.out⟩, (HS2.out.more HKX.out).trans ⟨HK5.out.mono fun k _ e => by rw [e, ← HGE.out]; exact (HF.out _).2 HOF.out, fun _ => .inl⟩, .inr (.inr ⟨HCK.out, rfl, rfl, by rw [← HPR.out]; exact GetR.some_ HGI.out⟩)⟩)
  · have hne : (ck != 0) = true := by simpa using h0
    go_wp2
    go_ret2
    exact ⟨F, none, 0, 0, [], ck, s, G, rfl, rfl, .inl rfl, (fun b x e => by cases e), (HH.out.more HK3.out).le (by omega), Step.quiet HK3.out, .inl ⟨by rw [HCK.out]; exact h0, rfl, HCK.out.symm, rfl, rfl⟩⟩
end Go.Proofs.YtgaofnmgdefdcaaGreatDoor.Le

namespace Go.Proofs.YtgaofnmgdefdcaaGreatDoor.Le
open Go.RowKit Go.Proofs.YtgaofnmgdefdcaaGreatDoor.Gen Go.Proofs.YtgaofnmgdefdcaaGreatDoor.Mp Go.Proofs.YtgaofnmgdefdcaaGreatDoor.Cm Go.Proofs.YtgaofnmgdefdcaaGreatDoor.Hr Go.Proofs.YtgaofnmgdefdcaaGreatDoor.Hn Go.Proofs.YtgaofnmgdefdcaaGreatDoor.Hk Go.Proofs.YtgaofnmgdefdcaaGreatDoor.Ln Go.Proofs.YtgaofnmgdefdcaaGreatDoor.Ds Go.Proofs.YtgaofnmgdefdcaaGreatDoor.Ky Go.Proofs.YtgaofnmgdefdcaaGreatDoor.Wr Go.Proofs.YtgaofnmgdefdcaaGreatDoor.Ir Go.Proofs.YtgaofnmgdefdcaaGreatDoor.Br Go.Proofs.YtgaofnmgdefdcaaGreatDoor.Qh Go.Proofs.YtgaofnmgdefdcaaGreatDoor.Qs Go.Proofs.YtgaofnmgdefdcaaGreatDoor.Qf Go.Proofs.YtgaofnmgdefdcaaGreatDoor.Qc

/-- The next bytes: what they are, the Lens's error behind them, and the rest. -/
def ArrR (a : E) (s : BS) (G : Rs) (er : Int) (ys : List Int) (e : Int) (s' : BS) (G' : Rs) : Prop :=
  (er ≠ 0 ∧ ys = [] ∧ e = er ∧ s' = s ∧ G' = G) ∨ (er = 0 ∧ ∃ s1, BytR a s G ys e s1 G' ∧ s' = wrS 0 e s1)

set_option maxHeartbeats 8000000 in
set_option maxRecDepth 100000 in
theorem array_ {B g N : Nat} {F : Nat → Prop} {s : BS} {G : Rs} {er : Int} (A : Option Addr) (n c : Nat) (a : E) (w : World) (ht : Tab B w) (h : Lz B g F s G N er w) (hN : N ≤ 1000)
    (hL : Ents w A n a.d.L) (hf : ∀ x ∈ a.d.L, Fits x) (hE : 0 < n → ∀ b x, A = some ⟨b, x, none⟩ → ¬ F b) (hS : 0 ≤ a.S ∧ a.S < 256) :
    Calls Tryz.prog 24 #[.pointer (some ⟨g, 0, none⟩), .agg (av A n c a)] w fun r w' => ∃ F' A2 n2 c2 ys e' s' G', r = .returned (.slice A2 n2 c2) ∧ ys.length = n2 ∧ Lies w' A2 ys ∧ (∀ b x, A2 = some ⟨b, x, none⟩ → ¬ F' b) ∧ Lz B g F' s' G' (N + 1) e' w' ∧ Step F F' w w' ∧ ArrR a s G er ys e' s' G' := by
  have hk1 := (Keeps.refl (fun _ => False) w).alloc (.cells (av A n c a) 45)
  have HE := Lib.hid (err_ _ (h.more hk1))
  have HH := Lib.hid (h.more hk1)
  have hBs : B ≤ w.heap.size := Nat.le_of_lt (Nat.lt_of_le_of_lt (h.lt g h.own).1 (h.lt g h.own).2)
  have HNU := Lib.hid (fun W (k : Keeps (fun _ => False) w W) => bytes_ A n c a W (ht.more hBs k) (h.more k) hN (hL.more k) hf hE hS)
  have HK1 := Lib.hid hk1
  have HD : Hid (∀ ys e s1 G', BytR a s G ys e s1 G' → er = 0 → ArrR a s G er ys e (wrS 0 e s1) G') := fun ys e s1 G' h h0 => .inr ⟨h0, s1, h, rfl⟩
  have HD0 : Hid (er ≠ 0 → ArrR a s G er [] er s G) := fun h0 => .inl ⟨h0, rfl, rfl, rfl, rfl⟩
  clear h hL hf hE ht hBs hk1 hS
  generalize ArrR a = R at HD HD0 ⊢
  generalize BytR a = R2 at HD HNU
  obtain ⟨⟨K, Bl, L, le, bi⟩, K2, B2, S2⟩ := a
  unfold av at HE HH HNU HK1 ⊢
  simp only at HE HH HNU HK1 ⊢
  by_cases h0 : er = 0
  · subst h0
    go_enter Tryz.func24, Tryz.ntmps24
    go_wp2_with fail
    refine HE.out.mono ?_
    rintro r w1 ⟨rfl, rfl⟩
    go_wp2_with fail
    refine (HNU.out _ HK1.out).mono ?_
    rintro r w2 ⟨F2, A2, n2, c2, ys, e2, s2, G2, rfl, hn2, hl2, hb2, h2, hs2, hr2⟩
    have HW2 := Lib.hid (wrong_ e2 w2 h2)
    have HS2 := Lib.hid (Step.pre HK1.out hs2)
    have HR2 := Lib.hid hr2
    have HN2 := Lib.hid hn2
    have HL2 := Lib.hid hl2
    have HB2 := Lib.hid hb2
    have H2 := Lib.hid h2
    clear h2 hs2 hr2 hn2 hl2 hb2 HNU
    go_wp2_with fail
    refine HW2.out.mono ?_
    rintro r w3 ⟨rfl, h3, hs3⟩
    have H3 := Lib.hid h3
    have HS3 := Lib.hid hs3
    clear h3 hs3
    go_wp2
    go_ret
    have e1 : wrE 0 e2 = e2 := by simp [wrE]
    have h3 := H3.out
    rw [e1] at h3
    exact ⟨F2, A2, n2, c2, ys, e2, _, G2, rfl, HN2.out, HL2.out.keeps HS3.out.keeps (fun b x e => HB2.out b x e), HB2.out, h3, HS2.out.trans HS3.out, HD.out ys e2 s2 G2 HR2.out trivial⟩
  · have hne : (er != 0) = true := by simpa using h0
    go_enter Tryz.func24, Tryz.ntmps24
    go_wp2_with fail
    refine HE.out.mono ?_
    rintro r w1 ⟨rfl, rfl⟩
    go_wp2
    go_ret
    exact ⟨F, none, 0, 0, [], er, s, G, rfl, rfl, .inl rfl, (fun b x e => by cases e), HH.out.le (by omega), Step.quiet HK1.out, HD0.out h0⟩

theorem within_nil (d : Array Value) (fr up : Int) (w : World) : Calls Tryz.prog 25 #[.pointer none, .agg d, .int .i64 fr, .int .i64 up] w fun r w' => r = .returned (.int .i64 0) ∧ Keeps (fun _ => False) w w' := by
  have HE := Lib.hid (fun W => err_nil W)
  have HK := Lib.hid ((Keeps.refl (fun _ => False) w).alloc (.cells d 43))
  go_enter Tryz.func25, Tryz.ntmps25
  go_wp2_with fail
  refine (HE.out _).mono ?_
  rintro r w1 ⟨rfl, rfl⟩
  go_wp2
  go_ret
  exact ⟨rfl, HK.out⟩
theorem array_nil (d : Array Value) (w : World) : Calls Tryz.prog 24 #[.pointer none, .agg d] w fun r w' => r = .returned (.slice none 0 0) ∧ Keeps (fun _ => False) w w' := by
  have HE := Lib.hid (fun W => err_nil W)
  have HK := Lib.hid ((Keeps.refl (fun _ => False) w).alloc (.cells d 45))
  go_enter Tryz.func24, Tryz.ntmps24
  go_wp2_with fail
  refine (HE.out _).mono ?_
  rintro r w1 ⟨rfl, rfl⟩
  go_wp2
  go_ret
  exact ⟨rfl, HK.out⟩
theorem int_nil (K Bl le bi : Int) (A : Option Addr) (n c : Nat) (w : World) : Calls Tryz.prog 28 #[.pointer none, .agg #[.int .u8 K, .int .i64 Bl, .slice A n c, .int .i64 le, .int .i64 bi]] w fun r w' => r = .returned (.int .i64 0) ∧ Keeps (fun _ => False) w w' := by
  have HW := Lib.hid (fun W => within_nil #[.int .u8 K, .int .i64 Bl, .slice A n c, .int .i64 le, .int .i64 bi] (-2147483647) 2147483647 W)
  have HK := Lib.hid ((Keeps.refl (fun _ => False) w).alloc (.cells #[.int .u8 K, .int .i64 Bl, .slice A n c, .int .i64 le, .int .i64 bi] 43))
  go_enter Tryz.func28, Tryz.ntmps28
  go_wp2_with fail
  refine (HW.out _).mono ?_
  rintro r w1 ⟨rfl, hk⟩
  have HK1 := Lib.hid (HK.out.trans hk)
  clear hk
  go_wp2
  go_ret
  exact ⟨rfl, HK1.out⟩
theorem end_nil (w : World) : Calls Tryz.prog 27 #[.pointer none] w fun r w' => r = .returned (.int .i64 1) ∧ w' = w := by
  have HE := Lib.hid (fun W => err_nil W)
  go_enter Tryz.func27, Tryz.ntmps27
  go_wp2_with fail
  refine (HE.out _).mono ?_
  rintro r w1 ⟨rfl, rfl⟩
  go_wp2
  go_ret
  exact ⟨rfl, rfl⟩
end Go.Proofs.YtgaofnmgdefdcaaGreatDoor.Le

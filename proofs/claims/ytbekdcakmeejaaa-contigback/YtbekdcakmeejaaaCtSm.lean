/- The statements' own contigs by small numbers (Small.Ref). -/
import Derived.Test.YtbekdcakmeejaaaCtPar
namespace Go.Proofs.Ytbekdcakmeejaaa.Ct
open Go.RowKit Go.Proofs.Ytbekdcakmeejaaa.Gen Go.Proofs.Ytbekdcakmeejaaa.Ca Go.Proofs.Ytbekdcakmeejaaa.Cl

/-! ### plain -/
def rnd (n : Nat) : Nat := (n * 1664525 + 1013904223) % 4294967296
def ltOf (n : Nat) : Int := [65, 67, 71, 84, 78].getD (n / 65536 % 37 % 5) 65
def its (n : Nat) : Nat → Nat
  | 0 => n
  | k + 1 => rnd (its n k)
def letters (n k : Nat) : List Int := (List.range k).map fun j => ltOf (its n (j + 1))
theorem letters_len (n k : Nat) : (letters n k).length = k := by simp [letters]
theorem letters_succ (n k : Nat) : letters n (k + 1) = letters n k ++ [ltOf (its n (k + 1))] := by simp [letters, List.range_succ]
theorem ltOf_ltr (n : Nat) : ltr (ltOf n) = true := by
  have h : n / 65536 % 37 % 5 < 5 := Nat.mod_lt _ (by decide)
  unfold ltOf
  generalize n / 65536 % 37 % 5 = q at h ⊢
  match q, h with
  | 0, _ => rfl
  | 1, _ => rfl
  | 2, _ => rfl
  | 3, _ => rfl
  | 4, _ => rfl
theorem ltr_byt {x : Int} (h : ltr x = true) : 0 ≤ x ∧ x < 256 := by simp [ltr] at h; omega
theorem letters_all (n k : Nat) : (letters n k).all ltr = true := by
  rw [List.all_eq_true]
  intro x hx
  simp only [letters, List.mem_map] at hx
  obtain ⟨j, _, rfl⟩ := hx
  exact ltOf_ltr _
theorem all_byt {xs : List Int} (h : xs.all ltr = true) : Byt xs := by
  rw [List.all_eq_true] at h
  exact fun x hx => ltr_byt (h x hx)
/-- Small numbers: how many, how long, the seed. -/
structure Sml where
  K : Nat
  l0 : Nat
  l1 : Nat
  l2 : Nat
  l3 : Nat
  seed : Nat
def Sml.L (s : Sml) : Nat → Nat
  | 0 => s.l0
  | 1 => s.l1
  | 2 => s.l2
  | _ => s.l3
def Sml.ok (s : Sml) : Prop := s.K < 256 ∧ s.l0 < 256 ∧ s.l1 < 256 ∧ s.l2 < 256 ∧ s.l3 < 256 ∧ s.seed < 4294967296
def Sml.n (s : Sml) : Nat := 1 + s.K % 4
def Sml.len (s : Sml) (i : Nat) : Nat := 20 + s.L i % 100
def Sml.st (s : Sml) : Nat → Nat
  | 0 => s.seed
  | i + 1 => its (s.st i) (s.len i)
def nmOf : Nat → List Int
  | 0 => [99, 49]
  | 1 => [99, 104, 114, 88]
  | 2 => [97]
  | _ => [122, 33, 57]
def Sml.ps (s : Sml) (k : Nat) : List Pr := (List.range k).map fun i => (nmOf i, letters (s.st i) (s.len i))
theorem ps_len (s : Sml) (k : Nat) : (s.ps k).length = k := by simp [Sml.ps]
theorem ps_succ (s : Sml) (k : Nat) : s.ps (k + 1) = s.ps k ++ [(nmOf k, letters (s.st k) (s.len k))] := by simp [Sml.ps, List.range_succ]
theorem len_le (s : Sml) (i : Nat) : 20 ≤ s.len i ∧ s.len i ≤ 119 := by
  have := Nat.mod_lt (s.L i) (show 0 < 100 by decide)
  unfold Sml.len
  omega
theorem its_lt (n : Nat) (h : n < 4294967296) : ∀ k, its n k < 4294967296
  | 0 => h
  | k + 1 => Nat.mod_lt _ (by decide)
theorem st_lt (s : Sml) (h : s.ok) : ∀ i, s.st i < 4294967296
  | 0 => h.2.2.2.2.2
  | i + 1 => its_lt _ (st_lt s h i) _
def Sml.cells (s : Sml) : Array Value := #[.int .u8 (s.K : Int), .int .u8 (s.l0 : Int), .int .u8 (s.l1 : Int), .int .u8 (s.l2 : Int), .int .u8 (s.l3 : Int), .int .u32 (s.seed : Int)]

/-! ### in memory -/
/-- Contigs in rows of one's own, each apart from the others. -/
structure Mine (base : Nat) (A : Option Addr) (n c : Nat) (es : List Ct) (w : World) : Prop where
  own : w.ownsRow base 33 2 (.slice A n c) n (cvs es)
  el : es.length = n
  good : ∀ e ∈ es, Good w e ∧ w.ownsRow base 5 1 e.v e.sq.length (bv e.sq)
  apart : es.Pairwise fun e f => ∀ b, e.v.ownBlock = some b → f.v.ownBlock ≠ some b
theorem Mine.isRef {base n c : Nat} {A : Option Addr} {es : List Ct} {w : World} (h : Mine base A n c es w) (hn : n ≤ 3000000) : IsRef w A n es := isRef_own h.own h.el hn fun e he => (h.good e he).1
theorem Mine.keeps {S : Nat → Prop} {base n c : Nat} {A : Option Addr} {es : List Ct} {w w1 : World} (h : Mine base A n c es w) (k : Keeps S w w1) (hS : ∀ b, base ≤ b → ¬ S b) : Mine base A n c es w1 := by
  refine ⟨own_keeps h.own k (fun b hb => hS b (h.own.lt b hb).1), h.el, fun e he => ?_, h.apart⟩
  have hg := h.good e he
  have o := own_keeps hg.2 k (fun b hb => hS b (hg.2.lt b hb).1)
  exact ⟨⟨Lies.of_own o, hg.1.bs, hg.1.bn, hg.1.ls, hg.1.ln⟩, o⟩
theorem Mine.more {base n c : Nat} {A : Option Addr} {es : List Ct} {w w1 : World} (h : Mine base A n c es w) (k : Keeps (fun _ => False) w w1) : Mine base A n c es w1 := h.keeps k (fun _ _ => id)
theorem Mine.base {base base' n c : Nat} {A : Option Addr} {es : List Ct} {w : World} (h : Mine base A n c es w) (hb : base' ≤ base) : Mine base' A n c es w :=
  ⟨own_base h.own hb, h.el, fun e he => ⟨(h.good e he).1, own_base (h.good e he).2 hb⟩, h.apart⟩
theorem Mine.none_ (base : Nat) (w : World) : Mine base none 0 0 [] w := ⟨World.ownsRow_nil _ _ _ _, rfl, fun e he => (by cases he), List.Pairwise.nil⟩
/-- What Small.Ref answers. -/
def MadeRef (s : Sml) (w : World) (r : Ending) (w' : World) : Prop :=
  ∃ A c es, r = .returned (.agg #[.slice A s.n c]) ∧ Mine w.heap.size A s.n c es w' ∧ pairs es = s.ps s.n ∧ Keeps (fun _ => False) w w'
/-- While contigs come. -/
structure SmS (s : Sml) (i : Nat) (B : Option Addr) (cb : Nat) (es : List Ct) (w wr : World) : Prop where
  arg : Blk wr w.heap.size 25 s.cells
  res : Blk wr (w.heap.size + 1) 29 #[.slice none 0 0]
  ref : Blk wr (w.heap.size + 2) 29 #[.slice B i cb]
  mine : Mine (w.heap.size + 3) B i cb es wr
  prs : pairs es = s.ps i
  keeps : Keeps (fun _ => False) w wr
  base_ : w.heap.size + 3 ≤ wr.heap.size
theorem SmS.more {s : Sml} {i cb : Nat} {B : Option Addr} {es : List Ct} {w wr w1 : World} (h : SmS s i B cb es w wr) (k : Keeps (fun _ => False) wr w1) : SmS s i B cb es w w1 :=
  ⟨h.arg.keeps k id, h.res.keeps k id, h.ref.keeps k id, h.mine.more k, h.prs, h.keeps.trans k, Nat.le_trans h.base_ k.size⟩
/-- While letters come. -/
structure InS (X : Nat) (S : Value) (acc : List Int) (A : Option Addr) (j c : Nat) (w0 wr : World) : Prop where
  box : Blk wr X 33 #[S, .slice A j c]
  own : wr.ownsRow (X + 1) 5 1 (.slice A j c) j (bv acc)
  keeps : Keeps (fun _ => False) w0 wr
  base_ : X + 1 ≤ wr.heap.size
theorem SmS.put {s : Sml} {i cb cb' X : Nat} {B B' : Option Addr} {es : List Ct} {w w3 w6 : World} (h : SmS s i B cb es w w3) (E : Ct)
    (hown : w3.ownsRow (X + 1) 5 1 E.v E.sq.length (bv E.sq)) (hX : w.heap.size + 3 ≤ X) (hb : Byt E.sq) (hl : E.sq.length ≤ 3000000) (hap : ∀ e ∈ es, ∀ b, e.v.ownBlock = some b → E.v.ownBlock ≠ some b)
    (hp : E.p = (nmOf i, letters (s.st i) (s.len i)))
    (ho : w6.ownsRow (w.heap.size + 3) 33 2 (.slice B' (i + 1) cb') (i + 1) (cvs (es ++ [E]))) (hg : w3.grownBy w6 (Value.slice B i cb).ownBlock) :
    SmS s (i + 1) B' cb' (es ++ [E]) w (w6.setCell ⟨w.heap.size + 2, 0, none⟩ (.slice B' (i + 1) cb')) := by
  have hmo := h.mine.own
  have r6 : Blk w6 (w.heap.size + 2) 29 #[.slice B i cb] := h.ref.grown hg (own_ne hmo h.ref (by decide))
  have k6 : Keeps (fun j => (Value.slice B i cb).ownBlock = some j) w3 w6 := (Keeps.refl _ _).grown hg (fun j hj => .inl hj)
  have k7 : Keeps (fun j => j = w.heap.size + 2) w6 (w6.setCell ⟨w.heap.size + 2, 0, none⟩ (.slice B' (i + 1) cb')) := (Keeps.refl _ _).setOwn _ _
  have hE : E.nm = nmOf i := congrArg Prod.fst hp
  have hgE : Good w3 E := ⟨Lies.of_own hown, hb, by
    rw [hE]
    intro x hx
    unfold nmOf at hx
    split at hx <;> simp at hx <;> omega, hl, by
    rw [hE]
    unfold nmOf
    split <;> simp⟩
  have hu : ∀ (e : Ct), Good w3 e → w3.ownsRow (w.heap.size + 3) 5 1 e.v e.sq.length (bv e.sq) → Good (w6.setCell ⟨w.heap.size + 2, 0, none⟩ (.slice B' (i + 1) cb')) e ∧ (w6.setCell ⟨w.heap.size + 2, 0, none⟩ (.slice B' (i + 1) cb')).ownsRow (w.heap.size + 3) 5 1 e.v e.sq.length (bv e.sq) := by
    intro e hge hoe
    have o6 := own_keeps hoe k6 (fun b hb => own_apart hoe hmo (by decide) hb)
    have o7 := own_keeps o6 k7 (fun b hb e => own_ne o6 r6 (by decide) (by rw [hb, e]))
    exact ⟨⟨Lies.of_own o7, hge.bs, hge.bn, hge.ls, hge.ln⟩, o7⟩
  refine ⟨?_, ?_, r6.setCell 0 _, ⟨own_keeps ho k7 (fun b hb e => own_ne ho r6 (by decide) (by rw [hb, e])), by simp [h.mine.el], ?_, ?_⟩, ?_, ?_, ?_⟩
  · exact (h.arg.keeps k6 (fun e => own_ne hmo h.arg (by decide) e)).setFar (by simp) _
  · exact (h.res.keeps k6 (fun e => own_ne hmo h.res (by decide) e)).setFar (by simp) _
  · intro e he
    rcases List.mem_append.1 he with h1 | h1
    · exact hu e (h.mine.good e h1).1 (h.mine.good e h1).2
    · simp at h1
      subst h1
      exact hu e hgE (own_base hown (by omega))
  · refine List.pairwise_append.2 ⟨h.mine.apart, List.pairwise_singleton _ _, fun e he f hf => ?_⟩
    simp at hf
    subst hf
    exact hap e he
  · rw [ps_succ, ← h.prs, ← hp]
    simp [pairs]
  · exact (h.keeps.grown hg (fun j hj => .inr (by have := (hmo.lt j hj).1; omega))).setCell (.inr (by simp)) _
  · have := h.base_
    have := hg.size
    simp [World.setCell]
    omega
theorem q37_cast (n q : Nat) (h : n / 65536 % 37 = q) : ((n : Int) / 65536).tmod 37 = (q : Int) := by
  rw [Int.tmod_eq_emod_of_nonneg (by omega)]
  omega
theorem q5_cast (n q : Nat) (h : n % 5 = q) : (n : Int).tmod 5 = (q : Int) := by
  rw [Int.tmod_eq_emod_of_nonneg (by omega)]
  omega
theorem lt_at (n : Nat) (x : Int) (q : Nat) (hq : n / 65536 % 37 % 5 = q) (hx : ltOf n = x) (h : q < (⟨#[65, 67, 71, 84, 78]⟩ : ByteArray).size) : (((⟨#[65, 67, 71, 84, 78]⟩ : ByteArray)[q]'h).toNat : Int) = x := by
  have h5 : q < 5 := by rw [← hq]; exact Nat.mod_lt _ (by decide)
  unfold ltOf at hx
  rw [hq] at hx
  match q, h5 with
  | 0, _ => subst hx; rfl
  | 1, _ => subst hx; rfl
  | 2, _ => subst hx; rfl
  | 3, _ => subst hx; rfl
  | 4, _ => subst hx; rfl
set_option maxHeartbeats 16000000 in
set_option maxRecDepth 100000 in
theorem sref_ (s : Sml) (h : s.ok) (w : World) : Calls Try.prog 9 #[.agg s.cells] w (MadeRef s w) := by
  have HOK := Lib.hid h
  have hK := h.1
  have HL : Hid (∀ i, s.len i ≤ 119) := Lib.hid (fun i => (len_le s i).2)
  clear h
  obtain ⟨i0, hi0, hz0, hz1, hz2⟩ := info_parts con_info
  obtain ⟨u0, hu0, hy0, hy1, hy2⟩ := info_parts u8_info
  have HS : Hid (SmS s 0 none 0 [] w (((w.alloc (.cells s.cells 25)).alloc (.cells #[.slice none 0 0] 29)).alloc (.cells #[.slice none 0 0] 29))) := by
    have k1 := (Keeps.refl (fun _ => False) w).alloc (.cells s.cells 25)
    have k2 := k1.alloc (.cells #[.slice none 0 0] 29)
    have k3 := k2.alloc (.cells #[.slice none 0 0] 29)
    have b1 := Blk.new (w.alloc (.cells s.cells 25)) 29 #[.slice none 0 0]
    have b2 := Blk.new ((w.alloc (.cells s.cells 25)).alloc (.cells #[.slice none 0 0] 29)) 29 #[.slice none 0 0]
    rw [show (w.alloc (.cells s.cells 25)).heap.size = w.heap.size + 1 by simp] at b1
    rw [show ((w.alloc (.cells s.cells 25)).alloc (.cells #[.slice none 0 0] 29)).heap.size = w.heap.size + 2 by simp] at b2
    exact ⟨((Blk.new w 25 s.cells).alloc _).alloc _, b1.alloc _, b2, Mine.none_ _ _, rfl, k3, by simp⟩
  obtain ⟨K, l0, l1, l2, l3, seed⟩ := s
  simp only at hK
  unfold Sml.cells at HS ⊢
  simp only at HS ⊢
  obtain ⟨k4, hk4⟩ : ∃ k4, K % 4 = k4 := ⟨_, rfl⟩
  have hk : k4 < 4 := by omega
  have hkm : (K : Int) % 4 = (k4 : Int) := by omega
  have HNN : Hid (Sml.n ⟨K, l0, l1, l2, l3, seed⟩ = 1 + k4) := by show _ = _; simp [Sml.n, hk4]
  clear hk4
  go_enter Try.func9, Try.ntmps9
  go_wp2
  clear hkm
  go_loopw [4, 5, 6, 14] (fun nv _ _ iv wr => ∃ (i : Nat) (B : Option Addr) (cb : Nat) (es : List Ct) (n0 : Nat), nv = .int .u32 (n0 : Int) ∧ iv = .int .i64 (i : Int) ∧ i ≤ 1 + k4 ∧ Hid (Sml.st ⟨K, l0, l1, l2, l3, seed⟩ i = n0) ∧ Hid (SmS ⟨K, l0, l1, l2, l3, seed⟩ i B cb es w wr)) (fun _ _ _ iv _ => 1 + k4 - (intOf iv).toNat)
  case atStart => exact ⟨0, none, 0, [], seed, rfl, rfl, by omega, rfl, HS⟩
  case round =>
    clear HS
    obtain ⟨i, B, cb, es, n0, rfl, rfl, hi, HST, HI⟩ := hrel
    by_cases hlt : i < 1 + k4
    · have hlt' : (i : Int) < 1 + (k4 : Int) := by omega
      have hi4 : (i : Int) < 4 := by omega
      have hig : (0 : Int) ≤ (i : Int) := by omega
      have hin : (i : Int).toNat = i := by omega
      have hiw : IntKind.i64.wrap ((i : Int) + 1) = (i : Int) + 1 := IntWalk.i64_in _ (by omega)
      obtain ⟨S, hS⟩ : ∃ S, strOfNums (nmOf i) = S := ⟨_, rfl⟩
      have hst : (wr.alloc (.cells #[.string ⟨#[99, 49]⟩, .string ⟨#[99, 104, 114, 88]⟩, .string ⟨#[97]⟩, .string ⟨#[122, 33, 57]⟩] 9)).cell? ⟨wr.heap.size, i, none⟩ = some (.string S) := by
        rw [(Blk.new wr 9 _).cell, ← hS]
        have : i < 4 := by omega
        match i, this with
        | 0, _ => rfl
        | 1, _ => rfl
        | 2, _ => rfl
        | 3, _ => rfl
      obtain ⟨li, hli⟩ : ∃ li, Sml.L ⟨K, l0, l1, l2, l3, seed⟩ i = li := ⟨_, rfl⟩
      have hlb : li < 256 := by
        obtain ⟨_, a0, a1, a2, a3, _⟩ := HOK.out
        rw [← hli]
        unfold Sml.L
        split <;> assumption
      have harg : wr.cell? ⟨w.heap.size, 1 + i, none⟩ = some (.int .u8 (li : Int)) := by
        have hb := HI.out.arg
        unfold Sml.cells at hb
        rw [hb.cell, ← hli]
        have : i < 4 := by omega
        match i, this with
        | 0, _ => rfl
        | 1, _ => rfl
        | 2, _ => rfl
        | 3, _ => rfl
      obtain ⟨q, hq⟩ : ∃ q, li % 100 = q := ⟨_, rfl⟩
      have hqm : (li : Int) % 100 = (q : Int) := by omega
      have HLEN : Hid (Sml.len ⟨K, l0, l1, l2, l3, seed⟩ i = 20 + q) := by show _ = _; simp [Sml.len, hli, hq]
      have hq100 : q < 100 := by omega
      have k1 := (Keeps.refl (fun _ => False) wr).alloc (.cells #[.string ⟨#[99, 49]⟩, .string ⟨#[99, 104, 114, 88]⟩, .string ⟨#[97]⟩, .string ⟨#[122, 33, 57]⟩] 9)
      have k2 := k1.alloc (.cells #[.string S, .slice none 0 0] 33)
      have b2 := Blk.new (wr.alloc (.cells #[.string ⟨#[99, 49]⟩, .string ⟨#[99, 104, 114, 88]⟩, .string ⟨#[97]⟩, .string ⟨#[122, 33, 57]⟩] 9)) 33 #[.string S, .slice none 0 0]
      rw [show (wr.alloc (.cells #[.string ⟨#[99, 49]⟩, .string ⟨#[99, 104, 114, 88]⟩, .string ⟨#[97]⟩, .string ⟨#[122, 33, 57]⟩] 9)).heap.size = wr.heap.size + 1 by simp] at b2
      have HK2 := Lib.hid k2
      have HB2 := Lib.hid b2
      have HSS := Lib.hid hS
      have harg2 := (k2.cell (p := ⟨w.heap.size, 1 + i, none⟩) (by have := HI.out.base_; show w.heap.size < _; omega) id).trans harg
      clear k1 k2 b2 hS hli hq harg
      go_upto_region 7 with fail
      have HI2 := Lib.hid (HI.out.more HK2.out)
      generalize hW0 : (wr.alloc (.cells #[.string ⟨#[99, 49]⟩, .string ⟨#[99, 104, 114, 88]⟩, .string ⟨#[97]⟩, .string ⟨#[122, 33, 57]⟩] 9)).alloc (.cells #[.string S, .slice none 0 0] 33) = W0 at *
      have HKW : Hid (Keeps (fun _ => False) wr W0) := HK2
      have HZ : Hid (wr.heap.size + 1 < W0.heap.size) := Lib.hid HB2.out.lt
      clear hW0 HK2
      obtain ⟨X, hX⟩ : ∃ X, wr.heap.size + 1 = X := ⟨_, rfl⟩
      rw [hX] at HB2 HZ ⊢
      have HX := Lib.hid hX
      have HIN : Hid (InS X (.string S) [] none 0 0 wr W0) := ⟨HB2.out, World.ownsRow_nil _ _ _ _, HKW.out, HZ.out⟩
      clear hX hst HB2
      obtain ⟨wo, rfl⟩ : ∃ wo, wo = wr := ⟨_, rfl⟩
      go_wp2
      clear hqm
      go_loopw [4, 29] (fun nv jv w1 => ∃ (j : Nat) (A' : Option Addr) (c' : Nat) (nj : Nat), nv = .int .u32 (nj : Int) ∧ jv = .int .i64 (j : Int) ∧ j ≤ 20 + q ∧ Hid (its n0 j = nj) ∧ Hid (InS X (.string S) (letters n0 j) A' j c' wo w1)) (fun _ jv _ => 20 + q - (intOf jv).toNat)
      case atStart => exact ⟨0, none, 0, n0, rfl, rfl, by omega, rfl, HIN⟩
      case round =>
        clear HIN
        obtain ⟨j, A', c', nj, rfl, rfl, hj, HNJ, HJ⟩ := hrel
        by_cases hjl : j < 20 + q
        · have hjl' : (j : Int) < 20 + (q : Int) := by omega
          have hjw : IntKind.i64.wrap ((j : Int) + 1) = (j : Int) + 1 := IntWalk.i64_in _ (by omega)
          have c1 : wr.cell? ⟨X, 1, none⟩ = some (.slice A' j c') := HJ.out.box.cell 1
          obtain ⟨nk, hnk⟩ : ∃ nk, rnd nj = nk := ⟨_, rfl⟩
          have hwr : ((nj : Int) * 1664525 % 4294967296 + 1013904223) % 4294967296 = (nk : Int) := by
            rw [← hnk]
            unfold rnd
            omega
          obtain ⟨q5, hq5⟩ : ∃ q5, nk / 65536 % 37 % 5 = q5 := ⟨_, rfl⟩
          obtain ⟨x, hx⟩ : ∃ x, ltOf nk = x := ⟨_, rfl⟩
          have hix := lt_at nk x q5 hq5 hx
          obtain ⟨q37, hq37⟩ : ∃ q37, nk / 65536 % 37 = q37 := ⟨_, rfl⟩
          have hq6 := q37_cast nk q37 hq37
          have hq7 := q5_cast q37 q5 (by rw [← hq37]; exact hq5)
          have hq8 : (q5 : Int) < 5 := by have : q5 < 5 := (by rw [← hq5]; exact Nat.mod_lt _ (by decide)); omega
          have hq9 : q5 < 5 := by omega
          have HNK := Lib.hid hnk
          have HX5 := Lib.hid hx
          have hjb : j ≤ 119 := by omega
          have e1 : (wr.alloc (.cells #[.int .u8 x] 5)).cell? ⟨X, 1, none⟩ = some (.slice A' j c') := (HJ.out.box.alloc _).cell 1
          have HNW : Hid (∀ (k : Nat) u, [Value.int .u8 x][k]? = some u → (wr.alloc (.cells #[.int .u8 x] 5)).cell? ((⟨wr.heap.size, 0, none⟩ : Addr).add k) = some u) := by
            refine Lib.hid fun k u hu => ?_
            rw [add_none, (Blk.new wr 5 #[.int .u8 x]).cell]
            simpa using hu
          have HO2 : Hid ((wr.alloc (.cells #[.int .u8 x] 5)).ownsRow (X + 1) 5 1 (.slice A' j c') j (bv (letters n0 j))) := own_keeps (S := fun _ => False) HJ.out.own ((Keeps.refl _ _).alloc _) (fun _ _ => id)
          clear hnk hx hq5 hq37
          go_upto_region 10 with fail
          go_region_law ((refine step_append_lies _ (by rfl) _ _ _ (by rfl) (X + 1) 5 u0 _ 1 1 Try.underlying31 hu0 hy0 hy1 hy2 rfl (by omega) (.slice A' j c') j (bv (letters n0 j)) (by rfl) (by exact HO2.out) ⟨wr.heap.size, 0, none⟩ 1 1 [.int .u8 x] (by rfl) rfl (by exact HNW.out) (by simp [Value.oneCell']) (by omega) (by simp only [maxLen]; omega) (by omega) (by have := HJ.out.base_; simp; omega) _ rfl ?_
                          intro g3 cap3 w3 hown3 hgrow3 hat3 hlt3
                          have h7 : Blk w3 X 33 #[.string S, .slice A' j c'] := Blk.grown (by exact HJ.out.box.alloc _) hgrow3 (own_ne HJ.out.own HJ.out.box (by decide))
                          have c3 : w3.cell? ⟨X, 1, none⟩ = some (.slice A' j c') := h7.cell 1
                          have d3 : w3.frozen? ⟨X, 1, none⟩ = false := h7.frozen 1
                          have H7 := Lib.hid h7
                          have HO3 := Lib.hid hown3
                          have HG3 := Lib.hid hgrow3
                          clear h7 hown3 hgrow3 hat3 hlt3))
          all_goals go_wp2
          all_goals
            go_roundw
            case rel =>
              refine ⟨j + 1, some ⟨g3, 0, none⟩, cap3, nk, rfl, by go_num, by omega, ?_, ?_⟩
              · show its n0 (j + 1) = nk
                rw [its, HNJ.out, HNK.out]
              · have ho : w3.ownsRow (X + 1) 5 1 (.slice (some ⟨g3, 0, none⟩) (j + 1) cap3) (j + 1) (bv (letters n0 (j + 1))) := by
                  have := HO3.out
                  rw [letters_succ, its, HNJ.out, HNK.out, HX5.out, bv_append]
                  exact this
                have k7 : Keeps (fun b => b = X) w3 (w3.setCell ⟨X, 1, none⟩ (.slice (some ⟨g3, 0, none⟩) (j + 1) cap3)) := (Keeps.refl _ _).setOwn _ _
                have k3 : Keeps (fun _ => False) wo w3 := Keeps.grown (w1 := (wr.alloc (.cells #[.int .u8 x] 5)).drew) (by exact (HJ.out.keeps.alloc _).drewN 1) HG3.out (fun b hb => .inr (by have := (HJ.out.own.lt b hb).1; have := HX.out; omega))
                refine Lib.hid ⟨H7.out.setCell 1 _, own_keeps ho k7 (fun b hb e => own_ne ho H7.out (by decide) (by rw [hb, e])), k3.setCell (.inr (by have := HX.out; show wo.heap.size ≤ X; omega)) _, ?_⟩
                have := H7.out.lt
                simp [World.setCell]
                omega
            case measure => simp [intOf]; omega
        · have HJE : Hid (j = 20 + q) := by show _ = _; omega
          obtain ⟨T, hT⟩ : ∃ T, letters n0 j = T := ⟨_, rfl⟩
          have HI3 := Lib.hid (HI.out.more HJ.out.keeps)
          have c0 : wr.cell? ⟨w.heap.size + 1 + 1, 0, none⟩ = some (.slice B i cb) := HI3.out.ref.cell 0
          have b0 : wr.cell? ⟨X, 0, none⟩ = some (.string S) := HJ.out.box.cell 0
          have b1 : wr.cell? ⟨X, 1, none⟩ = some (.slice A' j c') := HJ.out.box.cell 1
          have HTT := Lib.hid hT
          have HNW := Lib.hid (con_news wr (.string S) (.slice A' j c'))
          have HKA := Lib.hid ((Keeps.refl (fun _ => False) wr).alloc (.cells #[.string S, .slice A' j c'] 33))
          have HI4 := Lib.hid (HI3.out.more HKA.out)
          clear hT
          go_wp2_with (at_builtin
                       refine wpList_append_lies _ rfl (.tmp 46) (.tmp 48) 27 rfl (w.heap.size + 3) 33 i0 _ 2 40 Try.underlying27 hi0 hz0 hz1 hz2 rfl (by omega) (.slice B i cb) i (cvs es) (by rfl) (by exact HI4.out.mine.own) ⟨wr.heap.size, 0, none⟩ 1 1 [.string S, .slice A' j c'] (by rfl) rfl (by exact HNW.out) (by simp [Value.oneCell']) (by omega) (by simp only [maxLen]; omega) (by omega) (by exact HI4.out.base_) _ rfl ?_
                       intro g6 cap6 w6 hown6 hgrow6 hat6 hlt6
                       have h7 : Blk w6 (w.heap.size + 2) 29 #[.slice B i cb] := HI4.out.ref.grown hgrow6 (own_ne HI4.out.mine.own HI4.out.ref (by decide))
                       have f6 : w6.frozen? ⟨w.heap.size + 1 + 1, 0, none⟩ = false := h7.frozen 0
                       have c6 : w6.cell? ⟨w.heap.size + 1 + 1, 0, none⟩ = some (.slice B i cb) := h7.cell 0
                       have HO6 := Lib.hid hown6
                       have HG6 := Lib.hid hgrow6
                       clear h7 hown6 hgrow6 hat6 hlt6)
          have HE := HI4.out.put (E := ⟨nmOf i, A', c', T⟩) (B' := some ⟨g6, 0, none⟩) (cb' := cap6) (w6 := w6) (X := X)
            (by
              have h1 := HJ.out.own
              rw [HTT.out] at h1
              have h2 := own_keeps (S := fun _ => False) h1 HKA.out (fun _ _ => id)
              have hl : T.length = j := by rw [← HTT.out]; exact letters_len _ _
              simp only [Ct.v, hl]
              exact h2)
            (by have := HX.out; have := HI.out.base_; omega)
            (by rw [← HTT.out]; exact all_byt (letters_all _ _))
            (by rw [← HTT.out]; simp only [letters_len]; omega)
            (fun e he b hb hb2 => by
              have hl : T.length = j := by rw [← HTT.out]; exact letters_len _ _
              have hb3 : (Value.slice A' j c').ownBlock = some b := by
                have := hb2
                simp only [Ct.v, hl] at this
                exact this
              have h1 := (HJ.out.own.lt b hb3).1
              have h2 := ((HI.out.mine.good e he).2.lt b hb).2
              have := HX.out
              omega)
            (by
              simp only [Ct.p]
              rw [HLEN.out, HST.out, ← HJE.out, HTT.out])
            (by
              have h1 := HO6.out
              have hl : T.length = j := by rw [← HTT.out]; exact letters_len _ _
              rw [cvs_app]
              simpa [cvs, Ct.v, HSS.out, hl] using h1)
            HG6.out
          have HLE2 := HLEN.out
          go_roundw
          case rel =>
            refine ⟨i + 1, some ⟨g6, 0, none⟩, cap6, es ++ [⟨nmOf i, A', c', T⟩], its n0 j, ?_, by go_num, by omega, ?_, Lib.hid HE⟩
            · rw [HNJ.out]
            · show Sml.st _ (i + 1) = _
              rw [Sml.st, HST.out, HLE2, HJE.out]
          case measure => simp [intOf]; omega
    · have HEE : Hid (i = 1 + k4) := by show _ = _; omega
      have c0 : wr.cell? ⟨w.heap.size + 1 + 1, 0, none⟩ = some (.slice B i cb) := HI.out.ref.cell 0
      have r0 : wr.cell? ⟨w.heap.size + 1, 0, none⟩ = some (.slice none 0 0) := HI.out.res.cell 0
      have r1 : wr.frozen? ⟨w.heap.size + 1, 0, none⟩ = false := HI.out.res.frozen 0
      go_wp2
      have hres : (wr.setCell ⟨w.heap.size + 1, 0, none⟩ (.slice B i cb)).cell? ⟨w.heap.size + 1, 0, none⟩ = some (.slice B i cb) := (HI.out.res.setCell 0 _).cell 0
      refine bodyPost_ret (v := .agg #[.slice B i cb]) (by simp [results, Try.results9, go_sem, hres]) rfl ?_
      have k7 : Keeps (fun j => j = w.heap.size + 1) wr (wr.setCell ⟨w.heap.size + 1, 0, none⟩ (.slice B i cb)) := (Keeps.refl _ _).setOwn _ _
      have hm := (HI.out.mine.keeps k7 (fun b hb e => by omega)).base (base' := w.heap.size) (by omega)
      have hN : i = Sml.n ⟨K, l0, l1, l2, l3, seed⟩ := by rw [HNN.out, HEE.out]
      refine ⟨B, cb, es, by rw [hN], by rw [← hN]; exact hm, ?_, HI.out.keeps.setCell (.inr (by show w.heap.size ≤ w.heap.size + 1; omega)) _⟩
      rw [← hN]
      exact HI.out.prs
end Go.Proofs.Ytbekdcakmeejaaa.Ct

/- codes.Kept.code: the code of entries, found or made and kept; or what huff.New says of them. The condition: strconv's table of tens reads as its text lays it. -/
/- codes.Kept.Ints and Arrays: what Check says of a way; of words the code, too. The condition: strconv's table of tens reads as its text lays it. -/
/- A code's words, asked by number: wordOf, Size, Put; a nil code has none. -/
import Derived.Test.YtgaofnmgdefdcaaGreatDoorJQlFindQlInto
import Derived.Test.YtgaofnmgdefdcaaGreatDoorJKeyShelfHufKey
import Derived.Test.YtgaofnmgdefdcaaGreatDoorDsPutI
import Derived.Deep.RegionHeld3
import Derived.Deep.RegionLaw
import Derived.Test.YtgaofnmgdefdcaaGreatDoorJDsChkDsPut
import Derived.Test.YtgaofnmgdefdcaaGreatDoorJHufNewBitLen
import Derived.Test.YtgaofnmgdefdcaaGreatDoorJBitWrBitPut

namespace Go.Proofs.YtgaofnmgdefdcaaGreatDoor.Qc
open Go.RowKit Go.Proofs.YtgaofnmgdefdcaaGreatDoor.Gen Go.Proofs.YtgaofnmgdefdcaaGreatDoor.Mp Go.Proofs.YtgaofnmgdefdcaaGreatDoor.Cm Go.Proofs.YtgaofnmgdefdcaaGreatDoor.Hr Go.Proofs.YtgaofnmgdefdcaaGreatDoor.Hz Go.Proofs.YtgaofnmgdefdcaaGreatDoor.Hn Go.Proofs.YtgaofnmgdefdcaaGreatDoor.Hk Go.Proofs.YtgaofnmgdefdcaaGreatDoor.Hw Go.Proofs.YtgaofnmgdefdcaaGreatDoor.Ln Go.Proofs.YtgaofnmgdefdcaaGreatDoor.Ss Go.Proofs.YtgaofnmgdefdcaaGreatDoor.St Go.Proofs.YtgaofnmgdefdcaaGreatDoor.Ds Go.Proofs.YtgaofnmgdefdcaaGreatDoor.Ky Go.Proofs.YtgaofnmgdefdcaaGreatDoor.Qh Go.Proofs.YtgaofnmgdefdcaaGreatDoor.Qs Go.Proofs.YtgaofnmgdefdcaaGreatDoor.Qf

/-- strconv's table of tens, in blocks below B. -/
abbrev Tab (B : Nat) (w : World) : Prop := Lib.TabBelow Tryz.prog B w "internal/strconv.uint64pow10" .u64 Lib.pow10Tab
theorem Tab.keeps {B : Nat} {S : Nat → Prop} {w w1 : World} (h : Tab B w) (hB : B ≤ w.heap.size) (k : Keeps S w w1) (hS : ∀ b, S b → B ≤ b) : Tab B w1 := h.on (k.below hB hS)
theorem Tab.more {B : Nat} {w w1 : World} (h : Tab B w) (hB : B ≤ w.heap.size) (k : Keeps (fun _ => False) w w1) : Tab B w1 := h.keeps hB k fun _ hf => hf.elim
theorem key_str (B : Nat) (A : Option Addr) (n c : Nat) (L : List G) (w : World) (hL : Ents w A n L) (hf : ∀ x ∈ L, Fits x) (ht : Tab B w) :
    Calls Tryz.prog 59 #[.slice A n c] w fun r w' => (∃ s : ByteArray, s.size ≤ maxLen ∧ r = .returned (.string s)) ∧ Keeps (fun _ => False) w w' :=
  (key_ A n c L w hL.1 hL.2.1 hL.2.2 hf ht.here).mono fun r w' ⟨h1, h2⟩ => ⟨⟨_, by
    have h3 := keyT_len hf
    have h4 := hL.2
    show (keyT L).toArray.size ≤ maxLen
    simp only [List.size_toArray, maxLen]
    omega, h1⟩, Keeps.of_below h2⟩
theorem new_c (A : Option Addr) (n c : Nat) (L : List G) (w : World) (hL : Ents w A n L) :
    Calls Tryz.prog 56 #[.slice A n c] w fun r w' => (∃ pp, r = .returned (.tuple #[.pointer pp, .int .i64 (newE L)]) ∧ (newE L = 0 → ∃ p, pp = some ⟨p, 0, none⟩ ∧ IsCode w.heap.size w' p (wordsOf (nats' L)))) ∧ Keeps (fun _ => False) w w' := by
  refine (new_ A n c L w hL.1 hL.2.1 hL.2.2).mono fun r w' ⟨h1, h2⟩ => ⟨?_, h2⟩
  obtain ⟨pp, hr⟩ := newE_of h1
  refine ⟨pp, hr, fun h0 => ?_⟩
  have hinj : ∀ (q : Option Addr) (z : Int), r = .returned (.tuple #[.pointer q, .int .i64 z]) → q = pp ∧ z = newE L := by
    intro q z e
    rw [hr] at e
    injection e with e
    injection e with e
    simp at e
    exact ⟨e.1.symm, e.2.symm⟩
  rcases h1 with ⟨_, e⟩ | ⟨_, i, _, _, hne, e⟩ | ⟨_, _, _, e⟩ | ⟨_, _, _, p, e, hc⟩
  · have := (hinj _ _ e).2
    omega
  · have := (hinj _ _ e).2
    omega
  · have := (hinj _ _ e).2
    omega
  · exact ⟨p, ((hinj _ _ e).1).symm, hc⟩
theorem clone_g (A : Option Addr) (n c : Nat) (L : List G) (w : World) (hL : Ents w A n L) (h0 : newE L = 0) :
    Calls Tryz.prog 87 #[.slice A n c] w fun r w' => ∃ g c', r = .returned (.slice (some ⟨g, 0, none⟩) n c') ∧ w.heap.size ≤ g ∧ g < w'.heap.size ∧ Ents w' (some ⟨g, 0, none⟩) n L ∧ Keeps (fun _ => False) w w' := by
  obtain ⟨hlen, herr, _⟩ := newE_zero h0
  have hR := right_of herr
  have e : evs (nats' L) = gvs L := by rw [← gvs_ints, hR.ints]
  obtain ⟨ad, rfl⟩ : ∃ ad, A = some ad := by
    rcases hL.1 with h | ⟨b, o, h, _⟩
    · have := gvs_len L
      rw [h] at this
      simp at this
      omega
    · exact ⟨_, h⟩
  refine (cloneE_ ad n c (nats' L) w (by rw [e]; exact hL.1) (by rw [nats', List.length_map]; exact hL.2.1) (by have := hL.2.1; omega) hL.2.2).mono ?_
  rintro r w' ⟨g, c', T, rfl, hg, hr, hk⟩
  refine ⟨g, c', rfl, hg, hr.lt, ⟨.inr ⟨g, 0, rfl, hr.lt, fun i hi => ?_⟩, hL.2⟩, hk⟩
  rw [Nat.zero_add, Blk.cell hr, List.getElem?_toArray, e, List.getElem?_append_left hi]
/-- What code answers, and what is kept behind it. -/
def Coded (g i : Nat) (t : TypeId) (cs : Array Value) (F : Nat → Prop) (N : Nat) (e : Int) (L : List G) (w w' : World) (r : Ending) : Prop :=
  ∃ pp mv' F', r = .returned (.tuple #[.pointer pp, .int .i64 e]) ∧ Blk w' g t (cs.setIfInBounds i mv') ∧ ¬ F' g ∧ Kept F' (N + 1) mv' w' ∧
    Step (fun k => k = g ∨ F k) (fun k => k = g ∨ F' k) w w' ∧ (e = 0 → ∃ p, pp = some ⟨p, 0, none⟩ ∧ Held F' (fun u => IsCode 0 u p (wordsOf (nats' L))) w')

theorem set_same {cs : Array Value} {i : Nat} {v : Value} (h : cs[i]? = some v) : cs.setIfInBounds i v = cs := by
  obtain ⟨hi, hv⟩ := Array.getElem?_eq_some_iff.1 h
  apply Array.ext
  · simp
  · intro j h1 h2
    rw [Array.getElem_setIfInBounds (by simpa using h1)]
    split
    · rename_i hij
      subst hij
      exact hv.symm
    · rfl
theorem step_quiet {g : Nat} {F : Nat → Prop} {w w' : World} (k : Keeps (fun _ => False) w w') : Step (fun k => k = g ∨ F k) (fun k => k = g ∨ F k) w w' := Step.quiet k

/-- The end of code: a new code is kept. -/
theorem kept_end {g i b p gc c' n : Nat} {t : TypeId} {cs cs1 : Array Value} {F F1 C1 Cc : Nat → Prop} {N : Nat} {L : List G} {m : List (Lit × Value)} {kl : Lit} {w W W4 W5 : World}
    (hw : Blk W g t cs1) (hcs : cs1 = cs.setIfInBounds i (.map (some b))) (hm : KeptAt F1 C1 N b m W) (hF : ∀ k, F1 k → k < W.heap.size) (hg : ¬ F1 g) (hs : Step (fun k => k = g ∨ F k) (fun k => k = g ∨ F1 k) w W)
    (hc : Held Cc (fun u => IsCode 0 u p (wordsOf (nats' L))) W) (hCb : ¬ Cc b) (hCg : ¬ Cc g) (hCw : ∀ k, Cc k → w.heap.size ≤ k) (h0 : newE L = 0)
    (hgc : W.heap.size ≤ gc) (hlt : gc < W4.heap.size) (hE : Ents W4 (some ⟨gc, 0, none⟩) n L) (k4 : Keeps (fun _ => False) W W4)
    (hu : IsM Tryz.prog 9 W5 b (upd m kl (cv (some ⟨gc, 0, none⟩) n c' p))) (k5 : Keeps (· = b) W4 W5) :
    Coded g i t cs F N 0 L w W5 (.returned (.tuple #[.pointer (some ⟨p, 0, none⟩), .int .i64 0])) := by
  have hgb : b ≠ g := fun e => hg (e ▸ hm.inF)
  have hbl : b < W.heap.size := hF b hm.inF
  have hgl : g < W.heap.size := hw.lt
  have hH : Held (· = gc) (fun u => Ents u (some ⟨gc, 0, none⟩) n L) W4 := ⟨fun k hk => by subst hk; exact hlt, fun S w1 k hn => hE.keeps k fun _ b o e => by
    injection e with e
    injection e with e
    exact e ▸ hn gc rfl⟩
  have hOne : One (fun k => k = gc ∨ Cc k) (cv (some ⟨gc, 0, none⟩) n c' p) W4 := ⟨_, n, c', p, L, rfl, h0, hH.and (hc.more k4)⟩
  have hF4 : ∀ k, F1 k → k < W4.heap.size := fun k hk => Nat.lt_of_lt_of_le (hF k hk) k4.size
  have hk5 := (hm.keeps k4 fun _ _ => id).put hF4 hu k5 hOne (fun h => h.elim (fun h => by omega) hCb)
  refine ⟨some ⟨p, 0, none⟩, .map (some b), fun k => F1 k ∨ (k = gc ∨ Cc k), rfl, ?_, ?_, ⟨fun k hk => ?_, .inr ⟨b, _, _, rfl, hk5⟩⟩, ⟨?_, fun k hk => ?_⟩, fun _ => ⟨p, rfl, ?_⟩⟩
  · rw [← hcs]
    exact (hw.keeps k4 id).keeps k5 (Ne.symm hgb)
  · rintro (h | h | h)
    · exact hg h
    · omega
    · exact hCg h
  · refine Nat.lt_of_lt_of_le ?_ k5.size
    rcases hk with h | h | h
    · exact hF4 k h
    · omega
    · exact Nat.lt_of_lt_of_le (hc.1 k h) k4.size
  · have h1 := (Step.quiet (F := fun k => k = g ∨ F1 k) k4).trans ⟨k5.mono (fun k _ e => by subst e; exact .inr hm.inF), fun _ => .inl⟩
    exact (hs.trans h1).keeps
  · rcases hk with rfl | h | rfl | h
    · exact .inl (.inl rfl)
    · exact hs.sub k (.inr h)
    · exact .inr (Nat.le_trans hs.keeps.size hgc)
    · exact .inr (hCw k h)
  · refine ((hc.more k4).keeps k5 fun k hk e => hCb (e ▸ hk)).mono (fun k hk => .inr (.inr hk)) fun k hk => ?_
    refine Nat.lt_of_lt_of_le ?_ k5.size
    rcases hk with h | h | h
    · exact hF4 k h
    · omega
    · exact Nat.lt_of_lt_of_le (hc.1 k h) k4.size

set_option maxHeartbeats 16000000 in
set_option maxRecDepth 100000 in
theorem code_ (B g i : Nat) (t : TypeId) (cs : Array Value) (F : Nat → Prop) (N : Nat) (mv : Value) (A : Option Addr) (n c : Nat) (L : List G) (w : World)
    (ht : Tab B w) (hB : B ≤ w.heap.size) (hb : Blk w g t cs) (hi : cs[i]? = some mv) (hg : ¬ F g) (hgB : B ≤ g) (hk : Kept F N mv w) (hN : N ≤ 1000) (hL : Ents w A n L) (hf : ∀ x ∈ L, Fits x) (hE : 0 < n → ∀ b o, A = some ⟨b, o, none⟩ → b ≠ g ∧ ¬ F b) :
    Calls Tryz.prog 62 #[.pointer (some ⟨g, i, none⟩), .slice A n c] w fun r w' => Coded g i t cs F N (newE L) L w w' r := by
  have HB := Lib.hid hb
  have HI := Lib.hid hi
  have HK := Lib.hid hk
  have HL := Lib.hid hL
  have HE := Lib.hid hE
  have HKY := Lib.hid (key_str B A n c L w hL hf ht)
  have HFD := Lib.hid (fun s W (k : Keeps (fun _ => False) w W) hs => find_ g i F N mv s A n c L W hs (((hb.keeps k id).cell i).trans hi) (hk.keeps k fun _ _ => id) (hL.more k))
  have HNW := Lib.hid (fun W (k : Keeps (fun _ => False) w W) => new_c A n c L W (hL.more k))
  have HGT : Hid (g < w.heap.size) := hb.lt
  obtain ⟨e, he⟩ : ∃ e, newE L = e := ⟨_, rfl⟩
  rw [he] at HNW ⊢
  have HEE := Lib.hid he
  clear hb hi hk hL hE hf he
  go_enter Tryz.func62, Tryz.ntmps62
  go_wp2_with fail
  refine HKY.out.mono ?_
  rintro r w1 ⟨⟨s, hs, rfl⟩, hk1⟩
  have HK1 := Lib.hid hk1
  have HFD1 := Lib.hid (HFD.out s w1 hk1 hs)
  have HKS := Lib.hid (Go.WideMaps.keyOf_string_mk (P := Tryz.prog) Tryz.underlying9 hs)
  clear hk1 hs HFD HKY
  go_wp2_with fail
  refine HFD1.out.mono ?_
  rintro r w2 ⟨hk2, hr⟩
  have HK2 := Lib.hid (HK1.out.trans hk2)
  clear hk2 HFD1 HK1
  rcases hr with rfl | ⟨p, rfl, h0, hc⟩
  · have HNW1 := Lib.hid (HNW.out w2 HK2.out)
    go_wp2_with fail
    refine HNW1.out.mono ?_
    rintro r w3 ⟨⟨pp, rfl, hcode⟩, hk3⟩
    have HK3 := Lib.hid (HK2.out.trans hk3)
    have HCD := Lib.hid hcode
    have HKN := Lib.hid hk3
    clear hk3 hcode HNW HNW1
    by_cases h0 : e = 0
    · subst h0
      obtain ⟨p, rfl, hcode⟩ := HCD.out rfl
      have HCH := Lib.hid (code_held hcode)
      clear hcode HCD
      rcases HK.out.2 with rfl | ⟨b, m, C, rfl, hm⟩
      · have HB3 := Lib.hid (HB.out.keeps HK3.out id)
        have hc0 : w3.cell? ⟨g, i, none⟩ = some (.map none) := (HB3.out.cell i).trans HI.out
        have hq := fun w => run_eql_map_nil (P := Tryz.prog) w 73 9 152 none Tryz.underlying73
        have hmm := @run_makeMap Tryz.prog
        have hf1 : (w3.alloc (.map #[] 0)).frozen? ⟨g, i, none⟩ = false := (HB3.out.alloc _).frozen i
        have hc1 : (w3.alloc (.map #[] 0)).cell? ⟨g, i, none⟩ = some (.map none) := ((HB3.out.alloc _).cell i).trans HI.out
        have hHH : Held (fun k => w2.heap.size ≤ k ∧ k < w3.heap.size) (fun u => IsCode 0 u p (wordsOf (nats' L))) w3 := HCH.out
        obtain ⟨b, hbe⟩ : ∃ b, b = w3.heap.size := ⟨_, rfl⟩
        obtain ⟨WX, hWX⟩ : ∃ W, W = (w3.alloc (.map #[] 0)).setCell ⟨g, i, none⟩ (.map (some b)) := ⟨_, rfl⟩
        have hgb : g < w3.heap.size := HB3.out.lt
        have hk3 := (Keeps.refl (fun _ => False) w3).alloc (.map #[] 0)
        have hkX : Keeps (· = g) (w3.alloc (.map #[] 0)) WX := by rw [hWX]; exact (Keeps.refl _ _).setOwn _ _
        have hszX : WX.heap.size = w3.heap.size + 1 := by rw [hWX]; simp [World.setCell]
        have HWX : Hid (Blk WX g t (cs.setIfInBounds i (.map (some b)))) := by show Blk _ _ _ _; rw [hWX]; exact (HB3.out.alloc _).setCell i _
        have HIX : Hid ((cs.setIfInBounds i (.map (some b)))[i]? = some (.map (some b))) := by
          have h1 := (Array.getElem?_eq_some_iff.1 HI.out).1
          show _ = _
          simp [h1]
        have hc4 : WX.cell? ⟨g, i, none⟩ = some (.map (some b)) := (HWX.out.cell i).trans HIX.out
        have HC : Hid (Held (fun k => w2.heap.size ≤ k ∧ k < w3.heap.size) (fun u => IsCode 0 u p (wordsOf (nats' L))) WX) := (hHH.more hk3).keeps hkX fun k hk e => by
          have h1 := HGT.out
          have h2 := HK2.out.size
          omega
        have HCb : Hid (¬ (w2.heap.size ≤ b ∧ b < w3.heap.size)) := by show ¬ _; omega
        have HCg : Hid (¬ (w2.heap.size ≤ g ∧ g < w3.heap.size)) := by
          have h1 := HGT.out
          have h2 := HK2.out.size
          show ¬ _
          omega
        have HCw : Hid (∀ k, (w2.heap.size ≤ k ∧ k < w3.heap.size) → w.heap.size ≤ k) := fun k hk => Nat.le_trans HK2.out.size hk.1
        have HM : Hid (KeptAt (· = b) (fun _ => False) N b [] WX) := by
          have h1 := (KeptAt.new w3).keeps hkX fun x hx e => by omega
          rw [← hbe] at h1
          exact ⟨h1.inF, h1.out, h1.sub, by simp, h1.map, h1.all⟩
        have HF : Hid (∀ k, k = b → k < WX.heap.size) := fun k hk => by omega
        have HGF : Hid (¬ g = b) := by show ¬ _; omega
        have HS : Hid (Step (fun k => k = g ∨ F k) (fun k => k = g ∨ k = b) w WX) := ⟨(HK3.out.trans hk3).none_.trans (hkX.mono fun k _ e => .inl e), fun k hk => by
          rcases hk with h | h
          · exact .inl (.inl h)
          · have := HK3.out.size
            exact .inr (by omega)⟩
        have HLX : Hid (Ents WX A n L) := ((HL.out.more HK3.out).more hk3).keeps hkX fun h0 b o e => (HE.out h0 b o e).1
        clear hHH hkX hszX hgb hk3
        go_upto_region 10 with fail
        rw [← hbe, ← hWX]
        clear hbe hWX
        have HU := Lib.hid (fun W4 (k4 : Keeps (fun _ => False) WX W4) (v : Value) => update_run (val := v) ((HM.out.keeps k4 fun _ _ => id).map) str_keyed Tryz.underlying73 (by have := HM.out.len; omega) HKS.out)
        go_region_with ((go_at_call 87; refine (clone_g A n c L _ (by exact HLX.out) HEE.out).mono ?_; rintro r w4 ⟨gc, c', rfl, hgc, hlt, hE4, hk4'⟩; have hk4 : Keeps (fun _ => False) WX w4 := hk4'.of_drew; have HE4 := Lib.hid hE4; have HK4 := Lib.hid hk4; have hc4 : w4.cell? ⟨g, i, none⟩ = some (.map (some b)) := ((HWX.out.keeps hk4 id).cell i).trans HIX.out; obtain ⟨w5, hrun, hu5, hk5⟩ := HU.out w4 hk4 (cv (some ⟨gc, 0, none⟩) n c' p); unfold cv at hrun; have HU5 := Lib.hid hu5; have HK5 := Lib.hid hk5; clear hE4 hk4 hk4' hu5 hk5))
        all_goals go_wp2
        all_goals go_ret2
        all_goals exact kept_end HWX.out rfl HM.out HF.out HGF.out HS.out HC.out HCb.out HCg.out HCw.out HEE.out hgc hlt HE4.out HK4.out (by exact HU5.out) HK5.out
      · have HB3 := Lib.hid (HB.out.keeps HK3.out id)
        have hc0 : w3.cell? ⟨g, i, none⟩ = some (.map (some b)) := (HB3.out.cell i).trans HI.out
        have hq := fun w => run_eql_map_nil (P := Tryz.prog) w 73 9 152 (some b) Tryz.underlying73
        have hHH : Held (fun k => w2.heap.size ≤ k ∧ k < w3.heap.size) (fun u => IsCode 0 u p (wordsOf (nats' L))) w3 := HCH.out
        have HCb : Hid (¬ (w2.heap.size ≤ b ∧ b < w3.heap.size)) := by
          have h1 := HK.out.1 b hm.inF
          have h2 := HK2.out.size
          show ¬ _
          omega
        have HCg : Hid (¬ (w2.heap.size ≤ g ∧ g < w3.heap.size)) := by
          have h1 := HGT.out
          have h2 := HK2.out.size
          show ¬ _
          omega
        have HCw : Hid (∀ k, (w2.heap.size ≤ k ∧ k < w3.heap.size) → w.heap.size ≤ k) := fun k hk => Nat.le_trans HK2.out.size hk.1
        have HM := Lib.hid (hm.keeps HK3.out fun _ _ => id)
        have HF : Hid (∀ k, F k → k < w3.heap.size) := fun k hk => Nat.lt_of_lt_of_le (HK.out.1 k hk) HK3.out.size
        have HS := Lib.hid (step_quiet (g := g) (F := F) HK3.out)
        have HLX := Lib.hid (HL.out.more HK3.out)
        obtain ⟨WX, hWX⟩ : ∃ W, W = w3 := ⟨_, rfl⟩
        have HC : Hid (Held (fun k => w2.heap.size ≤ k ∧ k < w3.heap.size) (fun u => IsCode 0 u p (wordsOf (nats' L))) WX) := by show Held _ _ _; rw [hWX]; exact hHH
        rw [← hWX] at HM HB3 HLX HF HS hc0
        rw [← hWX]
        have HWX := HB3
        have HIX := HI
        have HCS : Hid (cs = cs.setIfInBounds i (.map (some b))) := (set_same HI.out).symm
        have HGF : Hid (¬ F g) := hg
        clear hm hHH hWX
        go_upto_region 10 with fail
        have HU := Lib.hid (fun W4 (k4 : Keeps (fun _ => False) WX W4) (v : Value) => update_run (val := v) ((HM.out.keeps k4 fun _ _ => id).map) str_keyed Tryz.underlying73 (by have := HM.out.len; omega) HKS.out)
        go_region_with ((go_at_call 87; refine (clone_g A n c L _ (by exact HLX.out) HEE.out).mono ?_; rintro r w4 ⟨gc, c', rfl, hgc, hlt, hE4, hk4'⟩; have hk4 : Keeps (fun _ => False) WX w4 := hk4'.of_drew; have HE4 := Lib.hid hE4; have HK4 := Lib.hid hk4; have hc4 : w4.cell? ⟨g, i, none⟩ = some (.map (some b)) := ((HWX.out.keeps hk4 id).cell i).trans HIX.out; obtain ⟨w5, hrun, hu5, hk5⟩ := HU.out w4 hk4 (cv (some ⟨gc, 0, none⟩) n c' p); unfold cv at hrun; have HU5 := Lib.hid hu5; have HK5 := Lib.hid hk5; clear hE4 hk4 hk4' hu5 hk5))
        all_goals go_wp2
        all_goals go_ret2
        all_goals exact kept_end HWX.out HCS.out HM.out HF.out HGF.out HS.out HC.out HCb.out HCg.out HCw.out HEE.out hgc hlt HE4.out HK4.out (by exact HU5.out) HK5.out
    · have hne : (e != 0) = true := by simpa using h0
      go_wp2
      go_ret2
      exact ⟨none, mv, F, rfl, by rw [set_same HI.out]; exact HB.out.keeps HK3.out id, hg, (HK.out.keeps HK3.out fun _ _ => id).le (by omega), step_quiet HK3.out, fun h => absurd h h0⟩
  · go_wp2
    go_ret2
    have e0 : e = 0 := by rw [← HEE.out]; exact h0
    exact ⟨some ⟨p, 0, none⟩, mv, F, by rw [e0]; rfl, by rw [set_same HI.out]; exact HB.out.keeps HK2.out id, hg, (HK.out.keeps HK2.out fun _ _ => id).le (by omega), step_quiet HK2.out, fun _ => ⟨p, rfl, hc⟩⟩
end Go.Proofs.YtgaofnmgdefdcaaGreatDoor.Qc

namespace Go.Proofs.YtgaofnmgdefdcaaGreatDoor.Qc
open Go.RowKit Go.Proofs.YtgaofnmgdefdcaaGreatDoor.Gen Go.Proofs.YtgaofnmgdefdcaaGreatDoor.Mp Go.Proofs.YtgaofnmgdefdcaaGreatDoor.Cm Go.Proofs.YtgaofnmgdefdcaaGreatDoor.Hr Go.Proofs.YtgaofnmgdefdcaaGreatDoor.Hz Go.Proofs.YtgaofnmgdefdcaaGreatDoor.Hn Go.Proofs.YtgaofnmgdefdcaaGreatDoor.Hk Go.Proofs.YtgaofnmgdefdcaaGreatDoor.Hw Go.Proofs.YtgaofnmgdefdcaaGreatDoor.Ln Go.Proofs.YtgaofnmgdefdcaaGreatDoor.Ss Go.Proofs.YtgaofnmgdefdcaaGreatDoor.St Go.Proofs.YtgaofnmgdefdcaaGreatDoor.Ds Go.Proofs.YtgaofnmgdefdcaaGreatDoor.Ky Go.Proofs.YtgaofnmgdefdcaaGreatDoor.Qh Go.Proofs.YtgaofnmgdefdcaaGreatDoor.Qs Go.Proofs.YtgaofnmgdefdcaaGreatDoor.Qf

/-- What Ints answers, and what is kept behind it. -/
def CodedD (g i : Nat) (t : TypeId) (cs : Array Value) (F : Nat → Prop) (N : Nat) (d : D) (w w' : World) (r : Ending) : Prop :=
  ∃ pp mv' F', r = .returned (.tuple #[.pointer pp, .int .i64 (chkI d)]) ∧ Blk w' g t (cs.setIfInBounds i mv') ∧ ¬ F' g ∧ Kept F' (N + 1) mv' w' ∧
    Step (fun k => k = g ∨ F k) (fun k => k = g ∨ F' k) w w' ∧ (d.K = 3 → chkI d = 0 → ∃ p, pp = some ⟨p, 0, none⟩ ∧ Held F' (fun u => IsCode 0 u p (wordsOf (nats' d.L))) w')
theorem Step.pre' {F F' : Nat → Prop} {w w1 w2 : World} (k : Keeps (fun _ => False) w w1) (h : Step F F' w1 w2) : Step F F' w w2 := Step.pre k h

set_option maxHeartbeats 8000000 in
set_option maxRecDepth 100000 in
theorem ints_ (B g i : Nat) (t : TypeId) (cs : Array Value) (F : Nat → Prop) (N : Nat) (mv : Value) (A : Option Addr) (n c : Nat) (d : D) (w : World)
    (ht : Tab B w) (hB : B ≤ w.heap.size) (hb : Blk w g t cs) (hi : cs[i]? = some mv) (hg : ¬ F g) (hgB : B ≤ g) (hk : Kept F N mv w) (hN : N ≤ 1000) (hL : Ents w A n d.L) (hf : ∀ x ∈ d.L, Fits x) (hE : 0 < n → ∀ b o, A = some ⟨b, o, none⟩ → b ≠ g ∧ ¬ F b) :
    Calls Tryz.prog 36 #[.pointer (some ⟨g, i, none⟩), .agg (dv A n c d)] w fun r w' => CodedD g i t cs F N d w w' r := by
  have hk1 := (Keeps.refl (fun _ => False) w).alloc (.cells (dv A n c d) 43)
  have HCO := Lib.hid (code_ B g i t cs F N mv A n c d.L _ (ht.more hB hk1) (Nat.le_trans hB hk1.size) (hb.keeps hk1 id) hi hg hgB (hk.keeps hk1 fun _ _ => id) hN (hL.more hk1) hf hE)
  have HCH := Lib.hid (check_i A n c d _ (hL.more hk1))
  obtain ⟨ck, hck⟩ : ∃ ck, chkI d = ck := ⟨_, rfl⟩
  have HCK := Lib.hid hck
  unfold CodedD
  rw [hck] at HCH ⊢
  have HK1 := Lib.hid hk1
  have HKP := Lib.hid hk
  have HBL := Lib.hid hb
  have HI := Lib.hid hi
  clear hck hk1 hb hk hi hL hf hE
  obtain ⟨K, Bl, L, le, bi⟩ := d
  unfold dv at HCO HCH HK1 ⊢
  simp only at HCO HCH HK1 ⊢
  by_cases h3 : K = 3
  · subst h3
    have HCK3 : Hid (newE L = ck) := by
      show newE L = ck
      have := HCK.out
      simpa [chkI] using this
    rw [HCK3.out] at HCO
    go_enter Tryz.func36, Tryz.ntmps36
    go_wp2_with (
      go_at_call 62
      refine HCO.out.mono ?_
      rintro r w1 ⟨pp, mv', F', rfl, h1, h2, h3, h4, h5⟩
      have H1 := Lib.hid h1
      have H2 := Lib.hid h2
      have H3 := Lib.hid h3
      have H4 := Lib.hid h4
      have H5 := Lib.hid h5
      clear h1 h2 h3 h4 h5)
    go_ret2
    exact ⟨pp, mv', F', rfl, H1.out, H2.out, H3.out, Step.pre HK1.out H4.out, fun _ h => H5.out h⟩
  · have hn : (K == 3) = false := by simpa using h3
    go_enter Tryz.func36, Tryz.ntmps36
    go_wp2_with (
      go_at_call 30
      refine HCH.out.mono ?_
      rintro r w1 ⟨rfl, h1⟩
      have H1 := Lib.hid (HK1.out.trans h1)
      clear h1)
    go_ret2
    exact ⟨none, mv, F, rfl, by rw [set_same HI.out]; exact HBL.out.keeps H1.out id, hg, (HKP.out.keeps H1.out fun _ _ => id).le (by omega), step_quiet H1.out, fun h => absurd h h3⟩

theorem found_ok {F : Nat → Prop} {L : List G} {w w' : World} {r : Ending} (h : Qf.Found F L w w' r) : ∃ (pp : Option Addr) (ok : Bool), r = .returned (.tuple #[.pointer pp, .bool ok]) ∧ (ok = true → newE L = 0) ∧ Keeps (fun _ => False) w w' := by
  obtain ⟨k, h | ⟨p, h, h0, _⟩⟩ := h
  · exact ⟨none, false, h, fun e => (by cases e), k⟩
  · exact ⟨some ⟨p, 0, none⟩, true, h, fun _ => h0, k⟩
set_option maxHeartbeats 8000000 in
set_option maxRecDepth 100000 in
theorem arrays_ (B g i : Nat) (F : Nat → Prop) (N : Nat) (mv : Value) (A : Option Addr) (n c : Nat) (a : Ds.E) (w : World)
    (ht : Tab B w) (hB : B ≤ w.heap.size) (hc : w.cell? ⟨g, i, none⟩ = some mv) (hg : g < w.heap.size) (hk : Kept F N mv w) (hL : Ents w A n a.d.L) (hf : ∀ x ∈ a.d.L, Fits x) :
    Calls Tryz.prog 32 #[.pointer (some ⟨g, i, none⟩), .agg (av A n c a)] w fun r w' => r = .returned (.int .i64 (chkA a)) ∧ Keeps (fun _ => False) w w' := by
  have hk1 := (Keeps.refl (fun _ => False) w).alloc (.cells (av A n c a) 45)
  have HKY := Lib.hid (fun W (k : Keeps (fun _ => False) w W) => key_str B A n c a.d.L W (hL.more k) hf (ht.more hB k))
  have HFD := Lib.hid (fun s W (k : Keeps (fun _ => False) w W) hs => find_ g i F N mv s A n c a.d.L W hs ((k.cell (p := ⟨g, i, none⟩) hg id).trans hc) (hk.keeps k fun _ _ => id) (hL.more k))
  have HCA := Lib.hid (fun W (k : Keeps (fun _ => False) w W) => check_a A n c a W (hL.more k))
  have HK1 := Lib.hid hk1
  have HB1 := Lib.hid (Blk.new w 45 (av A n c a))
  clear hk1 hc hk hL hf
  obtain ⟨ca, hca⟩ : ∃ ca, chkA a = ca := ⟨_, rfl⟩
  rw [hca] at HCA ⊢
  have HCK := Lib.hid hca
  clear hca
  obtain ⟨⟨K, Bl, L, le, bi⟩, K2, B2, S2⟩ := a
  unfold av at HCA HK1 HB1 ⊢
  simp only at HCA HK1 HB1 HKY HFD ⊢
  by_cases h3 : K = 3
  · subst h3
    go_enter Tryz.func32, Tryz.ntmps32
    go_upto_region 2 with fail
    obtain ⟨W, hW⟩ : ∃ W, W = w.alloc (.cells #[.int .u8 3, .int .i64 Bl, .slice A n c, .int .i64 le, .int .i64 bi, .int .u8 K2, .int .i64 B2, .int .u8 S2] 45) := ⟨_, rfl⟩
    obtain ⟨q, hq⟩ : ∃ q, q = w.heap.size := ⟨_, rfl⟩
    have HQ := Lib.hid hq
    rw [← hW] at HK1 HB1
    rw [← hq] at HB1
    rw [← hq, ← hW]
    clear hW hq
    have hb2 : W.cell? ⟨q, 2, none⟩ = some (.slice A n c) := HB1.out.cell 2
    have HQL : Hid (q < W.heap.size) := HB1.out.lt
    go_region_held3 (fun w' => w'.cell? ⟨q, 2, none⟩ = some (.slice A n c)) (go_keep)
      ((first
        | (have H := HKY; go_at_call 59; refine (H.out _ (by exact HK1.out.drewN 1)).mono ?_; rintro r w1 ⟨⟨s, hs, rfl⟩, hk2'⟩; have hk2 : Keeps (fun _ => False) W w1 := hk2'.of_drew; have HK2 := Lib.hid (HK1.out.trans hk2); have HF := Lib.hid (HFD.out s w1 HK2.out hs); have hb3 : w1.cell? ⟨q, 2, none⟩ = some (.slice A n c) := (HB1.out.keeps hk2 id).cell 2; have HBB := Lib.hid (HB1.out.keeps hk2 id); clear hk2 hk2' hs HKY)
        | (have H := HF; go_at_call 58; refine H.out.mono ?_; rintro r w2 hr; obtain ⟨pp, ok, rfl, hok, hk3⟩ := found_ok hr; have HOK := Lib.hid hok; have HK3 := Lib.hid (HK2.out.trans hk3); have HB3 := Lib.hid (HBB.out.keeps hk3 id); have hb4 : w2.cell? ⟨q, 2, none⟩ = some (.slice A n c) := HB3.out.cell 2; clear hr hok hk3 HF HFD)))
    have x0 := HB3.out.cell 0
    have x1 := HB3.out.cell 1
    have x2 := HB3.out.cell 2
    have x3 := HB3.out.cell 3
    have x4 := HB3.out.cell 4
    have x5 := HB3.out.cell 5
    have x6 := HB3.out.cell 6
    have x7 := HB3.out.cell 7
    simp only [List.getElem?_toArray, List.getElem?_cons_zero, List.getElem?_cons_succ] at x0 x1 x2 x3 x4 x5 x6 x7
    cases ok with
    | false =>
      go_wp2_with (
        go_at_call 31
        refine (HCA.out _ HK3.out).mono ?_
        rintro r w3 ⟨rfl, h1⟩
        have H1 := Lib.hid (HK3.out.trans h1)
        clear h1)
      go_ret
      exact ⟨rfl, H1.out⟩
    | true =>
      have f0 := HB3.out.frozen 0
      have f1 := HB3.out.frozen 1
      have f2 := HB3.out.frozen 2
      have f3 := HB3.out.frozen 3
      have f4 := HB3.out.frozen 4
      have HCF := Lib.hid (fun W => check_a none 0 0 ⟨⟨6, 0, [], 0, 0⟩, K2, B2, S2⟩ W ⟨.inl rfl, rfl, by omega⟩)
      have hce : chkA ⟨⟨6, 0, [], 0, 0⟩, K2, B2, S2⟩ = ca := by
        rw [← HCK.out]
        have h0 := HOK.out rfl
        simp [chkA, chkI, fixE, h0]
      rw [hce] at HCF
      unfold av at HCF
      simp only at HCF
      clear hce
      go_wp2_with (
        go_at_call 31
        refine (HCF.out _).mono ?_
        rintro r w3 ⟨rfl, h1⟩
        have H1 : Hid (Keeps (fun _ => False) w w3) := (Hf.keeps_low HK3.out ((((((Keeps.refl (· = q) w2).setOwn 0 _).setOwn 1 _).setOwn 2 _).setOwn 3 _).setOwn 4 _) (fun x hx => by rw [hx, HQ.out]; exact Nat.le_refl _)).trans h1
        clear h1)
      go_ret
      exact ⟨rfl, H1.out⟩
  · have hn : (K == 3) = false := by simpa using h3
    go_enter Tryz.func32, Tryz.ntmps32
    go_wp2_with (
      go_at_call 31
      refine (HCA.out _ HK1.out).mono ?_
      rintro r w1 ⟨rfl, h1⟩
      have H1 := Lib.hid (HK1.out.trans h1)
      clear h1)
    go_ret
    exact ⟨rfl, H1.out⟩
end Go.Proofs.YtgaofnmgdefdcaaGreatDoor.Qc

namespace Go.Proofs.YtgaofnmgdefdcaaGreatDoor.Hu
open Go.RowKit Go.Shelf Go.Sort Go.Proofs.YtgaofnmgdefdcaaGreatDoor.Gen Go.Proofs.YtgaofnmgdefdcaaGreatDoor.Mp Go.Proofs.YtgaofnmgdefdcaaGreatDoor.Hr Go.Proofs.YtgaofnmgdefdcaaGreatDoor.Hs Go.Proofs.YtgaofnmgdefdcaaGreatDoor.Hf Go.Proofs.YtgaofnmgdefdcaaGreatDoor.Hz Go.Proofs.YtgaofnmgdefdcaaGreatDoor.Ln Go.Proofs.YtgaofnmgdefdcaaGreatDoor.Hk Go.Proofs.YtgaofnmgdefdcaaGreatDoor.Bp Go.Proofs.YtgaofnmgdefdcaaGreatDoor.Bw

abbrev Ws := List (Int × Nat × Nat)
theorem zero_word (w : World) : (zeroValue 129).run Tryz.prog w = .ok (.agg #[.int .u32 0, .int .i64 0]) w := by kernel_rfl
/-- What wordOf answers: a number's word, and whether there is one. -/
def found (W : Ws) (x : Int) : Option (Nat × Nat) := (W.find? fun t => t.1 == x).map (·.2)
theorem found_mem {W : Ws} {x : Int} {p : Nat × Nat} (h : found W x = some p) : (x, p.1, p.2) ∈ W := by
  unfold found at h
  rw [Option.map_eq_some_iff] at h
  obtain ⟨t, ht, rfl⟩ := h
  have h1 := List.find?_some ht
  simp only [beq_iff_eq] at h1
  have h2 := List.mem_of_find?_eq_some ht
  obtain ⟨a, b⟩ := t
  simp only at h1
  subst h1
  exact h2
theorem found_none {W : Ws} {x : Int} (h : found W x = none) : x ∉ W.map (·.1) := by
  unfold found at h
  rw [Option.map_eq_none_iff, List.find?_eq_none] at h
  intro hm
  rw [List.mem_map] at hm
  obtain ⟨t, ht, e⟩ := hm
  exact h t ht (by simpa using e)
theorem look_word {w : World} {bw : Nat} {W : Ws} (h : IsM Tryz.prog 3 w bw (W.map we)) {x : Int} (hx : (Lit.int .i64 x).wf = true) :
    (Instr.lookup 146 (.map (some bw)) (.int .i64 x) true).run Tryz.prog w = .ok (.tuple (match found W x with | some p => #[wv p.2 p.1, .bool true] | none => #[.agg #[.int .u32 0, .int .i64 0], .bool false])) w := by
  have hl := IsM.look w h int_key Tryz.underlying146 (zero_word w) (key := .int .i64 x) (kl := .int .i64 x) (Go.Maps.keyOf_int_mk Tryz.underlying3 hx)
  cases hf : found W x with
  | some p => exact (hl.1 (wv p.2 p.1) (List.mem_map.2 ⟨(x, p.1, p.2), found_mem hf, rfl⟩)).2
  | none =>
    refine (hl.2 ?_).2
    rw [keys_we]
    intro hm
    rw [List.mem_map] at hm
    obtain ⟨t, ht, e⟩ := hm
    injection e with _ e
    exact found_none hf (List.mem_map.2 ⟨t, ht, e⟩)
/-- The word's number and how many bits it has; 0 and 0 if there is none. -/
def wb (W : Ws) (x : Int) : Nat := ((found W x).map (·.2)).getD 0
def wz (W : Ws) (x : Int) : Nat := ((found W x).map (·.1)).getD 0
theorem look_word' {w : World} {bw : Nat} {W : Ws} (h : IsM Tryz.prog 3 w bw (W.map we)) {x : Int} (hx : (Lit.int .i64 x).wf = true) :
    (Instr.lookup 146 (.map (some bw)) (.int .i64 x) true).run Tryz.prog w = .ok (.tuple #[.agg #[.int .u32 (wb W x : Int), .int .i64 (wz W x : Int)], .bool (found W x).isSome]) w := by
  rw [look_word h hx]
  unfold wb wz
  cases hf : found W x with
  | some p => rfl
  | none => rfl
theorem wordOf_ (base p : Nat) (W : Ws) (x : Int) (w : World) (h : IsCode base w p W) (hx : (Lit.int .i64 x).wf = true) :
    Calls Tryz.prog 64 #[.pointer (some ⟨p, 0, none⟩), .int .i64 x] w fun r w' => r = .returned (.tuple #[.agg #[.int .u32 (wb W x : Int), .int .i64 (wz W x : Int)], .bool (found W x).isSome]) ∧ Keeps (fun _ => False) w w' := by
  obtain ⟨bw, bn, h1, h2, _⟩ := h
  have hc : w.cell? ⟨p, 0, none⟩ = some (.map (some bw)) := h1.cell 0
  have hp := h1.lt
  have hk := (Keeps.refl (fun _ => False) w).alloc (.cells #[.int .u32 0, .int .i64 0] 129)
  have hlook := look_word' (h2.keeps hk id) hx
  have hne : p ≠ w.heap.size := by omega
  generalize wb W x = b at *
  generalize wz W x = z at *
  generalize (found W x).isSome = ok at *
  have HK := Lib.hid hk
  clear h1 h2 hk
  go_enter Tryz.func64, Tryz.ntmps64
  go_wp2
  have hB := (Blk.new w 129 #[.int .u32 (b : Int), .int .i64 (z : Int)]).alloc (.cells #[.int .u32 (b : Int), .int .i64 (z : Int)] 129)
  have HKW := Lib.hid (((Keeps.refl (fun _ => False) w).alloc (.cells #[.int .u32 (b : Int), .int .i64 (z : Int)] 129)).alloc (.cells #[.int .u32 (b : Int), .int .i64 (z : Int)] 129))
  generalize (w.alloc (.cells #[.int .u32 (b : Int), .int .i64 (z : Int)] 129)).alloc (.cells #[.int .u32 (b : Int), .int .i64 (z : Int)] 129) = W2 at hB HKW ⊢
  have h0 : W2.cell? ⟨w.heap.size, 0, none⟩ = some (.int .u32 (b : Int)) := hB.cell 0
  have h1 : W2.cell? ⟨w.heap.size, 1, none⟩ = some (.int .i64 (z : Int)) := hB.cell 1
  refine bodyPost_ret (v := .tuple #[.agg #[.int .u32 (b : Int), .int .i64 (z : Int)], .bool ok]) (by simp [results, Tryz.results64, go_sem, h0, h1]) rfl ?_
  exact ⟨rfl, HKW.out⟩
theorem wordOf_none (x : Int) (w : World) : Calls Tryz.prog 64 #[.pointer none, .int .i64 x] w fun r w' => r = .returned (.tuple #[.agg #[.int .u32 0, .int .i64 0], .bool false]) ∧ Keeps (fun _ => False) w w' := by
  go_enter Tryz.func64, Tryz.ntmps64
  go_wp2
  have hB := Blk.new w 129 #[.int .u32 0, .int .i64 0]
  have HKW := Lib.hid ((Keeps.refl (fun _ => False) w).alloc (.cells #[.int .u32 0, .int .i64 0] 129))
  generalize w.alloc (.cells #[.int .u32 0, .int .i64 0] 129) = W2 at hB HKW ⊢
  have h0 : W2.cell? ⟨w.heap.size, 0, none⟩ = some (.int .u32 0) := hB.cell 0
  have h1 : W2.cell? ⟨w.heap.size, 1, none⟩ = some (.int .i64 0) := hB.cell 1
  refine bodyPost_ret (v := .tuple #[.agg #[.int .u32 0, .int .i64 0], .bool false]) (by simp [results, Tryz.results64, go_sem, h0, h1]) rfl ?_
  exact ⟨rfl, HKW.out⟩
/-- Put of a number that has a word. -/
theorem put_some (base p : Nat) (W : Ws) (x : Int) (z v : Nat) (bs g : Nat) (vw : Value) (l : List Nat) (w : World) (h : IsCode base w p W) (hx : (Lit.int .i64 x).wf = true) (hf : found W x = some (z, v)) (hz : z ≤ 32) (hv : v < 4294967296) (hw : IsBw bs g vw l w) (hl : l.length + 32 ≤ 8000000) :
    Calls Tryz.prog 38 #[.pointer (some ⟨p, 0, none⟩), .pointer (some ⟨g, 0, none⟩), .int .i64 x] w fun r w' => r = .returned (.bool true) ∧ ∃ v', IsBw bs g v' (l ++ tb v z) w' ∧ Moves g vw v' w w' := by
  have HRO := Lib.hid (wordOf_ base p W x w h hx)
  have e1 : wb W x = v := by simp [wb, hf]
  have e2 : wz W x = z := by simp [wz, hf]
  have e3 : (found W x).isSome = true := by simp [hf]
  rw [e1, e2, e3] at HRO
  have HW := Lib.hid hw
  have HSZ : Hid (Bf.sz (z : Int) = z) := by show Bf.sz (z : Int) = z; unfold Bf.sz; omega
  clear h e1 e2 e3 hf hw
  go_enter Tryz.func38, Tryz.ntmps38
  go_wp2_with fail
  refine HRO.out.mono ?_
  rintro e w1 ⟨rfl, hk⟩
  have HK1 := Lib.hid (hk.alloc (.cells #[.int .u32 (v : Int), .int .i64 (z : Int)] 129))
  have HPU := Lib.hid (put g bs vw l v (z : Int) _ (HW.out.keeps HK1.out (fun _ _ => id)) hl hv)
  clear hk
  go_wp2_with (
    refine HPU.out.mono ?_
    rintro e w2 ⟨rfl, v', hv', hm⟩
    have HV := Lib.hid hv'
    have HMV := Lib.hid hm
    clear hv' hm)
  go_ret
  refine ⟨rfl, v', ?_, ?_⟩
  · have h1 := HV.out
    rw [HSZ.out] at h1
    exact h1
  · have h1 := HMV.out
    refine ⟨(HK1.out.none_ (S := Its g vw)).trans h1.keeps, ?_⟩
    rcases h1.at_ with h2 | ⟨b, h2, h3⟩
    · exact .inl h2
    · exact .inr ⟨b, h2, Nat.le_trans HK1.out.size h3⟩
/-- Put of a number that has no word; into no Writer. -/
theorem put_no (base p : Nat) (W : Ws) (x : Int) (A : Option Addr) (w : World) (h : IsCode base w p W) (hx : (Lit.int .i64 x).wf = true) (hf : found W x = none) :
    Calls Tryz.prog 38 #[.pointer (some ⟨p, 0, none⟩), .pointer A, .int .i64 x] w fun r w' => r = .returned (.bool false) ∧ Keeps (fun _ => False) w w' := by
  have HRO := Lib.hid (wordOf_ base p W x w h hx)
  have e3 : (found W x).isSome = false := by simp [hf]
  rw [e3] at HRO
  clear h e3 hf
  generalize wb W x = b at *
  generalize wz W x = z at *
  go_enter Tryz.func38, Tryz.ntmps38
  go_wp2_with fail
  refine HRO.out.mono ?_
  rintro e w1 ⟨rfl, hk⟩
  go_wp2
  go_ret
  exact ⟨rfl, hk.alloc _⟩
theorem put_nil (base p : Nat) (W : Ws) (x : Int) (w : World) (h : IsCode base w p W) (hx : (Lit.int .i64 x).wf = true) :
    Calls Tryz.prog 38 #[.pointer (some ⟨p, 0, none⟩), .pointer none, .int .i64 x] w fun r w' => r = .returned (.bool false) ∧ Keeps (fun _ => False) w w' := by
  have HRO := Lib.hid (wordOf_ base p W x w h hx)
  clear h
  generalize wb W x = b at *
  generalize wz W x = z at *
  generalize (found W x).isSome = ok at *
  go_enter Tryz.func38, Tryz.ntmps38
  go_wp2_with fail
  refine HRO.out.mono ?_
  rintro e w1 ⟨rfl, hk⟩
  have HK := Lib.hid hk
  clear hk
  cases ok with
  | false =>
    go_wp2
    go_ret
    exact ⟨rfl, HK.out.alloc _⟩
  | true =>
    go_wp2
    go_ret
    exact ⟨rfl, HK.out.alloc _⟩
theorem put_none_code (x : Int) (A : Option Addr) (w : World) : Calls Tryz.prog 38 #[.pointer none, .pointer A, .int .i64 x] w fun r w' => r = .returned (.bool false) ∧ Keeps (fun _ => False) w w' := by
  go_enter Tryz.func38, Tryz.ntmps38
  go_wp2_with fail
  refine (wordOf_none x w).mono ?_
  rintro e w1 ⟨rfl, hk⟩
  go_wp2
  go_ret
  exact ⟨rfl, hk.alloc _⟩
end Go.Proofs.YtgaofnmgdefdcaaGreatDoor.Hu

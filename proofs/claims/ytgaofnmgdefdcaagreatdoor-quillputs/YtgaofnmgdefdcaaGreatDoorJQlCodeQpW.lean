/- codes.Kept.code: the code of entries, found or made and kept; or what huff.New says of them. The condition: strconv's table of tens reads as its text lays it. -/
/- The words of entries, by layer 10's own function: the call. -/
import Derived.Test.YtgaofnmgdefdcaaGreatDoorJQlFindQlInto
import Derived.Test.YtgaofnmgdefdcaaGreatDoorJKeyShelfHufKey
import Derived.Test.YtgaofnmgdefdcaaGreatDoorDsPutI
import Derived.Deep.RegionHeld3
import Derived.Deep.RegionLaw
import Derived.Test.YtgaofnmgdefdcaaGreatDoorJHufWordHufSf
import Derived.Test.YtgaofnmgdefdcaaGreatDoorJItfWrDsPl
import Derived.Deep.RegionWith

namespace Go.Proofs.YtgaofnmgdefdcaaGreatDoor.Qc
open Go.RowKit Go.Proofs.YtgaofnmgdefdcaaGreatDoor.Gen Go.Proofs.YtgaofnmgdefdcaaGreatDoor.Mp Go.Proofs.YtgaofnmgdefdcaaGreatDoor.Cm Go.Proofs.YtgaofnmgdefdcaaGreatDoor.Hr Go.Proofs.YtgaofnmgdefdcaaGreatDoor.Hz Go.Proofs.YtgaofnmgdefdcaaGreatDoor.Hn Go.Proofs.YtgaofnmgdefdcaaGreatDoor.Hk Go.Proofs.YtgaofnmgdefdcaaGreatDoor.Hw Go.Proofs.YtgaofnmgdefdcaaGreatDoor.Ln Go.Proofs.YtgaofnmgdefdcaaGreatDoor.Ss Go.Proofs.YtgaofnmgdefdcaaGreatDoor.St Go.Proofs.YtgaofnmgdefdcaaGreatDoor.Ds Go.Proofs.YtgaofnmgdefdcaaGreatDoor.Ky Go.Proofs.YtgaofnmgdefdcaaGreatDoor.Qh Go.Proofs.YtgaofnmgdefdcaaGreatDoor.Qs Go.Proofs.YtgaofnmgdefdcaaGreatDoor.Qf

/-- strconv's table of tens, in blocks below B. -/
abbrev Tab (B : Nat) (w : World) : Prop := Lib.TabBelow Tryz.prog B w "internal/strconv.uint64pow10" .u64 Lib.pow10Tab
theorem Tab.keeps {B : Nat} {S : Nat → Prop} {w w1 : World} (h : Tab B w) (hB : B ≤ w.heap.size) (k : Keeps S w w1) (hS : ∀ b, S b → B ≤ b) : Tab B w1 := h.on (k.below hB hS)
theorem Tab.more {B : Nat} {w w1 : World} (h : Tab B w) (hB : B ≤ w.heap.size) (k : Keeps (fun _ => False) w w1) : Tab B w1 := h.keeps hB k fun _ hf => hf.elim
theorem key_str (B : Nat) (A : Option Addr) (n c : Nat) (L : List G) (w : World) (hL : Ents w A n L) (hf : ∀ x ∈ L, Fits x) (ht : Tab B w) :
    Calls Tryz.prog 59 #[.slice A n c] w fun r w' => (∃ s : ByteArray, s.size ≤ maxLen ∧ r = .returned (.string s)) ∧ Keeps (fun _ => False) w w' :=
  (key_ A n c L w hL.1 hL.2.1 hL.2.2 hf ht.here).mono fun r w' ⟨h1, h2⟩ => ⟨⟨_, by
    have h3 := keyT_len hf
    have h4 := hL.2
    show (keyT L).toArray.size ≤ maxLen
    simp only [List.size_toArray, maxLen]
    omega, h1⟩, Keeps.of_below h2⟩
theorem new_c (A : Option Addr) (n c : Nat) (L : List G) (w : World) (hL : Ents w A n L) :
    Calls Tryz.prog 56 #[.slice A n c] w fun r w' => (∃ pp, r = .returned (.tuple #[.pointer pp, .int .i64 (newE L)]) ∧ (newE L = 0 → ∃ p, pp = some ⟨p, 0, none⟩ ∧ IsCode w.heap.size w' p (wordsOf (nats' L)))) ∧ Keeps (fun _ => False) w w' := by
  refine (new_ A n c L w hL.1 hL.2.1 hL.2.2).mono fun r w' ⟨h1, h2⟩ => ⟨?_, h2⟩
  obtain ⟨pp, hr⟩ := newE_of h1
  refine ⟨pp, hr, fun h0 => ?_⟩
  have hinj : ∀ (q : Option Addr) (z : Int), r = .returned (.tuple #[.pointer q, .int .i64 z]) → q = pp ∧ z = newE L := by
    intro q z e
    rw [hr] at e
    injection e with e
    injection e with e
    simp at e
    exact ⟨e.1.symm, e.2.symm⟩
  rcases h1 with ⟨_, e⟩ | ⟨_, i, _, _, hne, e⟩ | ⟨_, _, _, e⟩ | ⟨_, _, _, p, e, hc⟩
  · have := (hinj _ _ e).2
    omega
  · have := (hinj _ _ e).2
    omega
  · have := (hinj _ _ e).2
    omega
  · exact ⟨p, ((hinj _ _ e).1).symm, hc⟩
theorem clone_g (A : Option Addr) (n c : Nat) (L : List G) (w : World) (hL : Ents w A n L) (h0 : newE L = 0) :
    Calls Tryz.prog 87 #[.slice A n c] w fun r w' => ∃ g c', r = .returned (.slice (some ⟨g, 0, none⟩) n c') ∧ w.heap.size ≤ g ∧ g < w'.heap.size ∧ Ents w' (some ⟨g, 0, none⟩) n L ∧ Keeps (fun _ => False) w w' := by
  obtain ⟨hlen, herr, _⟩ := newE_zero h0
  have hR := right_of herr
  have e : evs (nats' L) = gvs L := by rw [← gvs_ints, hR.ints]
  obtain ⟨ad, rfl⟩ : ∃ ad, A = some ad := by
    rcases hL.1 with h | ⟨b, o, h, _⟩
    · have := gvs_len L
      rw [h] at this
      simp at this
      omega
    · exact ⟨_, h⟩
  refine (cloneE_ ad n c (nats' L) w (by rw [e]; exact hL.1) (by rw [nats', List.length_map]; exact hL.2.1) (by have := hL.2.1; omega) hL.2.2).mono ?_
  rintro r w' ⟨g, c', T, rfl, hg, hr, hk⟩
  refine ⟨g, c', rfl, hg, hr.lt, ⟨.inr ⟨g, 0, rfl, hr.lt, fun i hi => ?_⟩, hL.2⟩, hk⟩
  rw [Nat.zero_add, Blk.cell hr, List.getElem?_toArray, e, List.getElem?_append_left hi]
/-- What code answers, and what is kept behind it. -/
def Coded (g i : Nat) (t : TypeId) (cs : Array Value) (F : Nat → Prop) (N : Nat) (e : Int) (L : List G) (w w' : World) (r : Ending) : Prop :=
  ∃ pp mv' F', r = .returned (.tuple #[.pointer pp, .int .i64 e]) ∧ Blk w' g t (cs.setIfInBounds i mv') ∧ ¬ F' g ∧ Kept F' (N + 1) mv' w' ∧
    Step (fun k => k = g ∨ F k) (fun k => k = g ∨ F' k) w w' ∧ (e = 0 → ∃ p, pp = some ⟨p, 0, none⟩ ∧ Held F' (fun u => IsCode 0 u p (wordsOf (nats' L))) w')

theorem set_same {cs : Array Value} {i : Nat} {v : Value} (h : cs[i]? = some v) : cs.setIfInBounds i v = cs := by
  obtain ⟨hi, hv⟩ := Array.getElem?_eq_some_iff.1 h
  apply Array.ext
  · simp
  · intro j h1 h2
    rw [Array.getElem_setIfInBounds (by simpa using h1)]
    split
    · rename_i hij
      subst hij
      exact hv.symm
    · rfl
theorem step_quiet {g : Nat} {F : Nat → Prop} {w w' : World} (k : Keeps (fun _ => False) w w') : Step (fun k => k = g ∨ F k) (fun k => k = g ∨ F k) w w' := Step.quiet k

/-- The end of code: a new code is kept. -/
theorem kept_end {g i b p gc c' n : Nat} {t : TypeId} {cs cs1 : Array Value} {F F1 C1 Cc : Nat → Prop} {N : Nat} {L : List G} {m : List (Lit × Value)} {kl : Lit} {w W W4 W5 : World}
    (hw : Blk W g t cs1) (hcs : cs1 = cs.setIfInBounds i (.map (some b))) (hm : KeptAt F1 C1 N b m W) (hF : ∀ k, F1 k → k < W.heap.size) (hg : ¬ F1 g) (hs : Step (fun k => k = g ∨ F k) (fun k => k = g ∨ F1 k) w W)
    (hc : Held Cc (fun u => IsCode 0 u p (wordsOf (nats' L))) W) (hCb : ¬ Cc b) (hCg : ¬ Cc g) (hCw : ∀ k, Cc k → w.heap.size ≤ k) (h0 : newE L = 0)
    (hgc : W.heap.size ≤ gc) (hlt : gc < W4.heap.size) (hE : Ents W4 (some ⟨gc, 0, none⟩) n L) (k4 : Keeps (fun _ => False) W W4)
    (hu : IsM Tryz.prog 9 W5 b (upd m kl (cv (some ⟨gc, 0, none⟩) n c' p))) (k5 : Keeps (· = b) W4 W5) :
    Coded g i t cs F N 0 L w W5 (.returned (.tuple #[.pointer (some ⟨p, 0, none⟩), .int .i64 0])) := by
  have hgb : b ≠ g := fun e => hg (e ▸ hm.inF)
  have hbl : b < W.heap.size := hF b hm.inF
  have hgl : g < W.heap.size := hw.lt
  have hH : Held (· = gc) (fun u => Ents u (some ⟨gc, 0, none⟩) n L) W4 := ⟨fun k hk => by subst hk; exact hlt, fun S w1 k hn => hE.keeps k fun _ b o e => by
    injection e with e
    injection e with e
    exact e ▸ hn gc rfl⟩
  have hOne : One (fun k => k = gc ∨ Cc k) (cv (some ⟨gc, 0, none⟩) n c' p) W4 := ⟨_, n, c', p, L, rfl, h0, hH.and (hc.more k4)⟩
  have hF4 : ∀ k, F1 k → k < W4.heap.size := fun k hk => Nat.lt_of_lt_of_le (hF k hk) k4.size
  have hk5 := (hm.keeps k4 fun _ _ => id).put hF4 hu k5 hOne (fun h => h.elim (fun h => by omega) hCb)
  refine ⟨some ⟨p, 0, none⟩, .map (some b), fun k => F1 k ∨ (k = gc ∨ Cc k), rfl, ?_, ?_, ⟨fun k hk => ?_, .inr ⟨b, _, _, rfl, hk5⟩⟩, ⟨?_, fun k hk => ?_⟩, fun _ => ⟨p, rfl, ?_⟩⟩
  · rw [← hcs]
    exact (hw.keeps k4 id).keeps k5 (Ne.symm hgb)
  · rintro (h | h | h)
    · exact hg h
    · omega
    · exact hCg h
  · refine Nat.lt_of_lt_of_le ?_ k5.size
    rcases hk with h | h | h
    · exact hF4 k h
    · omega
    · exact Nat.lt_of_lt_of_le (hc.1 k h) k4.size
  · have h1 := (Step.quiet (F := fun k => k = g ∨ F1 k) k4).trans ⟨k5.mono (fun k _ e => by subst e; exact .inr hm.inF), fun _ => .inl⟩
    exact (hs.trans h1).keeps
  · rcases hk with rfl | h | rfl | h
    · exact .inl (.inl rfl)
    · exact hs.sub k (.inr h)
    · exact .inr (Nat.le_trans hs.keeps.size hgc)
    · exact .inr (hCw k h)
  · refine ((hc.more k4).keeps k5 fun k hk e => hCb (e ▸ hk)).mono (fun k hk => .inr (.inr hk)) fun k hk => ?_
    refine Nat.lt_of_lt_of_le ?_ k5.size
    rcases hk with h | h | h
    · exact hF4 k h
    · omega
    · exact Nat.lt_of_lt_of_le (hc.1 k h) k4.size

set_option maxHeartbeats 16000000 in
set_option maxRecDepth 100000 in
theorem code_ (B g i : Nat) (t : TypeId) (cs : Array Value) (F : Nat → Prop) (N : Nat) (mv : Value) (A : Option Addr) (n c : Nat) (L : List G) (w : World)
    (ht : Tab B w) (hB : B ≤ w.heap.size) (hb : Blk w g t cs) (hi : cs[i]? = some mv) (hg : ¬ F g) (hgB : B ≤ g) (hk : Kept F N mv w) (hN : N ≤ 1000) (hL : Ents w A n L) (hf : ∀ x ∈ L, Fits x) (hE : 0 < n → ∀ b o, A = some ⟨b, o, none⟩ → b ≠ g ∧ ¬ F b) :
    Calls Tryz.prog 62 #[.pointer (some ⟨g, i, none⟩), .slice A n c] w fun r w' => Coded g i t cs F N (newE L) L w w' r := by
  have HB := Lib.hid hb
  have HI := Lib.hid hi
  have HK := Lib.hid hk
  have HL := Lib.hid hL
  have HE := Lib.hid hE
  have HKY := Lib.hid (key_str B A n c L w hL hf ht)
  have HFD := Lib.hid (fun s W (k : Keeps (fun _ => False) w W) hs => find_ g i F N mv s A n c L W hs (((hb.keeps k id).cell i).trans hi) (hk.keeps k fun _ _ => id) (hL.more k))
  have HNW := Lib.hid (fun W (k : Keeps (fun _ => False) w W) => new_c A n c L W (hL.more k))
  have HGT : Hid (g < w.heap.size) := hb.lt
  obtain ⟨e, he⟩ : ∃ e, newE L = e := ⟨_, rfl⟩
  rw [he] at HNW ⊢
  have HEE := Lib.hid he
  clear hb hi hk hL hE hf he
  go_enter Tryz.func62, Tryz.ntmps62
  go_wp2_with fail
  refine HKY.out.mono ?_
  rintro r w1 ⟨⟨s, hs, rfl⟩, hk1⟩
  have HK1 := Lib.hid hk1
  have HFD1 := Lib.hid (HFD.out s w1 hk1 hs)
  have HKS := Lib.hid (Go.WideMaps.keyOf_string_mk (P := Tryz.prog) Tryz.underlying9 hs)
  clear hk1 hs HFD HKY
  go_wp2_with fail
  refine HFD1.out.mono ?_
  rintro r w2 ⟨hk2, hr⟩
  have HK2 := Lib.hid (HK1.out.trans hk2)
  clear hk2 HFD1 HK1
  rcases hr with rfl | ⟨p, rfl, h0, hc⟩
  · have HNW1 := Lib.hid (HNW.out w2 HK2.out)
    go_wp2_with fail
    refine HNW1.out.mono ?_
    rintro r w3 ⟨⟨pp, rfl, hcode⟩, hk3⟩
    have HK3 := Lib.hid (HK2.out.trans hk3)
    have HCD := Lib.hid hcode
    have HKN := Lib.hid hk3
    clear hk3 hcode HNW HNW1
    by_cases h0 : e = 0
    · subst h0
      obtain ⟨p, rfl, hcode⟩ := HCD.out rfl
      have HCH := Lib.hid (code_held hcode)
      clear hcode HCD
      rcases HK.out.2 with rfl | ⟨b, m, C, rfl, hm⟩
      · have HB3 := Lib.hid (HB.out.keeps HK3.out id)
        have hc0 : w3.cell? ⟨g, i, none⟩ = some (.map none) := (HB3.out.cell i).trans HI.out
        have hq := fun w => run_eql_map_nil (P := Tryz.prog) w 73 9 152 none Tryz.underlying73
        have hmm := @run_makeMap Tryz.prog
        have hf1 : (w3.alloc (.map #[] 0)).frozen? ⟨g, i, none⟩ = false := (HB3.out.alloc _).frozen i
        have hc1 : (w3.alloc (.map #[] 0)).cell? ⟨g, i, none⟩ = some (.map none) := ((HB3.out.alloc _).cell i).trans HI.out
        have hHH : Held (fun k => w2.heap.size ≤ k ∧ k < w3.heap.size) (fun u => IsCode 0 u p (wordsOf (nats' L))) w3 := HCH.out
        obtain ⟨b, hbe⟩ : ∃ b, b = w3.heap.size := ⟨_, rfl⟩
        obtain ⟨WX, hWX⟩ : ∃ W, W = (w3.alloc (.map #[] 0)).setCell ⟨g, i, none⟩ (.map (some b)) := ⟨_, rfl⟩
        have hgb : g < w3.heap.size := HB3.out.lt
        have hk3 := (Keeps.refl (fun _ => False) w3).alloc (.map #[] 0)
        have hkX : Keeps (· = g) (w3.alloc (.map #[] 0)) WX := by rw [hWX]; exact (Keeps.refl _ _).setOwn _ _
        have hszX : WX.heap.size = w3.heap.size + 1 := by rw [hWX]; simp [World.setCell]
        have HWX : Hid (Blk WX g t (cs.setIfInBounds i (.map (some b)))) := by show Blk _ _ _ _; rw [hWX]; exact (HB3.out.alloc _).setCell i _
        have HIX : Hid ((cs.setIfInBounds i (.map (some b)))[i]? = some (.map (some b))) := by
          have h1 := (Array.getElem?_eq_some_iff.1 HI.out).1
          show _ = _
          simp [h1]
        have hc4 : WX.cell? ⟨g, i, none⟩ = some (.map (some b)) := (HWX.out.cell i).trans HIX.out
        have HC : Hid (Held (fun k => w2.heap.size ≤ k ∧ k < w3.heap.size) (fun u => IsCode 0 u p (wordsOf (nats' L))) WX) := (hHH.more hk3).keeps hkX fun k hk e => by
          have h1 := HGT.out
          have h2 := HK2.out.size
          omega
        have HCb : Hid (¬ (w2.heap.size ≤ b ∧ b < w3.heap.size)) := by show ¬ _; omega
        have HCg : Hid (¬ (w2.heap.size ≤ g ∧ g < w3.heap.size)) := by
          have h1 := HGT.out
          have h2 := HK2.out.size
          show ¬ _
          omega
        have HCw : Hid (∀ k, (w2.heap.size ≤ k ∧ k < w3.heap.size) → w.heap.size ≤ k) := fun k hk => Nat.le_trans HK2.out.size hk.1
        have HM : Hid (KeptAt (· = b) (fun _ => False) N b [] WX) := by
          have h1 := (KeptAt.new w3).keeps hkX fun x hx e => by omega
          rw [← hbe] at h1
          exact ⟨h1.inF, h1.out, h1.sub, by simp, h1.map, h1.all⟩
        have HF : Hid (∀ k, k = b → k < WX.heap.size) := fun k hk => by omega
        have HGF : Hid (¬ g = b) := by show ¬ _; omega
        have HS : Hid (Step (fun k => k = g ∨ F k) (fun k => k = g ∨ k = b) w WX) := ⟨(HK3.out.trans hk3).none_.trans (hkX.mono fun k _ e => .inl e), fun k hk => by
          rcases hk with h | h
          · exact .inl (.inl h)
          · have := HK3.out.size
            exact .inr (by omega)⟩
        have HLX : Hid (Ents WX A n L) := ((HL.out.more HK3.out).more hk3).keeps hkX fun h0 b o e => (HE.out h0 b o e).1
        clear hHH hkX hszX hgb hk3
        go_upto_region 10 with fail
        rw [← hbe, ← hWX]
        clear hbe hWX
        have HU := Lib.hid (fun W4 (k4 : Keeps (fun _ => False) WX W4) (v : Value) => update_run (val := v) ((HM.out.keeps k4 fun _ _ => id).map) str_keyed Tryz.underlying73 (by have := HM.out.len; omega) HKS.out)
        go_region_with ((go_at_call 87; refine (clone_g A n c L _ (by exact HLX.out) HEE.out).mono ?_; rintro r w4 ⟨gc, c', rfl, hgc, hlt, hE4, hk4'⟩; have hk4 : Keeps (fun _ => False) WX w4 := hk4'.of_drew; have HE4 := Lib.hid hE4; have HK4 := Lib.hid hk4; have hc4 : w4.cell? ⟨g, i, none⟩ = some (.map (some b)) := ((HWX.out.keeps hk4 id).cell i).trans HIX.out; obtain ⟨w5, hrun, hu5, hk5⟩ := HU.out w4 hk4 (cv (some ⟨gc, 0, none⟩) n c' p); unfold cv at hrun; have HU5 := Lib.hid hu5; have HK5 := Lib.hid hk5; clear hE4 hk4 hk4' hu5 hk5))
        all_goals go_wp2
        all_goals go_ret2
        all_goals exact kept_end HWX.out rfl HM.out HF.out HGF.out HS.out HC.out HCb.out HCg.out HCw.out HEE.out hgc hlt HE4.out HK4.out (by exact HU5.out) HK5.out
      · have HB3 := Lib.hid (HB.out.keeps HK3.out id)
        have hc0 : w3.cell? ⟨g, i, none⟩ = some (.map (some b)) := (HB3.out.cell i).trans HI.out
        have hq := fun w => run_eql_map_nil (P := Tryz.prog) w 73 9 152 (some b) Tryz.underlying73
        have hHH : Held (fun k => w2.heap.size ≤ k ∧ k < w3.heap.size) (fun u => IsCode 0 u p (wordsOf (nats' L))) w3 := HCH.out
        have HCb : Hid (¬ (w2.heap.size ≤ b ∧ b < w3.heap.size)) := by
          have h1 := HK.out.1 b hm.inF
          have h2 := HK2.out.size
          show ¬ _
          omega
        have HCg : Hid (¬ (w2.heap.size ≤ g ∧ g < w3.heap.size)) := by
          have h1 := HGT.out
          have h2 := HK2.out.size
          show ¬ _
          omega
        have HCw : Hid (∀ k, (w2.heap.size ≤ k ∧ k < w3.heap.size) → w.heap.size ≤ k) := fun k hk => Nat.le_trans HK2.out.size hk.1
        have HM := Lib.hid (hm.keeps HK3.out fun _ _ => id)
        have HF : Hid (∀ k, F k → k < w3.heap.size) := fun k hk => Nat.lt_of_lt_of_le (HK.out.1 k hk) HK3.out.size
        have HS := Lib.hid (step_quiet (g := g) (F := F) HK3.out)
        have HLX := Lib.hid (HL.out.more HK3.out)
        obtain ⟨WX, hWX⟩ : ∃ W, W = w3 := ⟨_, rfl⟩
        have HC : Hid (Held (fun k => w2.heap.size ≤ k ∧ k < w3.heap.size) (fun u => IsCode 0 u p (wordsOf (nats' L))) WX) := by show Held _ _ _; rw [hWX]; exact hHH
        rw [← hWX] at HM HB3 HLX HF HS hc0
        rw [← hWX]
        have HWX := HB3
        have HIX := HI
        have HCS : Hid (cs = cs.setIfInBounds i (.map (some b))) := (set_same HI.out).symm
        have HGF : Hid (¬ F g) := hg
        clear hm hHH hWX
        go_upto_region 10 with fail
        have HU := Lib.hid (fun W4 (k4 : Keeps (fun _ => False) WX W4) (v : Value) => update_run (val := v) ((HM.out.keeps k4 fun _ _ => id).map) str_keyed Tryz.underlying73 (by have := HM.out.len; omega) HKS.out)
        go_region_with ((go_at_call 87; refine (clone_g A n c L _ (by exact HLX.out) HEE.out).mono ?_; rintro r w4 ⟨gc, c', rfl, hgc, hlt, hE4, hk4'⟩; have hk4 : Keeps (fun _ => False) WX w4 := hk4'.of_drew; have HE4 := Lib.hid hE4; have HK4 := Lib.hid hk4; have hc4 : w4.cell? ⟨g, i, none⟩ = some (.map (some b)) := ((HWX.out.keeps hk4 id).cell i).trans HIX.out; obtain ⟨w5, hrun, hu5, hk5⟩ := HU.out w4 hk4 (cv (some ⟨gc, 0, none⟩) n c' p); unfold cv at hrun; have HU5 := Lib.hid hu5; have HK5 := Lib.hid hk5; clear hE4 hk4 hk4' hu5 hk5))
        all_goals go_wp2
        all_goals go_ret2
        all_goals exact kept_end HWX.out HCS.out HM.out HF.out HGF.out HS.out HC.out HCb.out HCg.out HCw.out HEE.out hgc hlt HE4.out HK4.out (by exact HU5.out) HK5.out
    · have hne : (e != 0) = true := by simpa using h0
      go_wp2
      go_ret2
      exact ⟨none, mv, F, rfl, by rw [set_same HI.out]; exact HB.out.keeps HK3.out id, hg, (HK.out.keeps HK3.out fun _ _ => id).le (by omega), step_quiet HK3.out, fun h => absurd h h0⟩
  · go_wp2
    go_ret2
    have e0 : e = 0 := by rw [← HEE.out]; exact h0
    exact ⟨some ⟨p, 0, none⟩, mv, F, by rw [e0]; rfl, by rw [set_same HI.out]; exact HB.out.keeps HK2.out id, hg, (HK.out.keeps HK2.out fun _ _ => id).le (by omega), step_quiet HK2.out, fun _ => ⟨p, rfl, hc⟩⟩
end Go.Proofs.YtgaofnmgdefdcaaGreatDoor.Qc

namespace Go.Proofs.YtgaofnmgdefdcaaGreatDoor.Qw
open Go.RowKit Go.Shelf Go.Lib Go.Sort Go.Proofs.YtgaofnmgdefdcaaGreatDoor.Gen Go.Proofs.YtgaofnmgdefdcaaGreatDoor.Mp Go.Proofs.YtgaofnmgdefdcaaGreatDoor.Hr Go.Proofs.YtgaofnmgdefdcaaGreatDoor.Hp Go.Proofs.YtgaofnmgdefdcaaGreatDoor.Hm Go.Proofs.YtgaofnmgdefdcaaGreatDoor.Hg Go.Proofs.YtgaofnmgdefdcaaGreatDoor.So Go.Proofs.YtgaofnmgdefdcaaGreatDoor.Hs Go.Proofs.YtgaofnmgdefdcaaGreatDoor.Hf Go.Proofs.YtgaofnmgdefdcaaGreatDoor.Hz Go.Proofs.YtgaofnmgdefdcaaGreatDoor.Ha Go.Proofs.YtgaofnmgdefdcaaGreatDoor.Ln Go.Proofs.YtgaofnmgdefdcaaGreatDoor.Bp Go.Proofs.YtgaofnmgdefdcaaGreatDoor.Hw Go.Proofs.YtgaofnmgdefdcaaGreatDoor.Hn Go.Proofs.YtgaofnmgdefdcaaGreatDoor.Ds Go.Proofs.YtgaofnmgdefdcaaGreatDoor.Hk

theorem own_cap {w : World} {base : Nat} {e : TypeId} {size n c : Nat} {A : Option Addr} {xs : List Value} (h : w.ownsRow base e size (.slice A n c) n xs) : n ≤ c := by
  obtain ⟨_, _, hv, hc⟩ := own_form h
  injection hv with _ _ h3
  subst h3
  exact hc
theorem own_ne_map {P : Program} {k : TypeId} {w : World} {base : Nat} {e : TypeId} {size n b : Nat} {v : Value} {xs : List Value} {m : List (Lit × Value)} (h : w.ownsRow base e size v n xs) (hb : IsM P k w b m) : v.ownBlock ≠ some b := by
  rcases h.2 with ⟨rfl, _⟩ | ⟨g', cap, cur, rfl, _, hh, _⟩
  · simp [Value.ownBlock]
  · intro he
    have : g' = b := by simpa [Value.ownBlock] using he
    subst this
    exact hb.ne_blk (t := e) hh rfl
theorem key_i (x : Int) (h : (Lit.int .i64 x).wf = true) : keyOf Tryz.prog 3 (.int .i64 x) = some (.int .i64 x) := Go.Maps.keyOf_int_mk Tryz.underlying3 h
/-- What next holds at the head of a size's round. -/
def headOf (L : List (Int × Nat)) : Nat → Nat
  | 0 => 0
  | s + 1 => nextOf (line L (s + 1)) s
theorem line_small (L : List (Int × Nat)) (s : Nat) : ∀ p ∈ line L (s + 1), p.2 ≤ s := fun p hp => by have := (line_mem.1 hp).2; omega
theorem head_twice (L : List (Int × Nat)) {s : Nat} (hs : s ≤ 20) : headOf L s * 2 = nextOf (laid L s 0) s := by
  rw [laid_zero]
  cases s with
  | zero => simp [headOf, line, nextOf, posOf]
  | succ s => rw [headOf, next_step (by omega) (line_small L s)]
theorem head_le (L : List (Int × Nat)) {s : Nat} (hs : s ≤ 21) (hf : posOf (line L s) ≤ 2 ^ 20) : headOf L s ≤ 1048576 := by
  cases s with
  | zero => simp [headOf]
  | succ s =>
    have h1 := next_le (s := s) (by omega) (line_small L s) hf
    have h2 : 2 ^ s ≤ 2 ^ 20 := Nat.pow_le_pow_right (by omega) (by omega)
    rw [headOf]
    omega
theorem head_laid (L : List (Int × Nat)) (s : Nat) : headOf L (s + 1) = nextOf (laid L s L.length) s := by rw [laid_all, headOf]
theorem laid_small (L : List (Int × Nat)) (s i : Nat) : ∀ p ∈ laid L s i, p.2 ≤ s := fun p hp => (laid_mem hp).2

set_option maxHeartbeats 4000000 in
set_option maxRecDepth 4000 in
theorem words_ (A : Option Addr) (n c : Nat) (L : List (Int × Nat)) (K Bl le bi : Int) (w : World) (hL : EntsAt w A L) (hn : L.length = n) (hs : n ≤ 1000) (hz : ∀ p ∈ L, p.2 ≤ 20) (hx : ∀ p ∈ L, (Lit.int .i64 p.1).wf = true) (hd : (L.map (·.1)).Nodup) (hp : posOf L ≤ 2 ^ 20) :
    Calls Tryz.prog 41 #[.agg #[.int .u8 K, .int .i64 Bl, .slice A n c, .int .i64 le, .int .i64 bi]] w fun r w' => Keeps (fun _ => False) w w' ∧ ∃ bm, r = .returned (.map (some bm)) ∧ w.heap.size ≤ bm ∧ ∃ m, IsM Tryz.prog 3 w' bm m ∧ Fa (Wrd w' bm) (wordsOf L) m := by
  have hmm := @run_makeMap Tryz.prog
  have HPL := Lib.hid hp
  clear hp
  have HL := Lib.hid hL
  have HN := Lib.hid hn
  have HZ := Lib.hid hz
  have HX := Lib.hid hx
  have HD := Lib.hid hd
  clear hL hn hz hx hd
  go_enter Tryz.func41, Tryz.ntmps41
  obtain ⟨W0, hW0⟩ : ∃ W0, W0 = w.alloc (.cells #[.int .u8 K, .int .i64 Bl, .slice A n c, .int .i64 le, .int .i64 bi] 43) := ⟨_, rfl⟩
  obtain ⟨gd, hgd⟩ : ∃ g, g = w.heap.size := ⟨_, rfl⟩
  have HD0 : Hid (Blk (W0.alloc (.map #[] 0)) gd 43 #[.int .u8 K, .int .i64 Bl, .slice A n c, .int .i64 le, .int .i64 bi]) := by
    show Blk _ _ _ _
    rw [hW0, hgd]
    exact (Blk.new w 43 _).alloc _
  have HM0 := Lib.hid (IsM.new Tryz.prog 3 W0)
  have HK0 : Hid (Keeps (fun _ => False) w (W0.alloc (.map #[] 0))) := by
    show Keeps _ _ _
    rw [hW0]
    exact ((Keeps.refl _ _).alloc _).alloc _
  have HBM0 : Hid (w.heap.size ≤ W0.heap.size) := by show _ ≤ _; rw [hW0]; simp
  have hsz : W0.heap.size = gd + 1 := by rw [hW0, hgd]; simp
  go_upto_region 2 with fail
  rw [← hW0, ← hgd]
  clear hW0 hgd
  go_upto_region 3 with fail
  obtain ⟨bm, hbm⟩ : ∃ bm, bm = gd + 1 := ⟨_, rfl⟩
  rw [hsz] at HM0 HBM0
  rw [← hbm] at HM0 HBM0 ⊢
  have HGB : Hid (¬ gd = bm) := by show ¬ gd = bm; omega
  have HBM := HBM0
  generalize W0.alloc (.map #[] 0) = W1 at HD0 HM0 HK0 ⊢
  clear hbm hsz HBM0
  go_wp2
  go_loopw [4, 5] (fun nx sz wr => ∃ s : Nat, Hid (Blk wr gd 43 #[.int .u8 K, .int .i64 Bl, .slice A n c, .int .i64 le, .int .i64 bi]) ∧ s ≤ 21 ∧ nx = .int .u32 ((headOf L s : Nat) : Int) ∧ sz = .int .i64 (s : Int) ∧ Wst w wr bm (line L s)) (fun _ sz _ => 21 - (RowKit.intOf sz).toNat)
  case atStart => exact ⟨0, HD0, by omega, rfl, rfl, ⟨⟨[], HM0.out, by simp [line, asg, Fa]⟩, HK0.out, by simp [line, posOf]⟩⟩
  case round =>
    clear HM0 HK0 HD0
    obtain ⟨s, HDB, hs21, rfl, rfl, hst⟩ := hrel
    have HT := Lib.hid hst
    have hhd := head_le L hs21 hst.fits
    clear hst
    by_cases hlt : s ≤ 20
    · have HTW := Lib.hid (head_twice L hlt)
      obtain ⟨hh, hhh⟩ : ∃ hh, hh = headOf L s := ⟨_, rfl⟩
      rw [← hhh] at HTW hhd ⊢
      have hwm : IntKind.u32.wrap ((hh : Int) * 2) = ((hh * 2 : Nat) : Int) := by simp [IntKind.wrap, IntKind.bits, IntKind.signed]; omega
      have hsi : (s : Int) ≤ 20 := by omega
      have hg2 : wr.cell? ⟨gd, 2, none⟩ = some (.slice A n c) := HDB.out.cell 2
      have HT0 : Hid (Wst w wr bm (laid L s 0)) := by show Wst w wr bm (laid L s 0); rw [laid_zero]; exact HT.out
      clear hhh HT
      go_wp2
      go_loopw [4, 18] (fun nx i wx => ∃ d : Nat, Hid (Blk wx gd 43 #[.int .u8 K, .int .i64 Bl, .slice A n c, .int .i64 le, .int .i64 bi]) ∧ d ≤ n ∧ nx = .int .u32 ((nextOf (laid L s d) s : Nat) : Int) ∧ i = .int .i64 (d : Int) ∧ Wst w wx bm (laid L s d)) (fun _ i _ => n - (RowKit.intOf i).toNat)
      case atStart => exact ⟨0, HDB, by omega, by rw [← HTW.out]; go_num, rfl, HT0.out⟩
      case round =>
        clear HT0 HDB hg2
        obtain ⟨d, HDB, hd, rfl, rfl, hst⟩ := hrel
        have HT := Lib.hid hst
        clear hst
        have hnl := next_le hlt (laid_small L s d) HT.out.fits
        have hp20 : 2 ^ s ≤ 2 ^ 20 := Nat.pow_le_pow_right (by omega) hlt
        by_cases hdn : d < n
        · have hdl : d < L.length := by rw [HN.out]; exact hdn
          obtain ⟨b, o, rfl, _, h0, h1⟩ := EntsAt.item (w := wr) (l := L) (RowAt.keeps HL.out HT.out.keeps (fun _ _ _ => id)) hdl
          have hmem : L.getD d (0, 0) ∈ L := by rw [List.getD_eq_getElem?_getD, List.getElem?_eq_getElem hdl]; simp
          have HHIT := Lib.hid (laid_hit (L := L) (s := s) hdl)
          have HMIS := Lib.hid (laid_miss (L := L) (s := s) hdl)
          have HNEW := Lib.hid (laid_new (L := L) (s := s) HD.out hdl)
          have hzz := HZ.out _ hmem
          have HWX := Lib.hid (HX.out _ hmem)
          have HLE : Hid ((L.getD d (0, 0)).2 = s → posOf (laid L s d) + 2 ^ (20 - s) ≤ posOf L) := by
            intro e
            have h2 := laid_le (L := L) (s := s) (i := d + 1)
            rw [HHIT.out e, posOf_app, posOf_one, e] at h2
            exact h2
          obtain ⟨⟨x, z⟩, hxz⟩ : ∃ q, q = L.getD d (0, 0) := ⟨_, rfl⟩
          rw [← hxz] at h0 h1 hzz HHIT HMIS HNEW HWX HLE
          simp only at h0 h1 hzz HHIT HMIS HNEW HWX HLE
          have HTA := Lib.hid (HT.out.next ((Keeps.refl (fun _ => False) wr).alloc (.cells #[.int .i64 x, .int .i64 (z : Int)] 87)))
          have HDA := Lib.hid (HDB.out.keeps ((Keeps.refl (fun _ => False) wr).alloc (.cells #[.int .i64 x, .int .i64 (z : Int)] 87)) id)
          have hd0 : (0 : Int) ≤ (d : Int) := by omega
          have hd1 : (d : Int) < (n : Int) := by omega
          clear hmem hxz hdl hdn
          obtain ⟨nx, hnx⟩ : ∃ nx, nx = nextOf (laid L s d) s := ⟨_, rfl⟩
          rw [← hnx] at hnl ⊢
          have HNX := Lib.hid hnx
          clear hnx
          by_cases hzs : z = s
          · subst hzs
            have hpz : 2 ^ z < 4294967296 := Nat.lt_of_le_of_lt hp20 (by decide)
            have hpw : IntKind.u32.wrap ((2 : Int) ^ z) = ((2 ^ z : Nat) : Int) := by
              have e : ((2 : Int) ^ z) = ((2 ^ z : Nat) : Int) := by simp
              rw [e]
              generalize 2 ^ z = q at hpz ⊢
              simp [IntKind.wrap, IntKind.bits, IntKind.signed]
              omega
            have HNE := Lib.hid (HNEW.out rfl)
            clear HNEW
            have hfit : nx < 2 ^ z := by
              rw [HNX.out]
              exact (next_fits hzz (laid_small L z d)).2 (by have h1 := HLE.out rfl; have h2 := HPL.out; have h3 := Nat.two_pow_pos (20 - z); omega)
            · have hge : ¬ (((2 ^ z : Nat) : Int) ≤ (nx : Int)) := by omega
              have hnw : nx < 4294967296 := by omega
              have HNI : Hid (IntKind.u32.wrap ((nx : Int) + 1) = ((nx + 1 : Nat) : Int)) := by
                have : nx + 1 < 4294967296 := by omega
                show _ = _
                simp [IntKind.wrap, IntKind.bits, IntKind.signed]
                omega
              have HF20 := Lib.hid ((next_fits hzz (laid_small L z d)).1 (by rw [← HNX.out]; exact hfit))
              go_upto_region 11 with fail
              go_cut [18] from 26 to 31 (fun sl wx => sl = .int .i64 (d : Int) ∧ Hid (Blk wx gd 43 #[.int .u8 K, .int .i64 Bl, .slice (some ⟨b, o, none⟩) n c, .int .i64 le, .int .i64 bi]) ∧ Wst w wx bm (laid L z d ++ [(x, z)]))
              case first =>
                go_region_with (
                  go_at_call 42
                  refine (Bq.bits_ nx z _ hnw (by omega)).mono ?_
                  rintro e w2 ⟨A2, c2, rfl, hv2, hk2⟩
                  have HK2 : Hid (Keeps (fun _ => False) (wr.alloc (.cells #[.int .i64 x, .int .i64 (z : Int)] 87)) w2) := Lib.hid hk2.of_drew
                  have hc2 : w2.cell? ⟨wr.heap.size, 0, none⟩ = some (.int .i64 x) := ((Blk.new wr 87 #[.int .i64 x, .int .i64 (z : Int)]).keeps HK2.out id).cell 0
                  have HT2 := Lib.hid (HTA.out.next HK2.out)
                  obtain ⟨m2, hm2, hf2⟩ := HT2.out.ex
                  have hl2 : m2.length ≤ 1000000 := by
                    have h1 := hf2.len
                    rw [asg_len] at h1
                    have h2 := laid_len (L := L) (s := z) (i := d)
                    rw [HN.out] at h2
                    omega
                  obtain ⟨w4, hrun, hm4, hk4⟩ := update_run hm2 int_key Tryz.underlying28 hl2 (key := .int .i64 x) (kl := .int .i64 x) (val := .slice A2 z c2) (key_i x HWX.out)
                  have t2 : Lies w2 A2 (Bq.ib (tb (nextOf (laid L z d) z) z)) := by rw [← HNX.out]; exact Lies.of_own hv2
                  have t3 : ∀ b o, A2 = some ⟨b, o, none⟩ → b ≠ bm := fun b' o' e hb => own_ne_map hv2 hm2 (by rw [e, ← hb]; rfl)
                  have HST := Lib.hid (Wst.store hm2 hf2 HT2.out.keeps (by exact HBM.out) HWX.out HNE.out (laid_small L z d) hzz HF20.out t2 (own_cap hv2) t3 hm4 hk4)
                  have HD4 := Lib.hid ((HDA.out.keeps HK2.out id).keeps hk4 HGB.out)
                  clear hk2 HK2 HT2 hm2 hf2 hl2 hm4 hk4 hv2)
                all_goals go_wp2_with fail
                all_goals go_meet
                all_goals exact ⟨rfl, HD4, HST.out⟩
              case rest =>
                obtain ⟨rfl, HDC, hst⟩ := hcut
                have HST := Lib.hid hst
                clear hst
                go_wp2
                refine ⟨⟨d + 1, HDC, by omega, ?_, by go_num, ?_⟩, by simp [RowKit.intOf]; omega⟩
                · rw [HHIT.out rfl, next_more (laid_small L z d), ← HNX.out]
                  go_num
                · rw [HHIT.out rfl]
                  exact HST.out
          · have hzi : ¬ ((z : Int) = (s : Int)) := by omega
            have hzb : ((z : Int) == (s : Int)) = false := by simpa using hzi
            go_wp2
            refine ⟨⟨d + 1, HDA, by omega, by rw [HMIS.out hzs, HNX.out], by go_num, ?_⟩, by simp [RowKit.intOf]; omega⟩
            rw [HMIS.out hzs]
            exact HTA.out
        · obtain rfl : d = n := by omega
          have hge : ¬ ((d : Int) < (d : Int)) := by omega
          clear hdn
          go_wp2
          refine ⟨⟨s + 1, HDB, by omega, by rw [head_laid, HN.out], by go_num, ?_⟩, by simp [RowKit.intOf]; omega⟩
          have := HT.out
          rw [← HN.out, laid_all] at this
          exact this
    · obtain rfl : s = 21 := by omega
      clear hlt
      go_wp2
      go_ret
      exact ⟨HT.out.keeps, bm, rfl, HBM.out, HT.out.ex⟩
/-- The words of a way that may be. -/
theorem words_d (A : Option Addr) (n c : Nat) (d : D) (w : World) (hL : Ents w A n d.L) (h0 : newE d.L = 0) :
    Calls Tryz.prog 41 #[.agg (dv A n c d)] w fun r w' => Keeps (fun _ => False) w w' ∧ ∃ bm, r = .returned (.map (some bm)) ∧ w.heap.size ≤ bm ∧ ∃ m, IsM Tryz.prog 3 w' bm m ∧ Fa (Wrd w' bm) (wordsOf (nats' d.L)) m := by
  obtain ⟨hlen, herr, hpos⟩ := newE_zero h0
  have hR := right_of herr
  have e : evs (nats' d.L) = gvs d.L := by rw [← gvs_ints, hR.ints]
  refine words_ A n c (nats' d.L) d.K d.B d.le d.bi w (by show RowAt w A (evs (nats' d.L)); rw [e]; exact hL.1) (by rw [nats', List.length_map]; exact hL.2.1) hL.2.2 hR.sizes (fun p hp => ?_) hR.keys hpos
  have := hR.nums p hp
  have hm : IntKind.i64.min = -9223372036854775808 ∧ IntKind.i64.max = 9223372036854775807 := by decide
  simp [Lit.wf, hm.1, hm.2]
  omega
end Go.Proofs.YtgaofnmgdefdcaaGreatDoor.Qw

/- codes.Kept.find: the code of entries that have this key, if it is kept; whatever the key is. -/
/- quill.into: the block of this number, laid if it wasn't there. No conditions. -/
/-
  DERIVED: THE SHELF's CONTRACTS AT THIS DUMP, IN PLAIN WORDS (tools/lay-plain.mjs out of 'YtgaofnmgdefdcaaGreatDoorKeyShelf.lean', which tools/lay-shelf.mjs wrote): THE SAME DECLARATIONS UNDER THE SAME NAMES: 'import', 'namespace', 'open', 'def', 'theorem' AND NOTHING ELSE: no command of the shelf's: FOR A HAND-IN. Each laying: the table of numbers ('.._ren') and one theorem, a field a fact of the dump's own or the kernel's comparison; each contract: ONE APPLICATION.
-/
/- huff.Key: each entry's number and size as text, each with an end of its own. The condition: strconv's table of tens reads as its text lays it. -/
/- Whether ways may be (desc's Check): any ways. -/
/- Ways put behind what a Writer has (desc's Put): their bytes, or the error and nothing. -/
import Derived.Test.YtgaofnmgdefdcaaGreatDoorJJItfWrDsPlJBitWQQlSt
import Derived.Test.YtgaofnmgdefdcaaGreatDoorDsSame
import Derived.StringKeys
import Derived.Test.YtgaofnmgdefdcaaGreatDoorJJHufWordHufSfJHufNewHufNewC
import Derived.Shelf.Strconv.AppendIntPublic10
import Derived.Ground.NamesProg
import Derived.Test.YtgaofnmgdefdcaaGreatDoorProg
import Derived.Test.YtgaofnmgdefdcaaGreatDoorHufStS
import Derived.Lib.AppendIntMem
import Derived.Lib.ItoaLen
import Derived.Lib.BufferRead
import Derived.Lib.Slices
import Derived.Laws.IdiomStrings
import Derived.OwnWalk
import Derived.BigCall


namespace Go.Proofs.YtgaofnmgdefdcaaGreatDoor.Qf
open Go.RowKit Go.Proofs.YtgaofnmgdefdcaaGreatDoor.Gen Go.Proofs.YtgaofnmgdefdcaaGreatDoor.Mp Go.Proofs.YtgaofnmgdefdcaaGreatDoor.Cm Go.Proofs.YtgaofnmgdefdcaaGreatDoor.Hr Go.Proofs.YtgaofnmgdefdcaaGreatDoor.Hn Go.Proofs.YtgaofnmgdefdcaaGreatDoor.Hk Go.Proofs.YtgaofnmgdefdcaaGreatDoor.Ln Go.Proofs.YtgaofnmgdefdcaaGreatDoor.Ds Go.Proofs.YtgaofnmgdefdcaaGreatDoor.Qh Go.Proofs.YtgaofnmgdefdcaaGreatDoor.Qs

theorem zero_coded (w : World) : (zeroValue 152).run Tryz.prog w = .ok (.agg #[.slice none 0 0, .pointer none]) w := by kernel_rfl
theorem str_keyed : Go.Maps.Keyed Tryz.prog 9 := Go.Maps.string_keyed Tryz.underlying9
theorem look_none {P : Program} {t k e : TypeId} {kd : TypeDesc} (ht : P.underlying t = some (.map k e)) (hu : P.underlying k = some kd) (key : Value) (w : World) (hc : (Instr.checkKey true 10000 k key).run P w = .ok () w) {z : Value} (hz : (zeroValue e).run P w = .ok z w) :
    (Instr.lookup t (.map none) key true).run P w = .ok (.tuple #[z, .bool false]) w := by
  unfold Instr.lookup
  simp [run_underlying ht, hc, hz, Instr.findKey, run_underlying hu, Instr.findNow, Result.andThen]
theorem look_nil (s : ByteArray) (w : World) : (Instr.lookup 73 (.map none) (.string s) true).run Tryz.prog w = .ok (.tuple #[.agg #[.slice none 0 0, .pointer none], .bool false]) w :=
  look_none Tryz.underlying73 Tryz.underlying9 _ w (by unfold Instr.checkKey; simp [Tryz.underlying9, go_sem]) (zero_coded w)
/-- What find answers: no code; or the code of just these entries. -/
def Found (F : Nat → Prop) (L : List G) (w w' : World) (r : Ending) : Prop :=
  Keeps (fun _ => False) w w' ∧ (r = .returned (.tuple #[.pointer none, .bool false]) ∨ ∃ p, r = .returned (.tuple #[.pointer (some ⟨p, 0, none⟩), .bool true]) ∧ newE L = 0 ∧ Held F (fun u => IsCode 0 u p (wordsOf (nats' L))) w')

set_option maxHeartbeats 8000000 in
set_option maxRecDepth 100000 in
theorem find_ (g i : Nat) (F : Nat → Prop) (N : Nat) (mv : Value) (s : ByteArray) (A : Option Addr) (n c : Nat) (L : List G) (w : World) (hs : s.size ≤ maxLen) (hc : w.cell? ⟨g, i, none⟩ = some mv) (hk : Kept F N mv w) (hL : Ents w A n L) :
    Calls Tryz.prog 58 #[.pointer (some ⟨g, i, none⟩), .string s, .slice A n c] w fun r w' => Found F L w w' r := by
  have HL := Lib.hid hL
  have HEQ := Lib.hid (fun A' n' c' M W h => equal_ A' A n' n c' c M L W h)
  clear hL
  rcases hk.2 with rfl | ⟨b, m, C, rfl, hm⟩
  · have hl := look_nil s
    clear HEQ
    go_enter Tryz.func58, Tryz.ntmps58
    go_wp2
    go_ret2
    exact ⟨(Keeps.refl _ _).alloc _, .inl rfl⟩
  · have hkey := Go.WideMaps.keyOf_string_mk (P := Tryz.prog) Tryz.underlying9 hs
    have hlook := fun W (h : IsM Tryz.prog 9 W b m) => h.look W str_keyed Tryz.underlying73 (zero_coded W) hkey
    by_cases hin : Lit.string s.data.toList ∈ m.map (·.1)
    · obtain ⟨e, he, hek⟩ := List.mem_map.1 hin
      obtain ⟨kl, v⟩ := e
      simp only at hek
      subst hek
      have hl := ((hlook w hm.map).1 v he).2
      obtain ⟨A', n', c', p, M, rfl, hM, hH⟩ := hm.held hk.1 he
      have HH := Lib.hid hH
      have HM := Lib.hid hM
      have HQ := Lib.hid (fun W (k : Keeps (fun _ => False) w W) => HEQ.out A' n' c' M W (hH.more k).out.1 (HL.out.more k))
      clear hH hM hin he hlook HEQ
      obtain ⟨q, hq⟩ : ∃ q, decide (M = L) = q := ⟨_, rfl⟩
      rw [hq] at HQ
      unfold cv at hl
      have HB := Lib.hid (Blk.new w 152 #[.slice A' n' c', .pointer (some ⟨p, 0, none⟩)])
      have HK := Lib.hid ((Keeps.refl (fun _ => False) w).alloc (.cells #[.slice A' n' c', .pointer (some ⟨p, 0, none⟩)] 152))
      have hb0 : (w.alloc (.cells #[.slice A' n' c', .pointer (some ⟨p, 0, none⟩)] 152)).cell? ⟨w.heap.size, 0, none⟩ = some (.slice A' n' c') := HB.out.cell 0
      cases q with
      | true =>
        have hLM : M = L := by simpa using hq
        subst hLM
        go_enter Tryz.func58, Tryz.ntmps58
        go_wp2_with (
          go_at_call 84
          refine (HQ.out _ HK.out).mono ?_
          rintro e w1 ⟨rfl, hk1⟩
          have hb1 : w1.cell? ⟨w.heap.size, 1, none⟩ = some (.pointer (some ⟨p, 0, none⟩)) := (HB.out.keeps hk1 id).cell 1
          have HK1 := Lib.hid (HK.out.trans hk1)
          clear hk1)
        go_ret2
        exact ⟨HK1.out, .inr ⟨p, rfl, HM.out, (HH.out.more HK1.out).imp fun u hu => hu.2⟩⟩
      | false =>
        go_enter Tryz.func58, Tryz.ntmps58
        go_wp2_with (
          go_at_call 84
          refine (HQ.out _ HK.out).mono ?_
          rintro e w1 ⟨rfl, hk1⟩
          have HK1 := Lib.hid (HK.out.trans hk1)
          clear hk1)
        go_ret2
        exact ⟨HK1.out, .inl rfl⟩
    · have hl := ((hlook w hm.map).2 hin).2
      clear HEQ hlook
      go_enter Tryz.func58, Tryz.ntmps58
      go_wp2
      go_ret2
      exact ⟨(Keeps.refl _ _).alloc _, .inl rfl⟩
end Go.Proofs.YtgaofnmgdefdcaaGreatDoor.Qf

namespace Go.Proofs.YtgaofnmgdefdcaaGreatDoor.Qi
open Go.RowKit Go.Proofs.YtgaofnmgdefdcaaGreatDoor.Gen Go.Proofs.YtgaofnmgdefdcaaGreatDoor.Mp Go.Proofs.YtgaofnmgdefdcaaGreatDoor.Cm Go.Proofs.YtgaofnmgdefdcaaGreatDoor.Hw Go.Proofs.YtgaofnmgdefdcaaGreatDoor.Qh Go.Proofs.YtgaofnmgdefdcaaGreatDoor.Qs Go.Proofs.YtgaofnmgdefdcaaGreatDoor.Ww

theorem IsF.update_run {P : Program} {k e t : TypeId} {N b : Nat} {kv : Nat → Value} {kl : Nat → Lit} {val : Nat → Option Value} {w : World} (K : Ks P k N kv kl) (h : IsF P k N kl w b val) (ht : P.underlying t = some (.map k e)) (hN : N ≤ 1000000) {i : Nat} (hi : i < N) (v : Value) :
    ∃ w', (Instr.mapUpdate t (.map (some b)) (kv i) v).run P w = .ok () w' ∧ IsF P k N kl w' b (putF val i v) ∧ Keeps (· = b) w w' := by
  obtain ⟨m, h1, h2⟩ := h
  obtain ⟨w', r1, r2, r3⟩ := Hw.update_run (val := v) h1 K.keyed ht (by have := IsF.m_le K h1 h2; omega) (K.ok i hi)
  exact ⟨w', r1, ⟨_, r2, h2.put K hi v⟩, r3⟩
theorem zero_pit (w : World) : (zeroValue 79).run Tryz.prog w = .ok (.pointer none) w := by kernel_rfl
/-- What a block of this number has, or nothing. -/
def had (G : Gs) (i : Nat) : List Int := ((G i).map (·.2.2)).getD []
/-- What into answers. -/
def Into (g : Nat) (t : TypeId) (cs : Array Value) (F : Nat → Prop) (G : Gs) (i : Nat) (w w' : World) (r : Ending) : Prop :=
  ∃ gi vi mb' F', r = .returned (.pointer (some ⟨gi, 0, none⟩)) ∧ Blk w' g t (cs.setIfInBounds 3 mb') ∧ ¬ F' g ∧ Wms F' mb' (pu G i (gi, vi, had G i)) w' ∧ Step (fun k => k = g ∨ F k) (fun k => k = g ∨ F' k) w w'
theorem set_same {cs : Array Value} {i : Nat} {v : Value} (h : cs[i]? = some v) : cs.setIfInBounds i v = cs := by
  obtain ⟨hi, hv⟩ := Array.getElem?_eq_some_iff.1 h
  apply Array.ext
  · simp
  · intro j h1 h2
    rw [Array.getElem_setIfInBounds (by simpa using h1)]
    split
    · rename_i hij
      subst hij
      exact hv.symm
    · rfl
theorem pu_same {G : Gs} {i : Nat} {e : W1} (h : G i = some e) : pu G i e = G := by
  funext j
  unfold pu
  split
  · rename_i hj
    rw [hj, h]
  · rfl
/-- The end of into: a new block is laid. -/
theorem into_end {g b i : Nat} {t : TypeId} {cs cs1 : Array Value} {F F1 : Nat → Prop} {G : Gs} {w W W5 : World}
    (hw : Blk W g t cs1) (hcs : cs1 = cs.setIfInBounds 3 (.map (some b))) (hm : WmsAt F1 b G W) (hF : ∀ k, F1 k → k < W.heap.size) (hg : ¬ F1 g) (hs : Step (fun k => k = g ∨ F k) (fun k => k = g ∨ F1 k) w W) (hi : i < 60001) (hG : G i = none)
    (hu : IsF Tryz.prog 3 60001 ikl W5 b (putF (fun i => (G i).map wptr) i (.pointer (some ⟨W.heap.size, 0, none⟩)))) (k5 : Keeps (· = b) (W.alloc (.cells #[.slice none 0 0] 85)) W5) :
    Into g t cs F G i w W5 (.returned (.pointer (some ⟨W.heap.size, 0, none⟩))) := by
  have hgb : b ≠ g := fun e => hg (e ▸ hm.inF)
  have k4 := (Keeps.refl (fun _ => False) W).alloc (.cells #[.slice none 0 0] 85)
  have hsz : W.heap.size < W5.heap.size := by
    have h1 := k5.size
    have h2 : (W.alloc (.cells #[.slice none 0 0] 85)).heap.size = W.heap.size + 1 := by simp
    omega
  have hadd := hm.add hF hi hG hu k5
  refine ⟨W.heap.size, .slice none 0 0, .map (some b), fun k => F1 k ∨ k = W.heap.size, rfl, ?_, ?_, ⟨fun k hk => ?_, .inr ⟨b, rfl, ?_⟩⟩, ⟨?_, fun k hk => ?_⟩⟩
  · rw [← hcs]
    exact (hw.keeps k4 id).keeps k5 (Ne.symm hgb)
  · rintro (h | h)
    · exact hg h
    · have := hw.lt
      omega
  · rcases hk with h | h
    · have := hF k h
      omega
    · omega
  · have e : had G i = [] := by simp [had, hG]
    rw [e]
    exact hadd
  · have h1 := (Step.quiet (F := fun k => k = g ∨ F1 k) k4).trans ⟨k5.mono (fun k _ e => by subst e; exact .inr hm.inF), fun _ => .inl⟩
    exact (hs.trans h1).keeps
  · rcases hk with rfl | h | h
    · exact .inl (.inl rfl)
    · exact hs.sub k (.inr h)
    · exact .inr (by have := hs.keeps.size; omega)

set_option maxHeartbeats 16000000 in
set_option maxRecDepth 100000 in
theorem into_ (g : Nat) (t : TypeId) (cs : Array Value) (F : Nat → Prop) (mb : Value) (G : Gs) (i : Nat) (w : World) (hi : i < 60001)
    (hb : Blk w g t cs) (h3 : cs[3]? = some mb) (hg : ¬ F g) (hw : Wms F mb G w) :
    Calls Tryz.prog 34 #[.pointer (some ⟨g, 0, none⟩), .int .i64 (i : Int)] w fun r w' => Into g t cs F G i w w' r := by
  have HB := Lib.hid hb
  have HI := Lib.hid h3
  have HW := Lib.hid hw
  have HGT : Hid (g < w.heap.size) := hb.lt
  clear hb h3
  rcases hw.2 with ⟨rfl, hG⟩ | ⟨b, rfl, hm⟩
  · have hc0 : w.cell? ⟨g, 3, none⟩ = some (.map none) := (HB.out.cell 3).trans HI.out
    have hq := fun w => run_eql_map_nil (P := Tryz.prog) w 72 3 79 none Tryz.underlying72
    have hmm := @run_makeMap Tryz.prog
    have hf1 : (w.alloc (.map #[] 0)).frozen? ⟨g, 3, none⟩ = false := (HB.out.alloc _).frozen 3
    have hc1 : (w.alloc (.map #[] 0)).cell? ⟨g, 3, none⟩ = some (.map none) := ((HB.out.alloc _).cell 3).trans HI.out
    obtain ⟨b, hbe⟩ : ∃ b, b = w.heap.size := ⟨_, rfl⟩
    obtain ⟨WX, hWX⟩ : ∃ W, W = (w.alloc (.map #[] 0)).setCell ⟨g, 3, none⟩ (.map (some b)) := ⟨_, rfl⟩
    have hgb : g < w.heap.size := HGT.out
    have hk3 := (Keeps.refl (fun _ => False) w).alloc (.map #[] 0)
    have hkX : Keeps (· = g) (w.alloc (.map #[] 0)) WX := by rw [hWX]; exact (Keeps.refl _ _).setOwn _ _
    have hszX : WX.heap.size = w.heap.size + 1 := by rw [hWX]; simp [World.setCell]
    have HWX : Hid (Blk WX g t (cs.setIfInBounds 3 (.map (some b)))) := by show Blk _ _ _ _; rw [hWX]; exact (HB.out.alloc _).setCell 3 _
    have HIX : Hid ((cs.setIfInBounds 3 (.map (some b)))[3]? = some (.map (some b))) := by
      have h1 := (Array.getElem?_eq_some_iff.1 HI.out).1
      show _ = _
      simp [h1]
    have hG0 : G = fun _ => none := funext hG
    have HM : Hid (WmsAt (· = b) b G WX) := by
      have h1 := (WmsAt.new w).keeps hkX fun x hx e => by omega
      rw [← hbe] at h1
      show WmsAt _ _ _ _
      rw [hG0]
      exact h1
    have HF : Hid (∀ k, k = b → k < WX.heap.size) := fun k hk => by omega
    have HGF : Hid (¬ g = b) := by show ¬ _; omega
    have HS : Hid (Step (fun k => k = g ∨ F k) (fun k => k = g ∨ k = b) w WX) := ⟨hk3.none_.trans (hkX.mono fun k _ e => .inl e), fun k hk => by
      rcases hk with h | h
      · exact .inl (.inl h)
      · exact .inr (by omega)⟩
    have HGI : Hid (G i = none) := hG i
    clear hG0 hkX hszX hgb hk3 hw hG
    go_enter Tryz.func34, Tryz.ntmps34
    go_upto_region 3 with fail
    rw [← hbe, ← hWX]
    have hc4 : WX.cell? ⟨g, 3, none⟩ = some (.map (some b)) := (HWX.out.cell 3).trans HIX.out
    have hlk := ((HM.out.map.look int_ks Tryz.underlying72 (zero_pit WX) hi).2 (by rw [HGI.out]; rfl)).2
    unfold ikv at hlk
    have hc5 : (WX.alloc (.cells #[.slice none 0 0] 85)).cell? ⟨g, 3, none⟩ = some (.map (some b)) := ((HWX.out.alloc _).cell 3).trans HIX.out
    obtain ⟨W5, hrun, hu5, hk5⟩ := IsF.update_run int_ks (HM.out.map.keeps ((Keeps.refl (fun _ => False) WX).alloc (.cells #[.slice none 0 0] 85)) id) Tryz.underlying72 (by omega) hi (.pointer (some ⟨WX.heap.size, 0, none⟩))
    unfold ikv at hrun
    have HU5 := Lib.hid hu5
    have HK5 := Lib.hid hk5
    clear hbe hWX hu5 hk5
    go_wp2
    go_ret
    exact into_end HWX.out rfl HM.out HF.out HGF.out HS.out hi HGI.out HU5.out HK5.out
  · have hc0 : w.cell? ⟨g, 3, none⟩ = some (.map (some b)) := (HB.out.cell 3).trans HI.out
    have hq := fun w => run_eql_map_nil (P := Tryz.prog) w 72 3 79 (some b) Tryz.underlying72
    have HM := Lib.hid hm
    have HLK := Lib.hid (hm.map.look int_ks Tryz.underlying72 (zero_pit w) hi)
    clear hm hw
    cases hGi : G i with
    | some e =>
      obtain ⟨gi, vi, ys⟩ := e
      have hlk := (HLK.out.1 (.pointer (some ⟨gi, 0, none⟩)) (by rw [hGi]; rfl)).2
      unfold ikv at hlk
      have HGI := Lib.hid hGi
      clear hGi
      go_enter Tryz.func34, Tryz.ntmps34
      go_wp2
      go_ret
      refine ⟨gi, vi, .map (some b), F, rfl, by rw [set_same HI.out]; exact HB.out, hg, ?_, Step.refl _ _⟩
      have e : had G i = ys := by simp [had, HGI.out]
      rw [e, pu_same HGI.out]
      exact HW.out
    | none =>
      have hlk := (HLK.out.2 (by rw [hGi]; rfl)).2
      unfold ikv at hlk
      have hc5 : (w.alloc (.cells #[.slice none 0 0] 85)).cell? ⟨g, 3, none⟩ = some (.map (some b)) := ((HB.out.alloc _).cell 3).trans HI.out
      obtain ⟨W5, hrun, hu5, hk5⟩ := IsF.update_run int_ks (HM.out.map.keeps ((Keeps.refl (fun _ => False) w).alloc (.cells #[.slice none 0 0] 85)) id) Tryz.underlying72 (by omega) hi (.pointer (some ⟨w.heap.size, 0, none⟩))
      unfold ikv at hrun
      have HU5 := Lib.hid hu5
      have HK5 := Lib.hid hk5
      have HGI := Lib.hid hGi
      clear hu5 hk5 hGi HLK
      go_enter Tryz.func34, Tryz.ntmps34
      go_wp2
      go_ret
      exact into_end HB.out (set_same HI.out).symm HM.out HW.out.1 hg (Step.refl _ _) hi HGI.out HU5.out HK5.out
end Go.Proofs.YtgaofnmgdefdcaaGreatDoor.Qi


namespace Go.Proofs
open Go.Shelf
def Tryz.laysAI_ren : Go.Shelf.Ren := ⟨fun | 176 => 85 | 249 => 104 | 288 => 121 | 283 => 130 | 284 => 131 | 285 => 132 | 286 => 133 | 129 => 105 | 317 => 138 | 318 => 139 | 319 => 140 | 320 => 141 | 337 => 145 | 338 => 146 | n => n, fun | 37 => 29 | 2 => 2 | 3 => 3 | 53 => 69 | 4 => 4 | 9 => 9 | 171 => 194 | 0 => 0 | 173 => 196 | 212 => 205 | 51 => 88 | 5 => 5 | 20 => 20 | 213 => 206 | 46 => 159 | 232 => 209 | 233 => 210 | n => n, fun | 17 => 1 | 18 => 2 | 19 => 3 | n => n⟩
theorem Tryz.laysAI : Go.Proofs.LaysM.n176 Tryz.prog Tryz.laysAI_ren := {
  mixed := by kernel_rfl
  f129 := Tryz.func105.trans (congrArg some (by kernel_rfl))
  f176 := Tryz.func85.trans (congrArg some (by kernel_rfl))
  f249 := Tryz.func104.trans (congrArg some (by kernel_rfl))
  f283 := Tryz.func130.trans (congrArg some (by kernel_rfl))
  f284 := Tryz.func131.trans (congrArg some (by kernel_rfl))
  f285 := Tryz.func132.trans (congrArg some (by kernel_rfl))
  f286 := Tryz.func133.trans (congrArg some (by kernel_rfl))
  f288 := Tryz.func121.trans (congrArg some (by kernel_rfl))
  f317 := Tryz.func138.trans (congrArg some (by kernel_rfl))
  f318 := Tryz.func139.trans (congrArg some (by kernel_rfl))
  f319 := Tryz.func140.trans (congrArg some (by kernel_rfl))
  f320 := Tryz.func141.trans (congrArg some (by kernel_rfl))
  f337 := Tryz.func145.trans (congrArg some (by kernel_rfl))
  f338 := Tryz.func146.trans (congrArg some (by kernel_rfl))
  t0 := Tryz.underlying0
  a0 := Tryz.isAgg0
  z0 := Tryz.sizeOf0
  v0 := Tryz.zeroValue0
  t2 := Tryz.underlying2
  a2 := Tryz.isAgg2
  z2 := Tryz.sizeOf2
  v2 := Tryz.zeroValue2
  t3 := Tryz.underlying3
  a3 := Tryz.isAgg3
  z3 := Tryz.sizeOf3
  v3 := Tryz.zeroValue3
  t4 := Tryz.underlying4
  a4 := Tryz.isAgg4
  z4 := Tryz.sizeOf4
  v4 := Tryz.zeroValue4
  t5 := Tryz.underlying5
  a5 := Tryz.isAgg5
  z5 := Tryz.sizeOf5
  v5 := Tryz.zeroValue5
  t9 := Tryz.underlying9
  a9 := Tryz.isAgg9
  z9 := Tryz.sizeOf9
  v9 := Tryz.zeroValue9
  t20 := Tryz.underlying20
  a20 := Tryz.isAgg20
  z20 := Tryz.sizeOf20
  v20 := Tryz.zeroValue20
  t37 := Tryz.underlying29
  a37 := Tryz.isAgg29
  z37 := Tryz.sizeOf29
  v37 := Tryz.zeroValue29
  t46 := Tryz.underlying159
  a46 := Tryz.isAgg159
  z46 := Tryz.sizeOf159
  v46 := Tryz.zeroValue159
  t51 := Tryz.underlying88
  a51 := Tryz.isAgg88
  z51 := Tryz.sizeOf88
  v51 := Tryz.zeroValue88
  t53 := Tryz.underlying69
  a53 := Tryz.isAgg69
  z53 := Tryz.sizeOf69
  v53 := Tryz.zeroValue69
  t171 := Tryz.underlying194
  a171 := Tryz.isAgg194
  z171 := Tryz.sizeOf194
  v171 := Tryz.zeroValue194
  t173 := Tryz.underlying196
  a173 := Tryz.isAgg196
  z173 := Tryz.sizeOf196
  v173 := Tryz.zeroValue196
  t212 := Tryz.underlying205
  a212 := Tryz.isAgg205
  z212 := Tryz.sizeOf205
  v212 := Tryz.zeroValue205
  t213 := Tryz.underlying206
  a213 := Tryz.isAgg206
  z213 := Tryz.sizeOf206
  t232 := Tryz.underlying209
  a232 := Tryz.isAgg209
  z232 := Tryz.sizeOf209
  v232 := Tryz.zeroValue209
  t233 := Tryz.underlying210
  a233 := Tryz.isAgg210
  z233 := Tryz.sizeOf210
  v233 := Tryz.zeroValue210
  g17 := by kernel_rfl
  g18 := by kernel_rfl
  g19 := by kernel_rfl
  i0 := by kernel_rfl
  i2 := by kernel_rfl
  i3 := by kernel_rfl
  i4 := by kernel_rfl
  i5 := by kernel_rfl
  i9 := by kernel_rfl
  i20 := by kernel_rfl
  i37 := by kernel_rfl
  i46 := by kernel_rfl
  i51 := by kernel_rfl
  i53 := by kernel_rfl
  i171 := by kernel_rfl
  i173 := by kernel_rfl
  i212 := by kernel_rfl
  i232 := by kernel_rfl
  i233 := by kernel_rfl
  m17 := by kernel_rfl
  m18 := by kernel_rfl
  m19 := by kernel_rfl }
end Go.Proofs

namespace Go.Proofs.YtgaofnmgdefdcaaGreatDoor.Ky
open Go.RowKit Go.Shelf Go.Proofs.YtgaofnmgdefdcaaGreatDoor.Gen Go.Proofs.YtgaofnmgdefdcaaGreatDoor.Hr Go.Proofs.YtgaofnmgdefdcaaGreatDoor.Hn

/-- An entry's text. -/
def ent1 (x : G) : List UInt8 := Lib.itoa x.1 ++ 58 :: (Lib.itoa x.2 ++ [32])
def keyT (L : List G) : List UInt8 := L.flatMap ent1
theorem keyT_snoc (L : List G) (x : G) : keyT (L ++ [x]) = keyT L ++ ent1 x := by simp [keyT]
/-- What an int holds. -/
def Fits (x : G) : Prop := (-9223372036854775808 ≤ x.1 ∧ x.1 ≤ 9223372036854775807) ∧ (-9223372036854775808 ≤ x.2 ∧ x.2 ≤ 9223372036854775807)
theorem ent1_len {x : G} (h : Fits x) : (ent1 x).length ≤ 44 ∧ 2 ≤ (ent1 x).length := by
  have h1 := Lib.itoa_length_le x.1 h.1.1 h.1.2
  have h2 := Lib.itoa_length_le x.2 h.2.1 h.2.2
  simp only [ent1, List.length_append, List.length_cons, List.length_nil]
  omega
theorem u8_info' : (Tryz.prog.info? 5).map (fun i => (i.zero, i.size, i.bytes)) = some (some (.int .u8 0), 1, 1) := by kernel_rfl
theorem keyT_take (L : List G) {d : Nat} (h : d < L.length) : keyT (L.take (d + 1)) = keyT (L.take d) ++ ent1 (L.getD d (0, 0)) := by
  rw [List.take_add_one, List.getElem?_eq_getElem h, List.getD_eq_getElem?_getD, List.getElem?_eq_getElem h]
  exact keyT_snoc _ _
theorem keyT_len {L : List G} (h : ∀ x ∈ L, Fits x) : (keyT L).length ≤ 44 * L.length := by
  induction L with
  | nil => simp [keyT]
  | cons x L ih =>
    have h1 := ih fun y hy => h y (List.mem_cons_of_mem _ hy)
    have h2 := (ent1_len (h x List.mem_cons_self)).1
    simp only [keyT, List.flatMap_cons, List.length_append, List.length_cons] at h1 ⊢
    omega

theorem appendInt_ (B n : Nat) (i : Int) (h : -9223372036854775808 ≤ i ∧ i ≤ 9223372036854775807) (sv : Value) (xs : List UInt8) (w : World) (hown : w.ownsRow B 5 1 sv n (Lib.byteCells xs)) (hBw : B ≤ w.heap.size) (hlim : n + 21 ≤ 140737488355328)
    (htab : Lib.TabBelow Tryz.prog B w "internal/strconv.uint64pow10" .u64 Lib.pow10Tab) :
    Calls Tryz.prog 85 #[sv, .int .i64 i, .int .i64 10] w fun e w' => ∃ v', e = .returned v' ∧ w'.ownsRow B 5 1 v' (n + (Lib.itoa i).length) (Lib.byteCells (xs ++ Lib.itoa i)) ∧ Below B w w' ∧ Lib.OthersKept 5 none w w' := by
  rw [Lib.byteCells_append]
  exact Any.strconv_AppendInt_10 Tryz.laysAI B n i h.1 h.2 sv (Lib.byteCells xs) w hown hBw hlim htab
theorem Blk.others {w w' : World} {g : Nat} {t : TypeId} {cs : Array Value} (h : Blk w g t cs) (k : Lib.OthersKept 5 none w w') (ht : t ≠ 5) : Blk w' g t cs :=
  k g _ h (by simp) fun c fz e => ht (by injection e)

set_option maxHeartbeats 6400000 in
set_option maxRecDepth 100000 in
theorem key_ (A : Option Addr) (n c : Nat) (L : List G) (w : World) (hL : RowAt w A (gvs L)) (hn : L.length = n) (hs : n ≤ 1000) (hf : ∀ x ∈ L, Fits x)
    (htab : Lib.TabIs Tryz.prog w "internal/strconv.uint64pow10" .u64 Lib.pow10Tab) :
    Calls Tryz.prog 59 #[.slice A n c] w fun r w' => r = .returned (.string ⟨(keyT L).toArray⟩) ∧ Below w.heap.size w w' := by
  obtain ⟨i0, hi, hz0, hz1, hz2⟩ := info_parts u8_info'
  have HTB := Lib.hid (Lib.tabBelow_of_tabIs htab)
  have HL := Lib.hid hL
  have HN := Lib.hid hn
  have HF := Lib.hid hf
  clear hL hn hf htab
  go_enter Tryz.func59, Tryz.ntmps59
  go_wp2
  go_loopw [3, 8] (fun b i wx => ∃ d : Nat, d ≤ n ∧ i = .int .i64 (d : Int) ∧ wx.ownsRow w.heap.size 5 1 b (keyT (L.take d)).length (Lib.byteCells (keyT (L.take d))) ∧ Below w.heap.size w wx) (fun _ i _ => n - (intOf i).toNat)
  case atStart => exact ⟨0, by omega, rfl, by rw [List.take_zero]; exact World.ownsRow_nil _ _ _ _, Below.refl _ _⟩
  case round =>
    obtain ⟨d, hd, rfl, hown, hbel⟩ := hrel
    obtain ⟨T, hT⟩ : ∃ T, T = keyT (L.take d) := ⟨_, rfl⟩
    rw [← hT] at hown
    have hlen : T.length ≤ 44000 := by
      have h1 := keyT_len (L := L.take d) fun x hx => HF.out x (List.mem_of_mem_take hx)
      rw [List.length_take, ← hT] at h1
      have := HN.out
      omega
    have HT := Lib.hid hT
    have HO := Lib.hid hown
    have HB := Lib.hid hbel
    clear hT hown hbel
    have hsz := HB.out.size
    by_cases hdn : d < n
    · have hdl : d < L.length := by rw [HN.out]; exact hdn
      have HNX := Lib.hid (keyT_take L hdl)
      obtain ⟨b, o, rfl, _, h0, h1⟩ := g_item (w := wr) (l := L) (RowAt.keeps HL.out (Keeps.of_below (S := fun _ => False) HB.out) (fun _ _ _ => id)) hdl
      have hmem : L.getD d (0, 0) ∈ L := by rw [List.getD_eq_getElem?_getD, List.getElem?_eq_getElem hdl]; simp
      have hfit := HF.out _ hmem
      obtain ⟨⟨x, z⟩, hxz⟩ : ∃ q, q = L.getD d (0, 0) := ⟨_, rfl⟩
      rw [← hxz] at h0 h1 hfit HNX
      simp only at h0 h1
      obtain ⟨⟨x0, x1⟩, ⟨z0, z1⟩⟩ := hfit
      have lx := Lib.itoa_length_le x x0 x1
      have lz := Lib.itoa_length_le z z0 z1
      have HX := Lib.hid (And.intro x0 x1)
      have HZ := Lib.hid (And.intro z0 z1)
      have hd0 : (0 : Int) ≤ (d : Int) := by omega
      have hd1 : (d : Int) < (n : Int) := by omega
      clear hmem hxz hdl hdn x0 x1 z0 z1
      have HB1 := Lib.hid (HB.out.alloc hsz (.cells #[.int .i64 x, .int .i64 z] 87))
      have HO1 := Lib.hid (HO.out.alloc (.cells #[.int .i64 x, .int .i64 z] 87))
      have HBK := Lib.hid (Blk.new wr 87 #[.int .i64 x, .int .i64 z])
      go_wp2_with (
        go_at_call 85
        refine (appendInt_ w.heap.size T.length x HX.out u3 T _ HO1.out (by have := HB1.out.size; exact this) (by omega) (HTB.out.on HB1.out)).mono ?_
        rintro e w1 ⟨v1, rfl, hown1, hb1, hk1⟩
        have HO2 := Lib.hid hown1
        have HB2 := Lib.hid (HB1.out.trans hb1)
        have HBK2 := Lib.hid (Blk.others HBK.out hk1 (by decide))
        clear hown1 hb1 hk1 HB1 HBK HO1
        refine Hid.out ?_)
      refine Lib.hid ?_
      have hsz1 := HB2.out.size
      have HO3 := Lib.hid (HO2.out.alloc (.cells #[.int .u8 58] 5))
      have HB3 := Lib.hid (HB2.out.alloc hsz1 (.cells #[.int .u8 58] 5))
      have HBK3 := Lib.hid (HBK2.out.alloc (.cells #[.int .u8 58] 5))
      have hsz3 := HB3.out.size
      go_wp2_with (
        at_builtin
        refine wpList_append_own_at _ rfl _ _ 29 rfl w.heap.size 5 i0 _ 1 1 Tryz.underlying29 hi hz0 hz1 hz2 rfl (by decide) v1 _ _ rfl
          HO3.out ⟨w1.heap.size, 0, none⟩ 1 1 [Value.int .u8 58] rfl rfl (by intro j u' hj; match j, hj with | 0, hj => simp at hj; subst hj; simp [Addr.add]) (by intro u' hu'; simp at hu'; subst hu'; rfl) (by unfold maxLen; omega) (by omega) hsz3 ?_
        intro v2 w2 hown2 hg2 _ _
        refine Hid.out ?_)
      refine Lib.hid ?_
      have HB4 := Lib.hid (HB3.out.grown hg2 hsz3 (fun k hk => (HO3.out.lt k hk).1))
      have HBK4 : Hid (Blk w2 wr.heap.size 87 #[.int .i64 x, .int .i64 z]) := Lib.hid (HBK3.out.grown hg2 (own_ne HO3.out HBK3.out (by decide)))
      have eT : Lib.byteCells (T ++ Lib.itoa x) ++ [Value.int .u8 58] = Lib.byteCells (T ++ Lib.itoa x ++ [58]) := by simp [Lib.byteCells]
      rw [eT] at hown2
      have HO4 := Lib.hid hown2
      clear hown2 eT hg2 HB3 HBK3 HO3 HO2 HB2 HBK2
      have hsz4 := HB4.out.size
      have hc4 : w2.cell? ⟨wr.heap.size, 1, none⟩ = some (.int .i64 z) := HBK4.out.cell 1
      go_wp2_with (
        go_at_call 85
        refine (appendInt_ w.heap.size _ z HZ.out v2 _ _ HO4.out (by have := HB4.out.size; exact this) (by omega) (HTB.out.on HB4.out)).mono ?_
        rintro e w3 ⟨v3, rfl, hown3, hb3, hk3⟩
        have HO5 := Lib.hid hown3
        have HB5 := Lib.hid (HB4.out.trans hb3)
        clear hown3 hb3 hk3 HB4 HBK4 HO4
        refine Hid.out ?_)
      refine Lib.hid ?_
      have hsz5 := HB5.out.size
      have HO6 := Lib.hid (HO5.out.alloc (.cells #[.int .u8 32] 5))
      have HB6 := Lib.hid (HB5.out.alloc hsz5 (.cells #[.int .u8 32] 5))
      have hsz6 := HB6.out.size
      go_wp2_with (
        at_builtin
        refine wpList_append_own_at _ rfl _ _ 29 rfl w.heap.size 5 i0 _ 1 1 Tryz.underlying29 hi hz0 hz1 hz2 rfl (by decide) v3 _ _ rfl
          HO6.out ⟨w3.heap.size, 0, none⟩ 1 1 [Value.int .u8 32] rfl rfl (by intro j u' hj; match j, hj with | 0, hj => simp at hj; subst hj; simp [Addr.add]) (by intro u' hu'; simp at hu'; subst hu'; rfl) (by unfold maxLen; omega) (by omega) hsz6 ?_
        intro v4 w4 hown4 hg4 _ _
        have HO7 := Lib.hid hown4
        have HB7 := Lib.hid (HB6.out.grown hg4 hsz6 (fun k hk => (HO6.out.lt k hk).1))
        clear hown4 hg4 HB6 HO6 HO5 HB5)
      refine ⟨⟨d + 1, by omega, by go_num, ?_, HB7.out⟩, by simp [intOf]; omega⟩
      rw [HNX.out, ← HT.out]
      have h := HO7.out
      have eL : Lib.byteCells (T ++ Lib.itoa x ++ [58] ++ Lib.itoa z) ++ [Value.int .u8 32] = Lib.byteCells (T ++ ent1 (x, z)) := by simp [Lib.byteCells, ent1]
      have eN : T.length + (Lib.itoa x).length + 1 + (Lib.itoa z).length + 1 = (T ++ ent1 (x, z)).length := by simp [ent1]; omega
      rw [eL, eN] at h
      exact h
    · obtain rfl : d = n := by omega
      have hge : ¬ ((d : Int) < (d : Int)) := by omega
      have HK : Hid (T = keyT L) := by
        show T = keyT L
        rw [HT.out, List.take_of_length_le (by have := HN.out; omega)]
      clear hdn HT
      rcases HO.out.2 with ⟨rfl, h0⟩ | ⟨g, cap, cur, rfl, -, -, -, -, -, -⟩
      · have hcv := Lib.run_convert_nil_bytes (P := Tryz.prog) wr 29 9 5 0 Tryz.underlying29 Tryz.underlying5 Tryz.underlying9
        go_wp2
        go_ret
        refine ⟨?_, HB.out⟩
        rw [← HK.out, List.eq_nil_of_length_eq_zero h0]
        rfl
      · have hcv := run_convert_bytes_back (P := Tryz.prog) wr 29 9 5 ⟨g, 0, none⟩ cap T Tryz.underlying29 Tryz.underlying5 Tryz.underlying9 (fun j hj => HO.out.cells (g := g) rfl j _ (by simp [Lib.byteCells, hj]))
        go_wp2
        go_ret
        exact ⟨by rw [← HK.out]; rfl, HB.out⟩
end Go.Proofs.YtgaofnmgdefdcaaGreatDoor.Ky


namespace Go.Proofs.YtgaofnmgdefdcaaGreatDoor.Ds
open Go.RowKit Go.Proofs.YtgaofnmgdefdcaaGreatDoor.Gen Go.Proofs.YtgaofnmgdefdcaaGreatDoor.Wr Go.Proofs.YtgaofnmgdefdcaaGreatDoor.It Go.Proofs.YtgaofnmgdefdcaaGreatDoor.Ir Go.Proofs.YtgaofnmgdefdcaaGreatDoor.Ib Go.Proofs.YtgaofnmgdefdcaaGreatDoor.Hr Go.Proofs.YtgaofnmgdefdcaaGreatDoor.Hn Go.Proofs.YtgaofnmgdefdcaaGreatDoor.Hk Go.Proofs.YtgaofnmgdefdcaaGreatDoor.Ln

theorem cblk (n : Int) (w : World) : Calls Tryz.prog 55 #[.int .i64 n] w fun r w' => r = .returned (.int .i64 (blkE n)) ∧ w' = w := by
  obtain ⟨e, he⟩ : ∃ e, e = blkE n := ⟨_, rfl⟩
  rw [← he]
  unfold blkE at he
  have HE := Lib.hid he
  clear he
  by_cases h1 : n < 1
  · go_enter Tryz.func55, Tryz.ntmps55
    go_wp2
    go_ret
    exact ⟨by rw [HE.out, if_pos (.inl h1)]; try rfl, rfl⟩
  · by_cases h2 : 60000 < n
    · go_enter Tryz.func55, Tryz.ntmps55
      go_wp2
      go_ret
      exact ⟨by rw [HE.out, if_pos (.inr h2)]; try rfl, rfl⟩
    · go_enter Tryz.func55, Tryz.ntmps55
      go_wp2
      go_ret
      exact ⟨by rw [HE.out, if_neg (by omega)]; try rfl, rfl⟩
theorem cfix (l b : Int) (w : World) : Calls Tryz.prog 57 #[.int .i64 l, .int .i64 b] w fun r w' => r = .returned (.int .i64 (fixE l b)) ∧ w' = w := by
  obtain ⟨e, he⟩ : ∃ e, e = fixE l b := ⟨_, rfl⟩
  rw [← he]
  unfold fixE at he
  have HE := Lib.hid he
  clear he
  by_cases h1 : l < -2147483647
  · go_enter Tryz.func57, Tryz.ntmps57
    go_wp2
    go_ret
    exact ⟨by rw [HE.out, if_pos (.inl h1)]; try rfl, rfl⟩
  · by_cases h2 : 2147483647 < l
    · go_enter Tryz.func57, Tryz.ntmps57
      go_wp2
      go_ret
      exact ⟨by rw [HE.out, if_pos (.inr (.inl h2))]; try rfl, rfl⟩
    · by_cases h3 : b < 0
      · go_enter Tryz.func57, Tryz.ntmps57
        go_wp2
        go_ret
        exact ⟨by rw [HE.out, if_pos (.inr (.inr (.inl h3)))]; try rfl, rfl⟩
      · by_cases h4 : 31 < b
        · go_enter Tryz.func57, Tryz.ntmps57
          go_wp2
          go_ret
          exact ⟨by rw [HE.out, if_pos (.inr (.inr (.inr h4)))]; try rfl, rfl⟩
        · go_enter Tryz.func57, Tryz.ntmps57
          go_wp2
          go_ret
          exact ⟨by rw [HE.out, if_neg (by omega)]; try rfl, rfl⟩
theorem new_e (A : Option Addr) (n c : Nat) (L : List G) (w : World) (h : Ents w A n L) :
    Calls Tryz.prog 56 #[.slice A n c] w fun r w' => (∃ p, r = .returned (.tuple #[.pointer p, .int .i64 (newE L)])) ∧ Keeps (fun _ => False) w w' :=
  (new_ A n c L w h.1 h.2.1 h.2.2).mono fun _ _ hr => ⟨newE_of hr.1, hr.2⟩

set_option maxHeartbeats 4000000 in
set_option maxRecDepth 100000 in
theorem check_i (A : Option Addr) (n c : Nat) (d : D) (w : World) (h : Ents w A n d.L) :
    Calls Tryz.prog 30 #[.agg (dv A n c d)] w fun r w' => r = .returned (.int .i64 (chkI d)) ∧ Keeps (fun _ => False) w w' := by
  obtain ⟨K, B, L, le, bi⟩ := d
  obtain ⟨e, he⟩ : ∃ e, e = chkI ⟨K, B, L, le, bi⟩ := ⟨_, rfl⟩
  rw [← he]
  unfold chkI at he
  simp only at he h
  have HE := Lib.hid he
  have H := Lib.hid h
  clear he h
  unfold dv
  simp only
  have HC := Lib.hid (fun w => cblk B w)
  have HF := Lib.hid (fun w => cfix le bi w)
  by_cases h1 : K = 1
  · subst h1
    go_enter Tryz.func30, Tryz.ntmps30
    go_wp2_with (
      refine (HC.out _).mono ?_
      rintro e w' ⟨rfl, hw⟩
      rw [hw]
      clear hw)
    go_ret
    exact ⟨by rw [HE.out]; rfl, (Keeps.refl _ _).alloc _⟩
  · have hn1 : (K == 1) = false := by simpa using h1
    by_cases h3 : K = 3
    · subst h3
      have HN := Lib.hid (fun w (h : Ents w A n L) => new_e A n c L w h)
      have HA := Lib.hid (H.out.more ((Keeps.refl _ w).alloc (.cells #[.int .u8 3, .int .i64 B, .slice A n c, .int .i64 le, .int .i64 bi] 43)))
      go_enter Tryz.func30, Tryz.ntmps30
      go_wp2_with (
        refine (HN.out _ HA.out).mono ?_
        rintro e w' ⟨⟨p, rfl⟩, hk⟩
        have HK := Lib.hid hk
        clear hk)
      go_ret
      exact ⟨by rw [HE.out]; rfl, ((Keeps.refl _ _).alloc _).trans HK.out⟩
    · have hn3 : (K == 3) = false := by simpa using h3
      by_cases h6 : K = 6
      · subst h6
        go_enter Tryz.func30, Tryz.ntmps30
        go_wp2_with (
          refine (HF.out _).mono ?_
          rintro e w' ⟨rfl, hw⟩
          rw [hw]
          clear hw)
        go_ret
        exact ⟨by rw [HE.out]; rfl, (Keeps.refl _ _).alloc _⟩
      · have hn6 : (K == 6) = false := by simpa using h6
        go_enter Tryz.func30, Tryz.ntmps30
        go_wp2
        go_ret
        exact ⟨by rw [HE.out, if_neg h1, if_neg h3, if_neg h6]; try rfl, (Keeps.refl _ _).alloc _⟩

set_option maxHeartbeats 4000000 in
set_option maxRecDepth 100000 in
theorem check_a (A : Option Addr) (n c : Nat) (a : E) (w : World) (h : Ents w A n a.d.L) :
    Calls Tryz.prog 31 #[.agg (av A n c a)] w fun r w' => r = .returned (.int .i64 (chkA a)) ∧ Keeps (fun _ => False) w w' := by
  obtain ⟨d, K, B, S⟩ := a
  obtain ⟨e, he⟩ : ∃ e, e = chkA ⟨d, K, B, S⟩ := ⟨_, rfl⟩
  rw [← he]
  unfold chkA at he
  simp only at he h
  have HE := Lib.hid he
  have H := Lib.hid h
  clear he h
  have HC := Lib.hid (fun w => cblk B w)
  obtain ⟨b, hb⟩ : ∃ b, b = blkE B := ⟨_, rfl⟩
  rw [← hb] at HE HC
  clear hb
  have HI := Lib.hid (fun w (h : Ents w A n d.L) => check_i A n c d w h)
  obtain ⟨dK, dB, L, le, bi⟩ := d
  simp only at H
  unfold dv at HI
  unfold av
  simp only at HI ⊢
  have HA := Lib.hid (H.out.more ((Keeps.refl _ w).alloc (.cells #[.int .u8 dK, .int .i64 dB, .slice A n c, .int .i64 le, .int .i64 bi, .int .u8 K, .int .i64 B, .int .u8 S] 45)))
  by_cases h0 : b = 0
  · subst h0
    by_cases h4 : K = 4
    · subst h4
      go_enter Tryz.func31, Tryz.ntmps31
      go_wp2_with (first
        | (go_at_call 55
           refine (HC.out _).mono ?_
           rintro e w' ⟨rfl, hw⟩
           rw [hw]
           clear hw)
        | (go_at_call 30
           refine (HI.out _ HA.out).mono ?_
           rintro e w' ⟨rfl, hk⟩
           have HK := Lib.hid hk
           clear hk))
      go_ret
      exact ⟨by rw [HE.out]; rfl, ((Keeps.refl _ _).alloc _).trans HK.out⟩
    · have hn4 : (K == 4) = false := by simpa using h4
      by_cases h5 : K = 5
      · subst h5
        go_enter Tryz.func31, Tryz.ntmps31
        go_wp2_with (
          go_at_call 55
          refine (HC.out _).mono ?_
          rintro e w' ⟨rfl, hw⟩
          rw [hw]
          clear hw)
        go_ret
        exact ⟨by rw [HE.out]; rfl, (Keeps.refl _ _).alloc _⟩
      · have hn5 : (K == 5) = false := by simpa using h5
        go_enter Tryz.func31, Tryz.ntmps31
        go_wp2_with (
          go_at_call 55
          refine (HC.out _).mono ?_
          rintro e w' ⟨rfl, hw⟩
          rw [hw]
          clear hw)
        go_ret
        exact ⟨by rw [HE.out, if_neg (by simp), if_neg h4, if_neg h5]; try rfl, (Keeps.refl _ _).alloc _⟩
  · have hn0 : (b != 0) = true := by simpa using h0
    go_enter Tryz.func31, Tryz.ntmps31
    go_wp2_with (
      go_at_call 55
      refine (HC.out _).mono ?_
      rintro e w' ⟨rfl, hw⟩
      rw [hw]
      clear hw)
    go_ret
    exact ⟨by rw [HE.out, if_pos h0]; try rfl, (Keeps.refl _ _).alloc _⟩
end Go.Proofs.YtgaofnmgdefdcaaGreatDoor.Ds

namespace Go.Proofs.YtgaofnmgdefdcaaGreatDoor.Ds
open Go.RowKit Go.Proofs.YtgaofnmgdefdcaaGreatDoor.Gen Go.Proofs.YtgaofnmgdefdcaaGreatDoor.Wr Go.Proofs.YtgaofnmgdefdcaaGreatDoor.Ww Go.Proofs.YtgaofnmgdefdcaaGreatDoor.It Go.Proofs.YtgaofnmgdefdcaaGreatDoor.Iw Go.Proofs.YtgaofnmgdefdcaaGreatDoor.Ir Go.Proofs.YtgaofnmgdefdcaaGreatDoor.Ib Go.Proofs.YtgaofnmgdefdcaaGreatDoor.Tw Go.Proofs.YtgaofnmgdefdcaaGreatDoor.Hr Go.Proofs.YtgaofnmgdefdcaaGreatDoor.Hn Go.Proofs.YtgaofnmgdefdcaaGreatDoor.Hk Go.Proofs.YtgaofnmgdefdcaaGreatDoor.Ln

/-- A Writer, behind some puts. -/
def Wro (base g : Nat) (v : Value) (ys : List Int) (w wr : World) : Prop := ∃ v1, IsWr base g v1 ys wr ∧ Keeps (Its g v) w wr ∧ (v1.ownBlock = v.ownBlock ∨ ∃ b, v1.ownBlock = some b ∧ w.heap.size ≤ b)
theorem Wro.refl {base g : Nat} {v : Value} {ys : List Int} {w : World} (h : IsWr base g v ys w) : Wro base g v ys w w := ⟨v, h, Keeps.refl _ _, .inl rfl⟩
theorem Wro.still {base g : Nat} {v : Value} {ys : List Int} {w wr w1 : World} (h : Wro base g v ys w wr) (k : Keeps (fun _ => False) wr w1) : Wro base g v ys w w1 := by
  obtain ⟨v1, h1, h2, h3⟩ := h
  exact ⟨v1, h1.keeps k (fun _ _ => id), h2.trans k.none_, h3⟩
theorem Wro.puts {base g : Nat} {v : Value} {ys : List Int} {w wr : World} (h : Wro base g v ys w wr) : Puts base g v ys w (.returned (.tuple #[])) wr := ⟨rfl, h⟩
theorem Wro.of {base g : Nat} {v : Value} {ys : List Int} {w wr : World} {r : Ending} (h : Puts base g v ys w r wr) : Wro base g v ys w wr := h.2
theorem Wro.next {base g : Nat} {v v1 : Value} {zs : List Int} {w wr w2 : World} {r : Ending} (k : Keeps (Its g v) w wr) (ho : v1.ownBlock = v.ownBlock ∨ ∃ b, v1.ownBlock = some b ∧ w.heap.size ≤ b) (h2 : Puts base g v1 zs wr r w2) : Wro base g v zs w w2 :=
  (puts_trans k ho h2).2
theorem Wro.to {base g : Nat} {v : Value} {ys zs : List Int} {w wr w2 : World} (h : Wro base g v ys w wr) (h2 : ∀ v1, IsWr base g v1 ys wr → Wro base g v1 zs wr w2) : Wro base g v zs w w2 := by
  obtain ⟨v1, h1, k, ho⟩ := h
  exact (puts_trans k ho ⟨rfl, h2 v1 h1⟩).2
theorem ret_none {fn : Func} (h : fn.results = #[]) : ∀ (tmps : Array Value) (w : World), (results fn tmps).run Tryz.prog w = .ok (.tuple #[]) w := fun tmps w => results_none h tmps Tryz.prog w
theorem map_get {L : List G} {j : Nat} (h : j < L.length) : (L.map (·.1))[j]? = some (L.getD j (0, 0)).1 ∧ (L.map (·.2))[j]? = some (L.getD j (0, 0)).2 := by
  simp [List.getElem?_map, List.getElem?_eq_getElem h, List.getD_eq_getElem?_getD]
theorem far {base g x : Nat} {v : Value} {ys : List Int} {w : World} {t : TypeId} {cs : Array Value} (h : IsWr base g v ys w) (hb : Blk w x t cs) (hx : x ≠ g) (ht : 5 ≠ t) : ¬ Its g v x := by
  rintro (e | e)
  · exact hx e
  · exact Gen.own_ne h.2.2.2.2.2 hb ht e
theorem far_ents {g n : Nat} {v v1 : Value} {w : World} {A : Option Addr} {L : List G} (hL : Ents w A n L) (hA : 0 < n → ∀ b o, A = some ⟨b, o, none⟩ → ¬ Its g v b) (ho : v1.ownBlock = v.ownBlock ∨ ∃ b, v1.ownBlock = some b ∧ w.heap.size ≤ b) : 0 < n → ∀ b o, A = some ⟨b, o, none⟩ → ¬ Its g v1 b := by
  rintro h0 b o rfl (e | e)
  · exact hA h0 b o rfl (.inl e)
  · rcases ho with ho | ⟨b', ho, hb'⟩
    · exact hA h0 b o rfl (.inr (by rw [← ho]; exact e))
    · rw [e] at ho
      injection ho with ho
      have := hL.lt h0
      omega

end Go.Proofs.YtgaofnmgdefdcaaGreatDoor.Ds

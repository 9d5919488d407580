/- codes.Kept.find: the code of entries that have this key, if it is kept; whatever the key is. -/
/- quill.into: the block of this number, laid if it wasn't there. No conditions. -/
import Derived.Test.YtgaofnmgdefdcaaGreatDoorJBitWQQlSt
import Derived.Test.YtgaofnmgdefdcaaGreatDoorDsSame
import Derived.StringKeys
import Derived.Test.YtgaofnmgdefdcaaGreatDoorJHufWordHufSf

namespace Go.Proofs.YtgaofnmgdefdcaaGreatDoor.Qf
open Go.RowKit Go.Proofs.YtgaofnmgdefdcaaGreatDoor.Gen Go.Proofs.YtgaofnmgdefdcaaGreatDoor.Mp Go.Proofs.YtgaofnmgdefdcaaGreatDoor.Cm Go.Proofs.YtgaofnmgdefdcaaGreatDoor.Hr Go.Proofs.YtgaofnmgdefdcaaGreatDoor.Hn Go.Proofs.YtgaofnmgdefdcaaGreatDoor.Hk Go.Proofs.YtgaofnmgdefdcaaGreatDoor.Ln Go.Proofs.YtgaofnmgdefdcaaGreatDoor.Ds Go.Proofs.YtgaofnmgdefdcaaGreatDoor.Qh Go.Proofs.YtgaofnmgdefdcaaGreatDoor.Qs

theorem zero_coded (w : World) : (zeroValue 152).run Tryz.prog w = .ok (.agg #[.slice none 0 0, .pointer none]) w := by kernel_rfl
theorem str_keyed : Go.Maps.Keyed Tryz.prog 9 := Go.Maps.string_keyed Tryz.underlying9
theorem look_none {P : Program} {t k e : TypeId} {kd : TypeDesc} (ht : P.underlying t = some (.map k e)) (hu : P.underlying k = some kd) (key : Value) (w : World) (hc : (Instr.checkKey true 10000 k key).run P w = .ok () w) {z : Value} (hz : (zeroValue e).run P w = .ok z w) :
    (Instr.lookup t (.map none) key true).run P w = .ok (.tuple #[z, .bool false]) w := by
  unfold Instr.lookup
  simp [run_underlying ht, hc, hz, Instr.findKey, run_underlying hu, Instr.findNow, Result.andThen]
theorem look_nil (s : ByteArray) (w : World) : (Instr.lookup 73 (.map none) (.string s) true).run Tryz.prog w = .ok (.tuple #[.agg #[.slice none 0 0, .pointer none], .bool false]) w :=
  look_none Tryz.underlying73 Tryz.underlying9 _ w (by unfold Instr.checkKey; simp [Tryz.underlying9, go_sem]) (zero_coded w)
/-- What find answers: no code; or the code of just these entries. -/
def Found (F : Nat → Prop) (L : List G) (w w' : World) (r : Ending) : Prop :=
  Keeps (fun _ => False) w w' ∧ (r = .returned (.tuple #[.pointer none, .bool false]) ∨ ∃ p, r = .returned (.tuple #[.pointer (some ⟨p, 0, none⟩), .bool true]) ∧ newE L = 0 ∧ Held F (fun u => IsCode 0 u p (wordsOf (nats' L))) w')

set_option maxHeartbeats 8000000 in
set_option maxRecDepth 100000 in
theorem find_ (g i : Nat) (F : Nat → Prop) (N : Nat) (mv : Value) (s : ByteArray) (A : Option Addr) (n c : Nat) (L : List G) (w : World) (hs : s.size ≤ maxLen) (hc : w.cell? ⟨g, i, none⟩ = some mv) (hk : Kept F N mv w) (hL : Ents w A n L) :
    Calls Tryz.prog 58 #[.pointer (some ⟨g, i, none⟩), .string s, .slice A n c] w fun r w' => Found F L w w' r := by
  have HL := Lib.hid hL
  have HEQ := Lib.hid (fun A' n' c' M W h => equal_ A' A n' n c' c M L W h)
  clear hL
  rcases hk.2 with rfl | ⟨b, m, C, rfl, hm⟩
  · have hl := look_nil s
    clear HEQ
    go_enter Tryz.func58, Tryz.ntmps58
    go_wp2
    go_ret2
    exact ⟨(Keeps.refl _ _).alloc _, .inl rfl⟩
  · have hkey := Go.WideMaps.keyOf_string_mk (P := Tryz.prog) Tryz.underlying9 hs
    have hlook := fun W (h : IsM Tryz.prog 9 W b m) => h.look W str_keyed Tryz.underlying73 (zero_coded W) hkey
    by_cases hin : Lit.string s.data.toList ∈ m.map (·.1)
    · obtain ⟨e, he, hek⟩ := List.mem_map.1 hin
      obtain ⟨kl, v⟩ := e
      simp only at hek
      subst hek
      have hl := ((hlook w hm.map).1 v he).2
      obtain ⟨A', n', c', p, M, rfl, hM, hH⟩ := hm.held hk.1 he
      have HH := Lib.hid hH
      have HM := Lib.hid hM
      have HQ := Lib.hid (fun W (k : Keeps (fun _ => False) w W) => HEQ.out A' n' c' M W (hH.more k).out.1 (HL.out.more k))
      clear hH hM hin he hlook HEQ
      obtain ⟨q, hq⟩ : ∃ q, decide (M = L) = q := ⟨_, rfl⟩
      rw [hq] at HQ
      unfold cv at hl
      have HB := Lib.hid (Blk.new w 152 #[.slice A' n' c', .pointer (some ⟨p, 0, none⟩)])
      have HK := Lib.hid ((Keeps.refl (fun _ => False) w).alloc (.cells #[.slice A' n' c', .pointer (some ⟨p, 0, none⟩)] 152))
      have hb0 : (w.alloc (.cells #[.slice A' n' c', .pointer (some ⟨p, 0, none⟩)] 152)).cell? ⟨w.heap.size, 0, none⟩ = some (.slice A' n' c') := HB.out.cell 0
      cases q with
      | true =>
        have hLM : M = L := by simpa using hq
        subst hLM
        go_enter Tryz.func58, Tryz.ntmps58
        go_wp2_with (
          go_at_call 84
          refine (HQ.out _ HK.out).mono ?_
          rintro e w1 ⟨rfl, hk1⟩
          have hb1 : w1.cell? ⟨w.heap.size, 1, none⟩ = some (.pointer (some ⟨p, 0, none⟩)) := (HB.out.keeps hk1 id).cell 1
          have HK1 := Lib.hid (HK.out.trans hk1)
          clear hk1)
        go_ret2
        exact ⟨HK1.out, .inr ⟨p, rfl, HM.out, (HH.out.more HK1.out).imp fun u hu => hu.2⟩⟩
      | false =>
        go_enter Tryz.func58, Tryz.ntmps58
        go_wp2_with (
          go_at_call 84
          refine (HQ.out _ HK.out).mono ?_
          rintro e w1 ⟨rfl, hk1⟩
          have HK1 := Lib.hid (HK.out.trans hk1)
          clear hk1)
        go_ret2
        exact ⟨HK1.out, .inl rfl⟩
    · have hl := ((hlook w hm.map).2 hin).2
      clear HEQ hlook
      go_enter Tryz.func58, Tryz.ntmps58
      go_wp2
      go_ret2
      exact ⟨(Keeps.refl _ _).alloc _, .inl rfl⟩
end Go.Proofs.YtgaofnmgdefdcaaGreatDoor.Qf

namespace Go.Proofs.YtgaofnmgdefdcaaGreatDoor.Qi
open Go.RowKit Go.Proofs.YtgaofnmgdefdcaaGreatDoor.Gen Go.Proofs.YtgaofnmgdefdcaaGreatDoor.Mp Go.Proofs.YtgaofnmgdefdcaaGreatDoor.Cm Go.Proofs.YtgaofnmgdefdcaaGreatDoor.Hw Go.Proofs.YtgaofnmgdefdcaaGreatDoor.Qh Go.Proofs.YtgaofnmgdefdcaaGreatDoor.Qs Go.Proofs.YtgaofnmgdefdcaaGreatDoor.Ww

theorem IsF.update_run {P : Program} {k e t : TypeId} {N b : Nat} {kv : Nat → Value} {kl : Nat → Lit} {val : Nat → Option Value} {w : World} (K : Ks P k N kv kl) (h : IsF P k N kl w b val) (ht : P.underlying t = some (.map k e)) (hN : N ≤ 1000000) {i : Nat} (hi : i < N) (v : Value) :
    ∃ w', (Instr.mapUpdate t (.map (some b)) (kv i) v).run P w = .ok () w' ∧ IsF P k N kl w' b (putF val i v) ∧ Keeps (· = b) w w' := by
  obtain ⟨m, h1, h2⟩ := h
  obtain ⟨w', r1, r2, r3⟩ := Hw.update_run (val := v) h1 K.keyed ht (by have := IsF.m_le K h1 h2; omega) (K.ok i hi)
  exact ⟨w', r1, ⟨_, r2, h2.put K hi v⟩, r3⟩
theorem zero_pit (w : World) : (zeroValue 79).run Tryz.prog w = .ok (.pointer none) w := by kernel_rfl
/-- What a block of this number has, or nothing. -/
def had (G : Gs) (i : Nat) : List Int := ((G i).map (·.2.2)).getD []
/-- What into answers. -/
def Into (g : Nat) (t : TypeId) (cs : Array Value) (F : Nat → Prop) (G : Gs) (i : Nat) (w w' : World) (r : Ending) : Prop :=
  ∃ gi vi mb' F', r = .returned (.pointer (some ⟨gi, 0, none⟩)) ∧ Blk w' g t (cs.setIfInBounds 3 mb') ∧ ¬ F' g ∧ Wms F' mb' (pu G i (gi, vi, had G i)) w' ∧ Step (fun k => k = g ∨ F k) (fun k => k = g ∨ F' k) w w'
theorem set_same {cs : Array Value} {i : Nat} {v : Value} (h : cs[i]? = some v) : cs.setIfInBounds i v = cs := by
  obtain ⟨hi, hv⟩ := Array.getElem?_eq_some_iff.1 h
  apply Array.ext
  · simp
  · intro j h1 h2
    rw [Array.getElem_setIfInBounds (by simpa using h1)]
    split
    · rename_i hij
      subst hij
      exact hv.symm
    · rfl
theorem pu_same {G : Gs} {i : Nat} {e : W1} (h : G i = some e) : pu G i e = G := by
  funext j
  unfold pu
  split
  · rename_i hj
    rw [hj, h]
  · rfl
/-- The end of into: a new block is laid. -/
theorem into_end {g b i : Nat} {t : TypeId} {cs cs1 : Array Value} {F F1 : Nat → Prop} {G : Gs} {w W W5 : World}
    (hw : Blk W g t cs1) (hcs : cs1 = cs.setIfInBounds 3 (.map (some b))) (hm : WmsAt F1 b G W) (hF : ∀ k, F1 k → k < W.heap.size) (hg : ¬ F1 g) (hs : Step (fun k => k = g ∨ F k) (fun k => k = g ∨ F1 k) w W) (hi : i < 60001) (hG : G i = none)
    (hu : IsF Tryz.prog 3 60001 ikl W5 b (putF (fun i => (G i).map wptr) i (.pointer (some ⟨W.heap.size, 0, none⟩)))) (k5 : Keeps (· = b) (W.alloc (.cells #[.slice none 0 0] 85)) W5) :
    Into g t cs F G i w W5 (.returned (.pointer (some ⟨W.heap.size, 0, none⟩))) := by
  have hgb : b ≠ g := fun e => hg (e ▸ hm.inF)
  have k4 := (Keeps.refl (fun _ => False) W).alloc (.cells #[.slice none 0 0] 85)
  have hsz : W.heap.size < W5.heap.size := by
    have h1 := k5.size
    have h2 : (W.alloc (.cells #[.slice none 0 0] 85)).heap.size = W.heap.size + 1 := by simp
    omega
  have hadd := hm.add hF hi hG hu k5
  refine ⟨W.heap.size, .slice none 0 0, .map (some b), fun k => F1 k ∨ k = W.heap.size, rfl, ?_, ?_, ⟨fun k hk => ?_, .inr ⟨b, rfl, ?_⟩⟩, ⟨?_, fun k hk => ?_⟩⟩
  · rw [← hcs]
    exact (hw.keeps k4 id).keeps k5 (Ne.symm hgb)
  · rintro (h | h)
    · exact hg h
    · have := hw.lt
      omega
  · rcases hk with h | h
    · have := hF k h
      omega
    · omega
  · have e : had G i = [] := by simp [had, hG]
    rw [e]
    exact hadd
  · have h1 := (Step.quiet (F := fun k => k = g ∨ F1 k) k4).trans ⟨k5.mono (fun k _ e => by subst e; exact .inr hm.inF), fun _ => .inl⟩
    exact (hs.trans h1).keeps
  · rcases hk with rfl | h | h
    · exact .inl (.inl rfl)
    · exact hs.sub k (.inr h)
    · exact .inr (by have := hs.keeps.size; omega)

set_option maxHeartbeats 16000000 in
set_option maxRecDepth 100000 in
theorem into_ (g : Nat) (t : TypeId) (cs : Array Value) (F : Nat → Prop) (mb : Value) (G : Gs) (i : Nat) (w : World) (hi : i < 60001)
    (hb : Blk w g t cs) (h3 : cs[3]? = some mb) (hg : ¬ F g) (hw : Wms F mb G w) :
    Calls Tryz.prog 34 #[.pointer (some ⟨g, 0, none⟩), .int .i64 (i : Int)] w fun r w' => Into g t cs F G i w w' r := by
  have HB := Lib.hid hb
  have HI := Lib.hid h3
  have HW := Lib.hid hw
  have HGT : Hid (g < w.heap.size) := hb.lt
  clear hb h3
  rcases hw.2 with ⟨rfl, hG⟩ | ⟨b, rfl, hm⟩
  · have hc0 : w.cell? ⟨g, 3, none⟩ = some (.map none) := (HB.out.cell 3).trans HI.out
    have hq := fun w => run_eql_map_nil (P := Tryz.prog) w 72 3 79 none Tryz.underlying72
    have hmm := @run_makeMap Tryz.prog
    have hf1 : (w.alloc (.map #[] 0)).frozen? ⟨g, 3, none⟩ = false := (HB.out.alloc _).frozen 3
    have hc1 : (w.alloc (.map #[] 0)).cell? ⟨g, 3, none⟩ = some (.map none) := ((HB.out.alloc _).cell 3).trans HI.out
    obtain ⟨b, hbe⟩ : ∃ b, b = w.heap.size := ⟨_, rfl⟩
    obtain ⟨WX, hWX⟩ : ∃ W, W = (w.alloc (.map #[] 0)).setCell ⟨g, 3, none⟩ (.map (some b)) := ⟨_, rfl⟩
    have hgb : g < w.heap.size := HGT.out
    have hk3 := (Keeps.refl (fun _ => False) w).alloc (.map #[] 0)
    have hkX : Keeps (· = g) (w.alloc (.map #[] 0)) WX := by rw [hWX]; exact (Keeps.refl _ _).setOwn _ _
    have hszX : WX.heap.size = w.heap.size + 1 := by rw [hWX]; simp [World.setCell]
    have HWX : Hid (Blk WX g t (cs.setIfInBounds 3 (.map (some b)))) := by show Blk _ _ _ _; rw [hWX]; exact (HB.out.alloc _).setCell 3 _
    have HIX : Hid ((cs.setIfInBounds 3 (.map (some b)))[3]? = some (.map (some b))) := by
      have h1 := (Array.getElem?_eq_some_iff.1 HI.out).1
      show _ = _
      simp [h1]
    have hG0 : G = fun _ => none := funext hG
    have HM : Hid (WmsAt (· = b) b G WX) := by
      have h1 := (WmsAt.new w).keeps hkX fun x hx e => by omega
      rw [← hbe] at h1
      show WmsAt _ _ _ _
      rw [hG0]
      exact h1
    have HF : Hid (∀ k, k = b → k < WX.heap.size) := fun k hk => by omega
    have HGF : Hid (¬ g = b) := by show ¬ _; omega
    have HS : Hid (Step (fun k => k = g ∨ F k) (fun k => k = g ∨ k = b) w WX) := ⟨hk3.none_.trans (hkX.mono fun k _ e => .inl e), fun k hk => by
      rcases hk with h | h
      · exact .inl (.inl h)
      · exact .inr (by omega)⟩
    have HGI : Hid (G i = none) := hG i
    clear hG0 hkX hszX hgb hk3 hw hG
    go_enter Tryz.func34, Tryz.ntmps34
    go_upto_region 3 with fail
    rw [← hbe, ← hWX]
    have hc4 : WX.cell? ⟨g, 3, none⟩ = some (.map (some b)) := (HWX.out.cell 3).trans HIX.out
    have hlk := ((HM.out.map.look int_ks Tryz.underlying72 (zero_pit WX) hi).2 (by rw [HGI.out]; rfl)).2
    unfold ikv at hlk
    have hc5 : (WX.alloc (.cells #[.slice none 0 0] 85)).cell? ⟨g, 3, none⟩ = some (.map (some b)) := ((HWX.out.alloc _).cell 3).trans HIX.out
    obtain ⟨W5, hrun, hu5, hk5⟩ := IsF.update_run int_ks (HM.out.map.keeps ((Keeps.refl (fun _ => False) WX).alloc (.cells #[.slice none 0 0] 85)) id) Tryz.underlying72 (by omega) hi (.pointer (some ⟨WX.heap.size, 0, none⟩))
    unfold ikv at hrun
    have HU5 := Lib.hid hu5
    have HK5 := Lib.hid hk5
    clear hbe hWX hu5 hk5
    go_wp2
    go_ret
    exact into_end HWX.out rfl HM.out HF.out HGF.out HS.out hi HGI.out HU5.out HK5.out
  · have hc0 : w.cell? ⟨g, 3, none⟩ = some (.map (some b)) := (HB.out.cell 3).trans HI.out
    have hq := fun w => run_eql_map_nil (P := Tryz.prog) w 72 3 79 (some b) Tryz.underlying72
    have HM := Lib.hid hm
    have HLK := Lib.hid (hm.map.look int_ks Tryz.underlying72 (zero_pit w) hi)
    clear hm hw
    cases hGi : G i with
    | some e =>
      obtain ⟨gi, vi, ys⟩ := e
      have hlk := (HLK.out.1 (.pointer (some ⟨gi, 0, none⟩)) (by rw [hGi]; rfl)).2
      unfold ikv at hlk
      have HGI := Lib.hid hGi
      clear hGi
      go_enter Tryz.func34, Tryz.ntmps34
      go_wp2
      go_ret
      refine ⟨gi, vi, .map (some b), F, rfl, by rw [set_same HI.out]; exact HB.out, hg, ?_, Step.refl _ _⟩
      have e : had G i = ys := by simp [had, HGI.out]
      rw [e, pu_same HGI.out]
      exact HW.out
    | none =>
      have hlk := (HLK.out.2 (by rw [hGi]; rfl)).2
      unfold ikv at hlk
      have hc5 : (w.alloc (.cells #[.slice none 0 0] 85)).cell? ⟨g, 3, none⟩ = some (.map (some b)) := ((HB.out.alloc _).cell 3).trans HI.out
      obtain ⟨W5, hrun, hu5, hk5⟩ := IsF.update_run int_ks (HM.out.map.keeps ((Keeps.refl (fun _ => False) w).alloc (.cells #[.slice none 0 0] 85)) id) Tryz.underlying72 (by omega) hi (.pointer (some ⟨w.heap.size, 0, none⟩))
      unfold ikv at hrun
      have HU5 := Lib.hid hu5
      have HK5 := Lib.hid hk5
      have HGI := Lib.hid hGi
      clear hu5 hk5 hGi HLK
      go_enter Tryz.func34, Tryz.ntmps34
      go_wp2
      go_ret
      exact into_end HB.out (set_same HI.out).symm HM.out HW.out.1 hg (Step.refl _ _) hi HGI.out HU5.out HK5.out
end Go.Proofs.YtgaofnmgdefdcaaGreatDoor.Qi

/- codes.Kept.Ints and Arrays: what Check says of a way; of words the code, too. The condition: strconv's table of tens reads as its text lays it. -/
/- A code's words, asked by number: wordOf, Size, Put; a nil code has none. -/
/- A bits.Writer at the head of a Quill: what it does, call by call; the Quill's two other cells stay (written by tools/quill/bwq.py out of BitPut). -/
/- Code.Put into the Writer at the head of a Quill (written by tools/quill/bwq.py out of HufUse). -/
import Derived.Test.YtgaofnmgdefdcaaGreatDoorJQlCodeQpW
import Derived.Test.YtgaofnmgdefdcaaGreatDoorJDsChkDsPut
import Derived.Deep.RegionHeld3
import Derived.Test.YtgaofnmgdefdcaaGreatDoorJHufNewHufNewC
import Derived.Test.YtgaofnmgdefdcaaGreatDoorJBitWrBitPut
import Derived.Test.YtgaofnmgdefdcaaGreatDoorJBitWQQlSt
import Derived.Deep.RegionLaw
import Derived.Deep.CutRange

namespace Go.Proofs.YtgaofnmgdefdcaaGreatDoor.Qc
open Go.RowKit Go.Proofs.YtgaofnmgdefdcaaGreatDoor.Gen Go.Proofs.YtgaofnmgdefdcaaGreatDoor.Mp Go.Proofs.YtgaofnmgdefdcaaGreatDoor.Cm Go.Proofs.YtgaofnmgdefdcaaGreatDoor.Hr Go.Proofs.YtgaofnmgdefdcaaGreatDoor.Hz Go.Proofs.YtgaofnmgdefdcaaGreatDoor.Hn Go.Proofs.YtgaofnmgdefdcaaGreatDoor.Hk Go.Proofs.YtgaofnmgdefdcaaGreatDoor.Hw Go.Proofs.YtgaofnmgdefdcaaGreatDoor.Ln Go.Proofs.YtgaofnmgdefdcaaGreatDoor.Ss Go.Proofs.YtgaofnmgdefdcaaGreatDoor.St Go.Proofs.YtgaofnmgdefdcaaGreatDoor.Ds Go.Proofs.YtgaofnmgdefdcaaGreatDoor.Ky Go.Proofs.YtgaofnmgdefdcaaGreatDoor.Qh Go.Proofs.YtgaofnmgdefdcaaGreatDoor.Qs Go.Proofs.YtgaofnmgdefdcaaGreatDoor.Qf

/-- What Ints answers, and what is kept behind it. -/
def CodedD (g i : Nat) (t : TypeId) (cs : Array Value) (F : Nat → Prop) (N : Nat) (d : D) (w w' : World) (r : Ending) : Prop :=
  ∃ pp mv' F', r = .returned (.tuple #[.pointer pp, .int .i64 (chkI d)]) ∧ Blk w' g t (cs.setIfInBounds i mv') ∧ ¬ F' g ∧ Kept F' (N + 1) mv' w' ∧
    Step (fun k => k = g ∨ F k) (fun k => k = g ∨ F' k) w w' ∧ (d.K = 3 → chkI d = 0 → ∃ p, pp = some ⟨p, 0, none⟩ ∧ Held F' (fun u => IsCode 0 u p (wordsOf (nats' d.L))) w')
theorem Step.pre' {F F' : Nat → Prop} {w w1 w2 : World} (k : Keeps (fun _ => False) w w1) (h : Step F F' w1 w2) : Step F F' w w2 := Step.pre k h

set_option maxHeartbeats 8000000 in
set_option maxRecDepth 100000 in
theorem ints_ (B g i : Nat) (t : TypeId) (cs : Array Value) (F : Nat → Prop) (N : Nat) (mv : Value) (A : Option Addr) (n c : Nat) (d : D) (w : World)
    (ht : Tab B w) (hB : B ≤ w.heap.size) (hb : Blk w g t cs) (hi : cs[i]? = some mv) (hg : ¬ F g) (hgB : B ≤ g) (hk : Kept F N mv w) (hN : N ≤ 1000) (hL : Ents w A n d.L) (hf : ∀ x ∈ d.L, Fits x) (hE : 0 < n → ∀ b o, A = some ⟨b, o, none⟩ → b ≠ g ∧ ¬ F b) :
    Calls Tryz.prog 36 #[.pointer (some ⟨g, i, none⟩), .agg (dv A n c d)] w fun r w' => CodedD g i t cs F N d w w' r := by
  have hk1 := (Keeps.refl (fun _ => False) w).alloc (.cells (dv A n c d) 43)
  have HCO := Lib.hid (code_ B g i t cs F N mv A n c d.L _ (ht.more hB hk1) (Nat.le_trans hB hk1.size) (hb.keeps hk1 id) hi hg hgB (hk.keeps hk1 fun _ _ => id) hN (hL.more hk1) hf hE)
  have HCH := Lib.hid (check_i A n c d _ (hL.more hk1))
  obtain ⟨ck, hck⟩ : ∃ ck, chkI d = ck := ⟨_, rfl⟩
  have HCK := Lib.hid hck
  unfold CodedD
  rw [hck] at HCH ⊢
  have HK1 := Lib.hid hk1
  have HKP := Lib.hid hk
  have HBL := Lib.hid hb
  have HI := Lib.hid hi
  clear hck hk1 hb hk hi hL hf hE
  obtain ⟨K, Bl, L, le, bi⟩ := d
  unfold dv at HCO HCH HK1 ⊢
  simp only at HCO HCH HK1 ⊢
  by_cases h3 : K = 3
  · subst h3
    have HCK3 : Hid (newE L = ck) := by
      show newE L = ck
      have := HCK.out
      simpa [chkI] using this
    rw [HCK3.out] at HCO
    go_enter Tryz.func36, Tryz.ntmps36
    go_wp2_with (
      go_at_call 62
      refine HCO.out.mono ?_
      rintro r w1 ⟨pp, mv', F', rfl, h1, h2, h3, h4, h5⟩
      have H1 := Lib.hid h1
      have H2 := Lib.hid h2
      have H3 := Lib.hid h3
      have H4 := Lib.hid h4
      have H5 := Lib.hid h5
      clear h1 h2 h3 h4 h5)
    go_ret2
    exact ⟨pp, mv', F', rfl, H1.out, H2.out, H3.out, Step.pre HK1.out H4.out, fun _ h => H5.out h⟩
  · have hn : (K == 3) = false := by simpa using h3
    go_enter Tryz.func36, Tryz.ntmps36
    go_wp2_with (
      go_at_call 30
      refine HCH.out.mono ?_
      rintro r w1 ⟨rfl, h1⟩
      have H1 := Lib.hid (HK1.out.trans h1)
      clear h1)
    go_ret2
    exact ⟨none, mv, F, rfl, by rw [set_same HI.out]; exact HBL.out.keeps H1.out id, hg, (HKP.out.keeps H1.out fun _ _ => id).le (by omega), step_quiet H1.out, fun h => absurd h h3⟩

theorem found_ok {F : Nat → Prop} {L : List G} {w w' : World} {r : Ending} (h : Qf.Found F L w w' r) : ∃ (pp : Option Addr) (ok : Bool), r = .returned (.tuple #[.pointer pp, .bool ok]) ∧ (ok = true → newE L = 0) ∧ Keeps (fun _ => False) w w' := by
  obtain ⟨k, h | ⟨p, h, h0, _⟩⟩ := h
  · exact ⟨none, false, h, fun e => (by cases e), k⟩
  · exact ⟨some ⟨p, 0, none⟩, true, h, fun _ => h0, k⟩
set_option maxHeartbeats 8000000 in
set_option maxRecDepth 100000 in
theorem arrays_ (B g i : Nat) (F : Nat → Prop) (N : Nat) (mv : Value) (A : Option Addr) (n c : Nat) (a : Ds.E) (w : World)
    (ht : Tab B w) (hB : B ≤ w.heap.size) (hc : w.cell? ⟨g, i, none⟩ = some mv) (hg : g < w.heap.size) (hk : Kept F N mv w) (hL : Ents w A n a.d.L) (hf : ∀ x ∈ a.d.L, Fits x) :
    Calls Tryz.prog 32 #[.pointer (some ⟨g, i, none⟩), .agg (av A n c a)] w fun r w' => r = .returned (.int .i64 (chkA a)) ∧ Keeps (fun _ => False) w w' := by
  have hk1 := (Keeps.refl (fun _ => False) w).alloc (.cells (av A n c a) 45)
  have HKY := Lib.hid (fun W (k : Keeps (fun _ => False) w W) => key_str B A n c a.d.L W (hL.more k) hf (ht.more hB k))
  have HFD := Lib.hid (fun s W (k : Keeps (fun _ => False) w W) hs => find_ g i F N mv s A n c a.d.L W hs ((k.cell (p := ⟨g, i, none⟩) hg id).trans hc) (hk.keeps k fun _ _ => id) (hL.more k))
  have HCA := Lib.hid (fun W (k : Keeps (fun _ => False) w W) => check_a A n c a W (hL.more k))
  have HK1 := Lib.hid hk1
  have HB1 := Lib.hid (Blk.new w 45 (av A n c a))
  clear hk1 hc hk hL hf
  obtain ⟨ca, hca⟩ : ∃ ca, chkA a = ca := ⟨_, rfl⟩
  rw [hca] at HCA ⊢
  have HCK := Lib.hid hca
  clear hca
  obtain ⟨⟨K, Bl, L, le, bi⟩, K2, B2, S2⟩ := a
  unfold av at HCA HK1 HB1 ⊢
  simp only at HCA HK1 HB1 HKY HFD ⊢
  by_cases h3 : K = 3
  · subst h3
    go_enter Tryz.func32, Tryz.ntmps32
    go_upto_region 2 with fail
    obtain ⟨W, hW⟩ : ∃ W, W = w.alloc (.cells #[.int .u8 3, .int .i64 Bl, .slice A n c, .int .i64 le, .int .i64 bi, .int .u8 K2, .int .i64 B2, .int .u8 S2] 45) := ⟨_, rfl⟩
    obtain ⟨q, hq⟩ : ∃ q, q = w.heap.size := ⟨_, rfl⟩
    have HQ := Lib.hid hq
    rw [← hW] at HK1 HB1
    rw [← hq] at HB1
    rw [← hq, ← hW]
    clear hW hq
    have hb2 : W.cell? ⟨q, 2, none⟩ = some (.slice A n c) := HB1.out.cell 2
    have HQL : Hid (q < W.heap.size) := HB1.out.lt
    go_region_held3 (fun w' => w'.cell? ⟨q, 2, none⟩ = some (.slice A n c)) (go_keep)
      ((first
        | (have H := HKY; go_at_call 59; refine (H.out _ (by exact HK1.out.drewN 1)).mono ?_; rintro r w1 ⟨⟨s, hs, rfl⟩, hk2'⟩; have hk2 : Keeps (fun _ => False) W w1 := hk2'.of_drew; have HK2 := Lib.hid (HK1.out.trans hk2); have HF := Lib.hid (HFD.out s w1 HK2.out hs); have hb3 : w1.cell? ⟨q, 2, none⟩ = some (.slice A n c) := (HB1.out.keeps hk2 id).cell 2; have HBB := Lib.hid (HB1.out.keeps hk2 id); clear hk2 hk2' hs HKY)
        | (have H := HF; go_at_call 58; refine H.out.mono ?_; rintro r w2 hr; obtain ⟨pp, ok, rfl, hok, hk3⟩ := found_ok hr; have HOK := Lib.hid hok; have HK3 := Lib.hid (HK2.out.trans hk3); have HB3 := Lib.hid (HBB.out.keeps hk3 id); have hb4 : w2.cell? ⟨q, 2, none⟩ = some (.slice A n c) := HB3.out.cell 2; clear hr hok hk3 HF HFD)))
    have x0 := HB3.out.cell 0
    have x1 := HB3.out.cell 1
    have x2 := HB3.out.cell 2
    have x3 := HB3.out.cell 3
    have x4 := HB3.out.cell 4
    have x5 := HB3.out.cell 5
    have x6 := HB3.out.cell 6
    have x7 := HB3.out.cell 7
    simp only [List.getElem?_toArray, List.getElem?_cons_zero, List.getElem?_cons_succ] at x0 x1 x2 x3 x4 x5 x6 x7
    cases ok with
    | false =>
      go_wp2_with (
        go_at_call 31
        refine (HCA.out _ HK3.out).mono ?_
        rintro r w3 ⟨rfl, h1⟩
        have H1 := Lib.hid (HK3.out.trans h1)
        clear h1)
      go_ret
      exact ⟨rfl, H1.out⟩
    | true =>
      have f0 := HB3.out.frozen 0
      have f1 := HB3.out.frozen 1
      have f2 := HB3.out.frozen 2
      have f3 := HB3.out.frozen 3
      have f4 := HB3.out.frozen 4
      have HCF := Lib.hid (fun W => check_a none 0 0 ⟨⟨6, 0, [], 0, 0⟩, K2, B2, S2⟩ W ⟨.inl rfl, rfl, by omega⟩)
      have hce : chkA ⟨⟨6, 0, [], 0, 0⟩, K2, B2, S2⟩ = ca := by
        rw [← HCK.out]
        have h0 := HOK.out rfl
        simp [chkA, chkI, fixE, h0]
      rw [hce] at HCF
      unfold av at HCF
      simp only at HCF
      clear hce
      go_wp2_with (
        go_at_call 31
        refine (HCF.out _).mono ?_
        rintro r w3 ⟨rfl, h1⟩
        have H1 : Hid (Keeps (fun _ => False) w w3) := (Hf.keeps_low HK3.out ((((((Keeps.refl (· = q) w2).setOwn 0 _).setOwn 1 _).setOwn 2 _).setOwn 3 _).setOwn 4 _) (fun x hx => by rw [hx, HQ.out]; exact Nat.le_refl _)).trans h1
        clear h1)
      go_ret
      exact ⟨rfl, H1.out⟩
  · have hn : (K == 3) = false := by simpa using h3
    go_enter Tryz.func32, Tryz.ntmps32
    go_wp2_with (
      go_at_call 31
      refine (HCA.out _ HK1.out).mono ?_
      rintro r w1 ⟨rfl, h1⟩
      have H1 := Lib.hid (HK1.out.trans h1)
      clear h1)
    go_ret
    exact ⟨rfl, H1.out⟩
end Go.Proofs.YtgaofnmgdefdcaaGreatDoor.Qc

namespace Go.Proofs.YtgaofnmgdefdcaaGreatDoor.Hu
open Go.RowKit Go.Shelf Go.Sort Go.Proofs.YtgaofnmgdefdcaaGreatDoor.Gen Go.Proofs.YtgaofnmgdefdcaaGreatDoor.Mp Go.Proofs.YtgaofnmgdefdcaaGreatDoor.Hr Go.Proofs.YtgaofnmgdefdcaaGreatDoor.Hs Go.Proofs.YtgaofnmgdefdcaaGreatDoor.Hf Go.Proofs.YtgaofnmgdefdcaaGreatDoor.Hz Go.Proofs.YtgaofnmgdefdcaaGreatDoor.Ln Go.Proofs.YtgaofnmgdefdcaaGreatDoor.Hk Go.Proofs.YtgaofnmgdefdcaaGreatDoor.Bp Go.Proofs.YtgaofnmgdefdcaaGreatDoor.Bw

abbrev Ws := List (Int × Nat × Nat)
theorem zero_word (w : World) : (zeroValue 129).run Tryz.prog w = .ok (.agg #[.int .u32 0, .int .i64 0]) w := by kernel_rfl
/-- What wordOf answers: a number's word, and whether there is one. -/
def found (W : Ws) (x : Int) : Option (Nat × Nat) := (W.find? fun t => t.1 == x).map (·.2)
theorem found_mem {W : Ws} {x : Int} {p : Nat × Nat} (h : found W x = some p) : (x, p.1, p.2) ∈ W := by
  unfold found at h
  rw [Option.map_eq_some_iff] at h
  obtain ⟨t, ht, rfl⟩ := h
  have h1 := List.find?_some ht
  simp only [beq_iff_eq] at h1
  have h2 := List.mem_of_find?_eq_some ht
  obtain ⟨a, b⟩ := t
  simp only at h1
  subst h1
  exact h2
theorem found_none {W : Ws} {x : Int} (h : found W x = none) : x ∉ W.map (·.1) := by
  unfold found at h
  rw [Option.map_eq_none_iff, List.find?_eq_none] at h
  intro hm
  rw [List.mem_map] at hm
  obtain ⟨t, ht, e⟩ := hm
  exact h t ht (by simpa using e)
theorem look_word {w : World} {bw : Nat} {W : Ws} (h : IsM Tryz.prog 3 w bw (W.map we)) {x : Int} (hx : (Lit.int .i64 x).wf = true) :
    (Instr.lookup 146 (.map (some bw)) (.int .i64 x) true).run Tryz.prog w = .ok (.tuple (match found W x with | some p => #[wv p.2 p.1, .bool true] | none => #[.agg #[.int .u32 0, .int .i64 0], .bool false])) w := by
  have hl := IsM.look w h int_key Tryz.underlying146 (zero_word w) (key := .int .i64 x) (kl := .int .i64 x) (Go.Maps.keyOf_int_mk Tryz.underlying3 hx)
  cases hf : found W x with
  | some p => exact (hl.1 (wv p.2 p.1) (List.mem_map.2 ⟨(x, p.1, p.2), found_mem hf, rfl⟩)).2
  | none =>
    refine (hl.2 ?_).2
    rw [keys_we]
    intro hm
    rw [List.mem_map] at hm
    obtain ⟨t, ht, e⟩ := hm
    injection e with _ e
    exact found_none hf (List.mem_map.2 ⟨t, ht, e⟩)
/-- The word's number and how many bits it has; 0 and 0 if there is none. -/
def wb (W : Ws) (x : Int) : Nat := ((found W x).map (·.2)).getD 0
def wz (W : Ws) (x : Int) : Nat := ((found W x).map (·.1)).getD 0
theorem look_word' {w : World} {bw : Nat} {W : Ws} (h : IsM Tryz.prog 3 w bw (W.map we)) {x : Int} (hx : (Lit.int .i64 x).wf = true) :
    (Instr.lookup 146 (.map (some bw)) (.int .i64 x) true).run Tryz.prog w = .ok (.tuple #[.agg #[.int .u32 (wb W x : Int), .int .i64 (wz W x : Int)], .bool (found W x).isSome]) w := by
  rw [look_word h hx]
  unfold wb wz
  cases hf : found W x with
  | some p => rfl
  | none => rfl
theorem wordOf_ (base p : Nat) (W : Ws) (x : Int) (w : World) (h : IsCode base w p W) (hx : (Lit.int .i64 x).wf = true) :
    Calls Tryz.prog 64 #[.pointer (some ⟨p, 0, none⟩), .int .i64 x] w fun r w' => r = .returned (.tuple #[.agg #[.int .u32 (wb W x : Int), .int .i64 (wz W x : Int)], .bool (found W x).isSome]) ∧ Keeps (fun _ => False) w w' := by
  obtain ⟨bw, bn, h1, h2, _⟩ := h
  have hc : w.cell? ⟨p, 0, none⟩ = some (.map (some bw)) := h1.cell 0
  have hp := h1.lt
  have hk := (Keeps.refl (fun _ => False) w).alloc (.cells #[.int .u32 0, .int .i64 0] 129)
  have hlook := look_word' (h2.keeps hk id) hx
  have hne : p ≠ w.heap.size := by omega
  generalize wb W x = b at *
  generalize wz W x = z at *
  generalize (found W x).isSome = ok at *
  have HK := Lib.hid hk
  clear h1 h2 hk
  go_enter Tryz.func64, Tryz.ntmps64
  go_wp2
  have hB := (Blk.new w 129 #[.int .u32 (b : Int), .int .i64 (z : Int)]).alloc (.cells #[.int .u32 (b : Int), .int .i64 (z : Int)] 129)
  have HKW := Lib.hid (((Keeps.refl (fun _ => False) w).alloc (.cells #[.int .u32 (b : Int), .int .i64 (z : Int)] 129)).alloc (.cells #[.int .u32 (b : Int), .int .i64 (z : Int)] 129))
  generalize (w.alloc (.cells #[.int .u32 (b : Int), .int .i64 (z : Int)] 129)).alloc (.cells #[.int .u32 (b : Int), .int .i64 (z : Int)] 129) = W2 at hB HKW ⊢
  have h0 : W2.cell? ⟨w.heap.size, 0, none⟩ = some (.int .u32 (b : Int)) := hB.cell 0
  have h1 : W2.cell? ⟨w.heap.size, 1, none⟩ = some (.int .i64 (z : Int)) := hB.cell 1
  refine bodyPost_ret (v := .tuple #[.agg #[.int .u32 (b : Int), .int .i64 (z : Int)], .bool ok]) (by simp [results, Tryz.results64, go_sem, h0, h1]) rfl ?_
  exact ⟨rfl, HKW.out⟩
theorem wordOf_none (x : Int) (w : World) : Calls Tryz.prog 64 #[.pointer none, .int .i64 x] w fun r w' => r = .returned (.tuple #[.agg #[.int .u32 0, .int .i64 0], .bool false]) ∧ Keeps (fun _ => False) w w' := by
  go_enter Tryz.func64, Tryz.ntmps64
  go_wp2
  have hB := Blk.new w 129 #[.int .u32 0, .int .i64 0]
  have HKW := Lib.hid ((Keeps.refl (fun _ => False) w).alloc (.cells #[.int .u32 0, .int .i64 0] 129))
  generalize w.alloc (.cells #[.int .u32 0, .int .i64 0] 129) = W2 at hB HKW ⊢
  have h0 : W2.cell? ⟨w.heap.size, 0, none⟩ = some (.int .u32 0) := hB.cell 0
  have h1 : W2.cell? ⟨w.heap.size, 1, none⟩ = some (.int .i64 0) := hB.cell 1
  refine bodyPost_ret (v := .tuple #[.agg #[.int .u32 0, .int .i64 0], .bool false]) (by simp [results, Tryz.results64, go_sem, h0, h1]) rfl ?_
  exact ⟨rfl, HKW.out⟩
/-- Put of a number that has a word. -/
theorem put_some (base p : Nat) (W : Ws) (x : Int) (z v : Nat) (bs g : Nat) (vw : Value) (l : List Nat) (w : World) (h : IsCode base w p W) (hx : (Lit.int .i64 x).wf = true) (hf : found W x = some (z, v)) (hz : z ≤ 32) (hv : v < 4294967296) (hw : IsBw bs g vw l w) (hl : l.length + 32 ≤ 8000000) :
    Calls Tryz.prog 38 #[.pointer (some ⟨p, 0, none⟩), .pointer (some ⟨g, 0, none⟩), .int .i64 x] w fun r w' => r = .returned (.bool true) ∧ ∃ v', IsBw bs g v' (l ++ tb v z) w' ∧ Moves g vw v' w w' := by
  have HRO := Lib.hid (wordOf_ base p W x w h hx)
  have e1 : wb W x = v := by simp [wb, hf]
  have e2 : wz W x = z := by simp [wz, hf]
  have e3 : (found W x).isSome = true := by simp [hf]
  rw [e1, e2, e3] at HRO
  have HW := Lib.hid hw
  have HSZ : Hid (Bf.sz (z : Int) = z) := by show Bf.sz (z : Int) = z; unfold Bf.sz; omega
  clear h e1 e2 e3 hf hw
  go_enter Tryz.func38, Tryz.ntmps38
  go_wp2_with fail
  refine HRO.out.mono ?_
  rintro e w1 ⟨rfl, hk⟩
  have HK1 := Lib.hid (hk.alloc (.cells #[.int .u32 (v : Int), .int .i64 (z : Int)] 129))
  have HPU := Lib.hid (put g bs vw l v (z : Int) _ (HW.out.keeps HK1.out (fun _ _ => id)) hl hv)
  clear hk
  go_wp2_with (
    refine HPU.out.mono ?_
    rintro e w2 ⟨rfl, v', hv', hm⟩
    have HV := Lib.hid hv'
    have HMV := Lib.hid hm
    clear hv' hm)
  go_ret
  refine ⟨rfl, v', ?_, ?_⟩
  · have h1 := HV.out
    rw [HSZ.out] at h1
    exact h1
  · have h1 := HMV.out
    refine ⟨(HK1.out.none_ (S := Its g vw)).trans h1.keeps, ?_⟩
    rcases h1.at_ with h2 | ⟨b, h2, h3⟩
    · exact .inl h2
    · exact .inr ⟨b, h2, Nat.le_trans HK1.out.size h3⟩
/-- Put of a number that has no word; into no Writer. -/
theorem put_no (base p : Nat) (W : Ws) (x : Int) (A : Option Addr) (w : World) (h : IsCode base w p W) (hx : (Lit.int .i64 x).wf = true) (hf : found W x = none) :
    Calls Tryz.prog 38 #[.pointer (some ⟨p, 0, none⟩), .pointer A, .int .i64 x] w fun r w' => r = .returned (.bool false) ∧ Keeps (fun _ => False) w w' := by
  have HRO := Lib.hid (wordOf_ base p W x w h hx)
  have e3 : (found W x).isSome = false := by simp [hf]
  rw [e3] at HRO
  clear h e3 hf
  generalize wb W x = b at *
  generalize wz W x = z at *
  go_enter Tryz.func38, Tryz.ntmps38
  go_wp2_with fail
  refine HRO.out.mono ?_
  rintro e w1 ⟨rfl, hk⟩
  go_wp2
  go_ret
  exact ⟨rfl, hk.alloc _⟩
theorem put_nil (base p : Nat) (W : Ws) (x : Int) (w : World) (h : IsCode base w p W) (hx : (Lit.int .i64 x).wf = true) :
    Calls Tryz.prog 38 #[.pointer (some ⟨p, 0, none⟩), .pointer none, .int .i64 x] w fun r w' => r = .returned (.bool false) ∧ Keeps (fun _ => False) w w' := by
  have HRO := Lib.hid (wordOf_ base p W x w h hx)
  clear h
  generalize wb W x = b at *
  generalize wz W x = z at *
  generalize (found W x).isSome = ok at *
  go_enter Tryz.func38, Tryz.ntmps38
  go_wp2_with fail
  refine HRO.out.mono ?_
  rintro e w1 ⟨rfl, hk⟩
  have HK := Lib.hid hk
  clear hk
  cases ok with
  | false =>
    go_wp2
    go_ret
    exact ⟨rfl, HK.out.alloc _⟩
  | true =>
    go_wp2
    go_ret
    exact ⟨rfl, HK.out.alloc _⟩
theorem put_none_code (x : Int) (A : Option Addr) (w : World) : Calls Tryz.prog 38 #[.pointer none, .pointer A, .int .i64 x] w fun r w' => r = .returned (.bool false) ∧ Keeps (fun _ => False) w w' := by
  go_enter Tryz.func38, Tryz.ntmps38
  go_wp2_with fail
  refine (wordOf_none x w).mono ?_
  rintro e w1 ⟨rfl, hk⟩
  go_wp2
  go_ret
  exact ⟨rfl, hk.alloc _⟩
end Go.Proofs.YtgaofnmgdefdcaaGreatDoor.Hu

namespace Go.Proofs.YtgaofnmgdefdcaaGreatDoor.Bq
open Go.RowKit Go.Proofs.YtgaofnmgdefdcaaGreatDoor.Gen Go.Proofs.YtgaofnmgdefdcaaGreatDoor.Cl Go.Proofs.YtgaofnmgdefdcaaGreatDoor.Bp Go.Proofs.YtgaofnmgdefdcaaGreatDoor.Bf
open Go.Proofs.YtgaofnmgdefdcaaGreatDoor.Bw hiding At IsBw Puts At.keeps At.drew At.ne At.set IsBw.keeps IsBw.its stored bytes put
variable {m1 m2 : Value}

set_option maxHeartbeats 4000000 in
set_option maxRecDepth 100000 in
theorem put (g base : Nat) (v : Value) (l : List Nat) (n : Nat) (s : Int) (w : World) (h : IsBw m1 m2 base g v l w) (hl : l.length + 32 ≤ 8000000) (hn : n < 4294967296) :
    Calls Tryz.prog 39 #[.pointer (some ⟨g, 0, none⟩), .int .u32 n, .int .i64 s] w (Puts m1 m2 base g v (l ++ tb n (sz s)) w) := by
  obtain ⟨xs, last, o, h, ho, rfl⟩ := h
  have hs := sz_le s
  obtain ⟨A, c, rfl⟩ := h.form
  have h0 : w.cell? ⟨g, 0, none⟩ = some (.slice A xs.length c) := h.blk.cell 0
  have h1 : w.cell? ⟨g, 1, none⟩ = some (.int .u64 last) := h.blk.cell 1
  have h2 : w.cell? ⟨g, 2, none⟩ = some (.int .i64 o) := h.blk.cell 2
  have f1 : w.frozen? ⟨g, 1, none⟩ = false := h.blk.frozen 1
  have hfit := h.fit
  have H := Lib.hid h
  clear h
  go_enter Tryz.func39, Tryz.ntmps39
  go_wp2_with fail
  refine (near s _).mono ?_
  rintro e w1 ⟨rfl, rfl⟩
  generalize sz s = t at *
  have ht0 : (0 : Int) ≤ (t : Int) := by omega
  obtain ⟨q, hq⟩ : ∃ q, n % 2 ^ t = q := ⟨_, rfl⟩
  obtain ⟨L, hL⟩ : ∃ L, last * 2 ^ t % 18446744073709551616 = L := ⟨_, rfl⟩
  have hq1 : q < 4294967296 := by have := Nat.mod_le n (2 ^ t); omega
  have hL1 : L < 18446744073709551616 := by omega
  have hwn : IntKind.u64.wrap (n : Int) = (n : Int) := IntWalk.u64_in _ (by omega)
  have hwq : IntKind.u64.wrap (q : Int) = (q : Int) := IntWalk.u64_in _ (by omega)
  have hwl : IntKind.u64.wrap ((last : Int) * 2 ^ t) = (L : Int) := by rw [IntKind.wrap_u64, ← hL]; simp
  have hor : bits .or .u64 (L : Int) (q : Int) = ((push last n t : Nat) : Int) := by rw [u64_or_nat L q hL1 (by omega), ← hL, ← hq, push_or last n (by omega)]
  obtain ⟨P, hP⟩ : ∃ P, push last n t = P := ⟨_, rfl⟩
  rw [hP] at hor
  have HP := Lib.hid hP
  have HPL : Hid (P < 18446744073709551616) := by rw [← hP]; exact push_lt last n (by omega)
  have HQ := Lib.hid hq
  clear hP hq hL
  have HO := Lib.hid ho
  have HL := Lib.hid hl
  have HC2 := Lib.hid h2
  clear ho hl h2 h0
  go_upto_region 2 with fail
  go_cut [2] from 10 (fun sl wx => sl = .int .i64 t ∧ At m1 m2 base g (.slice A xs.length c) xs P o wx ∧ Keeps (Its g (.slice A xs.length c)) w1 wx)
  case first =>
    go_region_with ((go_at_call 66; refine (lowest_q n t q _ (by omega) hs HQ.out).mono ?_; rintro e w2 ⟨rfl, rfl⟩))
    all_goals go_wp2_with fail
    all_goals go_meet
    all_goals exact ⟨rfl, (H.out.set 1 _ HPL.out rfl).drew, ((Keeps.refl _ _).setCell (p := ⟨g, 1, none⟩) (.inl (.inl rfl)) _).drewN 1⟩
  case rest =>
    obtain ⟨rfl, hat, hk⟩ := hcut
    have HA := Lib.hid hat
    have HK := Lib.hid hk
    have c2 : wc.cell? ⟨g, 2, none⟩ = some (.int .i64 o) := hat.blk.cell 2
    have d2 : wc.frozen? ⟨g, 2, none⟩ = false := hat.blk.frozen 2
    have ho := HO.out
    clear hat hk h1 f1 hfit hq1 hL1 hwn hwq hwl hor HQ HC2 H
    have HA2 := Lib.hid (HA.out.set 2 (.int .i64 ((o : Int) + (t : Int))) HPL.out (o' := o + t) (by simp))
    have HK2 := Lib.hid (HK.out.setCell (p := ⟨g, 2, none⟩) (.inl (.inl rfl)) (.int .i64 ((o : Int) + (t : Int))))
    have HT : Hid (bitsOf xs ++ tb P (o + t) = bitsOf xs ++ tb last o ++ tb n t) := by
      show bitsOf xs ++ tb P (o + t) = bitsOf xs ++ tb last o ++ tb n t
      rw [← HP.out, push_tb (by omega), List.append_assoc]
    have HN : Hid (8 * xs.length + (o + t) ≤ 8000000) := by
      show 8 * xs.length + (o + t) ≤ 8000000
      have := HL.out
      rw [List.length_append, bitsOf_len, tb_len] at this
      omega
    have HD : Hid (o + t ≤ 39) := by show o + t ≤ 39; omega
    clear HA HK HP HO HL
    go_wp2
    generalize wc.setCell ⟨g, 2, none⟩ (.int .i64 ((o : Int) + (t : Int))) = W at *
    generalize bitsOf xs ++ tb last o ++ tb n t = l at *
    clear c2 d2
    obtain ⟨i0, hi0, hz0, hz1, hz2⟩ := info_parts u8_info
    go_loopw [] (fun wr => ∃ (A' : Option Addr) (xs' : List Int) (c' o' : Nat), At m1 m2 base g (.slice A' xs'.length c') xs' P o' wr ∧ bitsOf xs' ++ tb P o' = l ∧ 8 * xs'.length + o' ≤ 8000000 ∧ o' ≤ 39 ∧ Moves g (.slice A xs.length c) (.slice A' xs'.length c') w1 wr) (fun wr => (intOf ((wr.cell? ⟨g, 2, none⟩).getD undef)).toNat)
    case atStart => exact ⟨A, xs, c, o + t, HA2.out, HT.out, HN.out, HD.out, HK2.out, .inl rfl⟩
    case round =>
      obtain ⟨A', xs', c', o', hat, hbits, hlen, ho', hmv⟩ := hrel
      have c0 : wr.cell? ⟨g, 0, none⟩ = some (.slice A' xs'.length c') := hat.blk.cell 0
      have c1 : wr.cell? ⟨g, 1, none⟩ = some (.int .u64 P) := hat.blk.cell 1
      have c2 : wr.cell? ⟨g, 2, none⟩ = some (.int .i64 o') := hat.blk.cell 2
      have d0 : wr.frozen? ⟨g, 0, none⟩ = false := hat.blk.frozen 0
      have d2 : wr.frozen? ⟨g, 2, none⟩ = false := hat.blk.frozen 2
      have HA := Lib.hid hat
      have HB := Lib.hid hbits
      have HM := Lib.hid hmv
      clear hat hbits hmv HA2 HK2 HT HN HD
      by_cases h8 : 8 ≤ o'
      · obtain ⟨o2, rfl⟩ : ∃ o2, o' = o2 + 8 := ⟨o' - 8, by omega⟩
        obtain ⟨x, hx⟩ : ∃ x, P / 2 ^ o2 % 256 = x := ⟨_, rfl⟩
        have hw8 : IntKind.u8.wrap ((P : Int) / 2 ^ o2) = (x : Int) := by rw [IntKind.wrap_u8, ← hx]; simp
        have HX := Lib.hid hx
        have HXB : Hid (x < 256) := by show x < 256; omega
        have HA2 := Lib.hid (HA.out.set 2 (.int .i64 (o2 : Int)) HPL.out (o' := o2) (by simp))
        have HM2 := Lib.hid (HM.out.trans ⟨(Keeps.refl _ _).setCell (p := ⟨g, 2, none⟩) (.inl (.inl rfl)) (.int .i64 (o2 : Int)), .inl rfl⟩)
        have ho0 : (0 : Int) ≤ (o2 : Int) := by omega
        have HC := Lib.hid c2
        clear hx c0 c1 d0 HA HM
        go_wp2
        generalize wr.setCell ⟨g, 2, none⟩ (.int .i64 (o2 : Int)) = W2 at *
        clear c2 d2
        have c0 : W2.cell? ⟨g, 0, none⟩ = some (.slice A' xs'.length c') := HA2.out.blk.cell 0
        have c1 : W2.cell? ⟨g, 1, none⟩ = some (.int .u64 P) := HA2.out.blk.cell 1
        have c2 : W2.cell? ⟨g, 2, none⟩ = some (.int .i64 o2) := HA2.out.blk.cell 2
        have hnews : ∀ j u, [Value.int .u8 (x : Int)][j]? = some u → (W2.alloc (.cells #[.int .u8 (x : Int)] 5)).cell? ((⟨W2.heap.size, 0, none⟩ : Addr).add j) = some u := by
          intro j u hu
          rw [add_none, (Blk.new W2 5 #[.int .u8 (x : Int)]).cell]
          simpa using hu
        have HNW := Lib.hid hnews
        have e0 : (W2.alloc (.cells #[.int .u8 (x : Int)] 5)).cell? ⟨g, 0, none⟩ = some (.slice A' xs'.length c') := (HA2.out.blk.alloc _).cell 0
        have hxl : xs'.length ≤ 1000000 := by omega
        clear hnews HPL
        go_region_law ((refine step_append_lies _ (by rfl) _ _ _ (by rfl) base 5 i0 _ 1 1 Tryz.underlying29 hi0 hz0 hz1 hz2 rfl (by omega) (.slice A' xs'.length c') xs'.length (bv xs') (by rfl) (by exact HA2.out.own.alloc _) ⟨W2.heap.size, 0, none⟩ 1 1 [.int .u8 (x : Int)] (by rfl) rfl (by exact HNW.out) (by simp [Value.oneCell']) (by omega) (by simp only [maxLen]; omega) (by omega) (by have := HA2.out.size; simp; omega) _ rfl ?_
                        intro g3 cap3 w3 hown3 hgrow3 hat3 hlt3
                        have h7 : Blk w3 g 77 #[.slice A' xs'.length c', .int .u64 P, .int .i64 o2, m1, m2] := Blk.grown (by exact HA2.out.blk.alloc _) hgrow3 (fun e => HA2.out.ne _ e rfl)
                        have c3 : w3.cell? ⟨g, 0, none⟩ = some (.slice A' xs'.length c') := h7.cell 0
                        have d3 : w3.frozen? ⟨g, 0, none⟩ = false := h7.frozen 0
                        have H7 := Lib.hid h7
                        have HO3 := Lib.hid hown3
                        have HG3 := Lib.hid hgrow3
                        have HT3 := Lib.hid hat3
                        clear h7 hown3 hgrow3 hat3 hlt3))
        all_goals go_wp2
        all_goals
          have HR := stored HA2.out H7.out (x := x) (by simpa [bv_append, bv] using HO3.out) HXB.out (Keeps.grown (w1 := (W2.alloc (.cells #[.int .u8 (x : Int)] 5)).drew) (by exact ((Keeps.refl _ _).alloc _).drewN 1) HG3.out (fun k hk => .inl (.inr hk))) (by rcases HT3.out with h | h; exact .inl h.symm; exact .inr ⟨_, rfl, by rw [h]; simp⟩)
          refine ⟨⟨some ⟨g3, 0, none⟩, xs' ++ [(x : Int)], cap3, o2, by simpa using HR.1, by rw [bitsOf_snoc, Int.toNat_natCast, ← HX.out, List.append_assoc, ← shift_tb]; exact HB.out, by simp; omega, by omega, by simpa using HM2.out.trans HR.2⟩, ?_⟩
          have hm2 := HR.1.blk.cell 2
          have hm1 := HC.out
          rw [hm2, hm1]
          show ((o2 : Int)).toNat < (((o2 + 8 : Nat) : Int)).toNat
          omega
      · go_wp2
        go_end0
        exact ⟨rfl, _, ⟨xs', P, o', HA.out, by omega, HB.out.symm⟩, HM.out⟩
end Go.Proofs.YtgaofnmgdefdcaaGreatDoor.Bq

namespace Go.Proofs.YtgaofnmgdefdcaaGreatDoor.Bq
open Go.RowKit Go.Shelf Go.Sort Go.Proofs.YtgaofnmgdefdcaaGreatDoor.Gen Go.Proofs.YtgaofnmgdefdcaaGreatDoor.Mp Go.Proofs.YtgaofnmgdefdcaaGreatDoor.Hr Go.Proofs.YtgaofnmgdefdcaaGreatDoor.Hs Go.Proofs.YtgaofnmgdefdcaaGreatDoor.Hf Go.Proofs.YtgaofnmgdefdcaaGreatDoor.Hz Go.Proofs.YtgaofnmgdefdcaaGreatDoor.Ln Go.Proofs.YtgaofnmgdefdcaaGreatDoor.Hk Go.Proofs.YtgaofnmgdefdcaaGreatDoor.Bp
open Go.Proofs.YtgaofnmgdefdcaaGreatDoor.Hu hiding put_some
open Go.Proofs.YtgaofnmgdefdcaaGreatDoor.Bw hiding At IsBw Puts At.keeps At.drew At.ne At.set IsBw.keeps IsBw.its stored bytes put
variable {m1 m2 : Value}

/-- Put of a number that has a word. -/
theorem put_some (base p : Nat) (W : Ws) (x : Int) (z v : Nat) (bs g : Nat) (vw : Value) (l : List Nat) (w : World) (h : IsCode base w p W) (hx : (Lit.int .i64 x).wf = true) (hf : found W x = some (z, v)) (hz : z ≤ 32) (hv : v < 4294967296) (hw : IsBw m1 m2 bs g vw l w) (hl : l.length + 32 ≤ 8000000) :
    Calls Tryz.prog 38 #[.pointer (some ⟨p, 0, none⟩), .pointer (some ⟨g, 0, none⟩), .int .i64 x] w fun r w' => r = .returned (.bool true) ∧ ∃ v', IsBw m1 m2 bs g v' (l ++ tb v z) w' ∧ Moves g vw v' w w' := by
  have HRO := Lib.hid (wordOf_ base p W x w h hx)
  have e1 : wb W x = v := by simp [wb, hf]
  have e2 : wz W x = z := by simp [wz, hf]
  have e3 : (found W x).isSome = true := by simp [hf]
  rw [e1, e2, e3] at HRO
  have HW := Lib.hid hw
  have HSZ : Hid (Bf.sz (z : Int) = z) := by show Bf.sz (z : Int) = z; unfold Bf.sz; omega
  clear h e1 e2 e3 hf hw
  go_enter Tryz.func38, Tryz.ntmps38
  go_wp2_with fail
  refine HRO.out.mono ?_
  rintro e w1 ⟨rfl, hk⟩
  have HK1 := Lib.hid (hk.alloc (.cells #[.int .u32 (v : Int), .int .i64 (z : Int)] 129))
  have HPU := Lib.hid (put g bs vw l v (z : Int) _ (HW.out.keeps HK1.out (fun _ _ => id)) hl hv)
  clear hk
  go_wp2_with (
    refine HPU.out.mono ?_
    rintro e w2 ⟨rfl, v', hv', hm⟩
    have HV := Lib.hid hv'
    have HMV := Lib.hid hm
    clear hv' hm)
  go_ret
  refine ⟨rfl, v', ?_, ?_⟩
  · have h1 := HV.out
    rw [HSZ.out] at h1
    exact h1
  · have h1 := HMV.out
    refine ⟨(HK1.out.none_ (S := Its g vw)).trans h1.keeps, ?_⟩
    rcases h1.at_ with h2 | ⟨b, h2, h3⟩
    · exact .inl h2
    · exact .inr ⟨b, h2, Nat.le_trans HK1.out.size h3⟩
end Go.Proofs.YtgaofnmgdefdcaaGreatDoor.Bq

/-
  DERIVED: THE SHELF's CONTRACTS AT THIS DUMP, IN PLAIN WORDS (tools/lay-plain.mjs out of 'YtgaofnmgdefdcaaDoorKeyShelf.lean', which tools/lay-shelf.mjs wrote): THE SAME DECLARATIONS UNDER THE SAME NAMES: 'import', 'namespace', 'open', 'def', 'theorem' AND NOTHING ELSE: no command of the shelf's: FOR A HAND-IN. Each laying: the table of numbers ('.._ren') and one theorem, a field a fact of the dump's own or the kernel's comparison; each contract: ONE APPLICATION.
-/
/- huff.Key: each entry's number and size as text, each with an end of its own. The condition: strconv's table of tens reads as its text lays it. -/
import Derived.Shelf.Strconv.AppendIntPublic10
import Derived.Ground.NamesProg
import Derived.Test.YtgaofnmgdefdcaaDoorProg
import Derived.Test.YtgaofnmgdefdcaaDoorHufStS
import Derived.Test.YtgaofnmgdefdcaaDoorJHufChkHufCode
import Derived.Lib.AppendIntMem
import Derived.Lib.ItoaLen
import Derived.Lib.BufferRead
import Derived.Lib.Slices
import Derived.Laws.IdiomStrings
import Derived.OwnWalk
import Derived.BigCall

namespace Go.Proofs
open Go.Shelf
def Tryd.laysAI_ren : Go.Shelf.Ren := ⟨fun | 176 => 57 | 249 => 66 | 288 => 79 | 283 => 86 | 284 => 87 | 285 => 88 | 286 => 89 | 129 => 64 | 317 => 92 | 318 => 93 | 319 => 94 | 320 => 95 | 337 => 96 | 338 => 97 | n => n, fun | 37 => 28 | 2 => 2 | 3 => 3 | 53 => 54 | 4 => 4 | 9 => 9 | 171 => 149 | 0 => 0 | 173 => 151 | 212 => 157 | 51 => 75 | 5 => 5 | 20 => 20 | 213 => 158 | 46 => 120 | 232 => 159 | 233 => 160 | n => n, fun | 17 => 1 | 18 => 2 | 19 => 3 | n => n⟩
theorem Tryd.laysAI : Go.Proofs.LaysM.n176 Tryd.prog Tryd.laysAI_ren := {
  mixed := by kernel_rfl
  f129 := Tryd.func64.trans (congrArg some (by kernel_rfl))
  f176 := Tryd.func57.trans (congrArg some (by kernel_rfl))
  f249 := Tryd.func66.trans (congrArg some (by kernel_rfl))
  f283 := Tryd.func86.trans (congrArg some (by kernel_rfl))
  f284 := Tryd.func87.trans (congrArg some (by kernel_rfl))
  f285 := Tryd.func88.trans (congrArg some (by kernel_rfl))
  f286 := Tryd.func89.trans (congrArg some (by kernel_rfl))
  f288 := Tryd.func79.trans (congrArg some (by kernel_rfl))
  f317 := Tryd.func92.trans (congrArg some (by kernel_rfl))
  f318 := Tryd.func93.trans (congrArg some (by kernel_rfl))
  f319 := Tryd.func94.trans (congrArg some (by kernel_rfl))
  f320 := Tryd.func95.trans (congrArg some (by kernel_rfl))
  f337 := Tryd.func96.trans (congrArg some (by kernel_rfl))
  f338 := Tryd.func97.trans (congrArg some (by kernel_rfl))
  t0 := Tryd.underlying0
  a0 := Tryd.isAgg0
  z0 := Tryd.sizeOf0
  v0 := Tryd.zeroValue0
  t2 := Tryd.underlying2
  a2 := Tryd.isAgg2
  z2 := Tryd.sizeOf2
  v2 := Tryd.zeroValue2
  t3 := Tryd.underlying3
  a3 := Tryd.isAgg3
  z3 := Tryd.sizeOf3
  v3 := Tryd.zeroValue3
  t4 := Tryd.underlying4
  a4 := Tryd.isAgg4
  z4 := Tryd.sizeOf4
  v4 := Tryd.zeroValue4
  t5 := Tryd.underlying5
  a5 := Tryd.isAgg5
  z5 := Tryd.sizeOf5
  v5 := Tryd.zeroValue5
  t9 := Tryd.underlying9
  a9 := Tryd.isAgg9
  z9 := Tryd.sizeOf9
  v9 := Tryd.zeroValue9
  t20 := Tryd.underlying20
  a20 := Tryd.isAgg20
  z20 := Tryd.sizeOf20
  v20 := Tryd.zeroValue20
  t37 := Tryd.underlying28
  a37 := Tryd.isAgg28
  z37 := Tryd.sizeOf28
  v37 := Tryd.zeroValue28
  t46 := Tryd.underlying120
  a46 := Tryd.isAgg120
  z46 := Tryd.sizeOf120
  v46 := Tryd.zeroValue120
  t51 := Tryd.underlying75
  a51 := Tryd.isAgg75
  z51 := Tryd.sizeOf75
  v51 := Tryd.zeroValue75
  t53 := Tryd.underlying54
  a53 := Tryd.isAgg54
  z53 := Tryd.sizeOf54
  v53 := Tryd.zeroValue54
  t171 := Tryd.underlying149
  a171 := Tryd.isAgg149
  z171 := Tryd.sizeOf149
  v171 := Tryd.zeroValue149
  t173 := Tryd.underlying151
  a173 := Tryd.isAgg151
  z173 := Tryd.sizeOf151
  v173 := Tryd.zeroValue151
  t212 := Tryd.underlying157
  a212 := Tryd.isAgg157
  z212 := Tryd.sizeOf157
  v212 := Tryd.zeroValue157
  t213 := Tryd.underlying158
  a213 := Tryd.isAgg158
  z213 := Tryd.sizeOf158
  t232 := Tryd.underlying159
  a232 := Tryd.isAgg159
  z232 := Tryd.sizeOf159
  v232 := Tryd.zeroValue159
  t233 := Tryd.underlying160
  a233 := Tryd.isAgg160
  z233 := Tryd.sizeOf160
  v233 := Tryd.zeroValue160
  g17 := by kernel_rfl
  g18 := by kernel_rfl
  g19 := by kernel_rfl
  i0 := by kernel_rfl
  i2 := by kernel_rfl
  i3 := by kernel_rfl
  i4 := by kernel_rfl
  i5 := by kernel_rfl
  i9 := by kernel_rfl
  i20 := by kernel_rfl
  i37 := by kernel_rfl
  i46 := by kernel_rfl
  i51 := by kernel_rfl
  i53 := by kernel_rfl
  i171 := by kernel_rfl
  i173 := by kernel_rfl
  i212 := by kernel_rfl
  i232 := by kernel_rfl
  i233 := by kernel_rfl
  m17 := by kernel_rfl
  m18 := by kernel_rfl
  m19 := by kernel_rfl }
end Go.Proofs

namespace Go.Proofs.YtgaofnmgdefdcaaDoor.Ky
open Go.RowKit Go.Shelf Go.Proofs.YtgaofnmgdefdcaaDoor.Gen Go.Proofs.YtgaofnmgdefdcaaDoor.Hr Go.Proofs.YtgaofnmgdefdcaaDoor.Hn

/-- An entry's text. -/
def ent1 (x : G) : List UInt8 := Lib.itoa x.1 ++ 58 :: (Lib.itoa x.2 ++ [32])
def keyT (L : List G) : List UInt8 := L.flatMap ent1
theorem keyT_snoc (L : List G) (x : G) : keyT (L ++ [x]) = keyT L ++ ent1 x := by simp [keyT]
/-- What an int holds. -/
def Fits (x : G) : Prop := (-9223372036854775808 ≤ x.1 ∧ x.1 ≤ 9223372036854775807) ∧ (-9223372036854775808 ≤ x.2 ∧ x.2 ≤ 9223372036854775807)
theorem ent1_len {x : G} (h : Fits x) : (ent1 x).length ≤ 44 ∧ 2 ≤ (ent1 x).length := by
  have h1 := Lib.itoa_length_le x.1 h.1.1 h.1.2
  have h2 := Lib.itoa_length_le x.2 h.2.1 h.2.2
  simp only [ent1, List.length_append, List.length_cons, List.length_nil]
  omega
theorem u8_info' : (Tryd.prog.info? 5).map (fun i => (i.zero, i.size, i.bytes)) = some (some (.int .u8 0), 1, 1) := by kernel_rfl
theorem keyT_take (L : List G) {d : Nat} (h : d < L.length) : keyT (L.take (d + 1)) = keyT (L.take d) ++ ent1 (L.getD d (0, 0)) := by
  rw [List.take_add_one, List.getElem?_eq_getElem h, List.getD_eq_getElem?_getD, List.getElem?_eq_getElem h]
  exact keyT_snoc _ _
theorem keyT_len {L : List G} (h : ∀ x ∈ L, Fits x) : (keyT L).length ≤ 44 * L.length := by
  induction L with
  | nil => simp [keyT]
  | cons x L ih =>
    have h1 := ih fun y hy => h y (List.mem_cons_of_mem _ hy)
    have h2 := (ent1_len (h x List.mem_cons_self)).1
    simp only [keyT, List.flatMap_cons, List.length_append, List.length_cons] at h1 ⊢
    omega

theorem appendInt_ (B n : Nat) (i : Int) (h : -9223372036854775808 ≤ i ∧ i ≤ 9223372036854775807) (sv : Value) (xs : List UInt8) (w : World) (hown : w.ownsRow B 5 1 sv n (Lib.byteCells xs)) (hBw : B ≤ w.heap.size) (hlim : n + 21 ≤ 140737488355328)
    (htab : Lib.TabBelow Tryd.prog B w "internal/strconv.uint64pow10" .u64 Lib.pow10Tab) :
    Calls Tryd.prog 57 #[sv, .int .i64 i, .int .i64 10] w fun e w' => ∃ v', e = .returned v' ∧ w'.ownsRow B 5 1 v' (n + (Lib.itoa i).length) (Lib.byteCells (xs ++ Lib.itoa i)) ∧ Below B w w' ∧ Lib.OthersKept 5 none w w' := by
  rw [Lib.byteCells_append]
  exact Any.strconv_AppendInt_10 Tryd.laysAI B n i h.1 h.2 sv (Lib.byteCells xs) w hown hBw hlim htab
theorem Blk.others {w w' : World} {g : Nat} {t : TypeId} {cs : Array Value} (h : Blk w g t cs) (k : Lib.OthersKept 5 none w w') (ht : t ≠ 5) : Blk w' g t cs :=
  k g _ h (by simp) fun c fz e => ht (by injection e)

set_option maxHeartbeats 6400000 in
set_option maxRecDepth 100000 in
theorem key_ (A : Option Addr) (n c : Nat) (L : List G) (w : World) (hL : RowAt w A (gvs L)) (hn : L.length = n) (hs : n ≤ 1000) (hf : ∀ x ∈ L, Fits x)
    (htab : Lib.TabIs Tryd.prog w "internal/strconv.uint64pow10" .u64 Lib.pow10Tab) :
    Calls Tryd.prog 41 #[.slice A n c] w fun r w' => r = .returned (.string ⟨(keyT L).toArray⟩) ∧ Below w.heap.size w w' := by
  obtain ⟨i0, hi, hz0, hz1, hz2⟩ := info_parts u8_info'
  have HTB := Lib.hid (Lib.tabBelow_of_tabIs htab)
  have HL := Lib.hid hL
  have HN := Lib.hid hn
  have HF := Lib.hid hf
  clear hL hn hf htab
  go_enter Tryd.func41, Tryd.ntmps41
  go_wp2
  go_loopw [3, 8] (fun b i wx => ∃ d : Nat, d ≤ n ∧ i = .int .i64 (d : Int) ∧ wx.ownsRow w.heap.size 5 1 b (keyT (L.take d)).length (Lib.byteCells (keyT (L.take d))) ∧ Below w.heap.size w wx) (fun _ i _ => n - (intOf i).toNat)
  case atStart => exact ⟨0, by omega, rfl, by rw [List.take_zero]; exact World.ownsRow_nil _ _ _ _, Below.refl _ _⟩
  case round =>
    obtain ⟨d, hd, rfl, hown, hbel⟩ := hrel
    obtain ⟨T, hT⟩ : ∃ T, T = keyT (L.take d) := ⟨_, rfl⟩
    rw [← hT] at hown
    have hlen : T.length ≤ 44000 := by
      have h1 := keyT_len (L := L.take d) fun x hx => HF.out x (List.mem_of_mem_take hx)
      rw [List.length_take, ← hT] at h1
      have := HN.out
      omega
    have HT := Lib.hid hT
    have HO := Lib.hid hown
    have HB := Lib.hid hbel
    clear hT hown hbel
    have hsz := HB.out.size
    by_cases hdn : d < n
    · have hdl : d < L.length := by rw [HN.out]; exact hdn
      have HNX := Lib.hid (keyT_take L hdl)
      obtain ⟨b, o, rfl, _, h0, h1⟩ := g_item (w := wr) (l := L) (RowAt.keeps HL.out (Keeps.of_below (S := fun _ => False) HB.out) (fun _ _ _ => id)) hdl
      have hmem : L.getD d (0, 0) ∈ L := by rw [List.getD_eq_getElem?_getD, List.getElem?_eq_getElem hdl]; simp
      have hfit := HF.out _ hmem
      obtain ⟨⟨x, z⟩, hxz⟩ : ∃ q, q = L.getD d (0, 0) := ⟨_, rfl⟩
      rw [← hxz] at h0 h1 hfit HNX
      simp only at h0 h1
      obtain ⟨⟨x0, x1⟩, ⟨z0, z1⟩⟩ := hfit
      have lx := Lib.itoa_length_le x x0 x1
      have lz := Lib.itoa_length_le z z0 z1
      have HX := Lib.hid (And.intro x0 x1)
      have HZ := Lib.hid (And.intro z0 z1)
      have hd0 : (0 : Int) ≤ (d : Int) := by omega
      have hd1 : (d : Int) < (n : Int) := by omega
      clear hmem hxz hdl hdn x0 x1 z0 z1
      have HB1 := Lib.hid (HB.out.alloc hsz (.cells #[.int .i64 x, .int .i64 z] 88))
      have HO1 := Lib.hid (HO.out.alloc (.cells #[.int .i64 x, .int .i64 z] 88))
      have HBK := Lib.hid (Blk.new wr 88 #[.int .i64 x, .int .i64 z])
      go_wp2_with (
        go_at_call 57
        refine (appendInt_ w.heap.size T.length x HX.out u3 T _ HO1.out (by have := HB1.out.size; exact this) (by omega) (HTB.out.on HB1.out)).mono ?_
        rintro e w1 ⟨v1, rfl, hown1, hb1, hk1⟩
        have HO2 := Lib.hid hown1
        have HB2 := Lib.hid (HB1.out.trans hb1)
        have HBK2 := Lib.hid (Blk.others HBK.out hk1 (by decide))
        clear hown1 hb1 hk1 HB1 HBK HO1
        refine Hid.out ?_)
      refine Lib.hid ?_
      have hsz1 := HB2.out.size
      have HO3 := Lib.hid (HO2.out.alloc (.cells #[.int .u8 58] 5))
      have HB3 := Lib.hid (HB2.out.alloc hsz1 (.cells #[.int .u8 58] 5))
      have HBK3 := Lib.hid (HBK2.out.alloc (.cells #[.int .u8 58] 5))
      have hsz3 := HB3.out.size
      go_wp2_with (
        at_builtin
        refine wpList_append_own_at _ rfl _ _ 28 rfl w.heap.size 5 i0 _ 1 1 Tryd.underlying28 hi hz0 hz1 hz2 rfl (by decide) v1 _ _ rfl
          HO3.out ⟨w1.heap.size, 0, none⟩ 1 1 [Value.int .u8 58] rfl rfl (by intro j u' hj; match j, hj with | 0, hj => simp at hj; subst hj; simp [Addr.add]) (by intro u' hu'; simp at hu'; subst hu'; rfl) (by unfold maxLen; omega) (by omega) hsz3 ?_
        intro v2 w2 hown2 hg2 _ _
        refine Hid.out ?_)
      refine Lib.hid ?_
      have HB4 := Lib.hid (HB3.out.grown hg2 hsz3 (fun k hk => (HO3.out.lt k hk).1))
      have HBK4 : Hid (Blk w2 wr.heap.size 88 #[.int .i64 x, .int .i64 z]) := Lib.hid (HBK3.out.grown hg2 (own_ne HO3.out HBK3.out (by decide)))
      have eT : Lib.byteCells (T ++ Lib.itoa x) ++ [Value.int .u8 58] = Lib.byteCells (T ++ Lib.itoa x ++ [58]) := by simp [Lib.byteCells]
      rw [eT] at hown2
      have HO4 := Lib.hid hown2
      clear hown2 eT hg2 HB3 HBK3 HO3 HO2 HB2 HBK2
      have hsz4 := HB4.out.size
      have hc4 : w2.cell? ⟨wr.heap.size, 1, none⟩ = some (.int .i64 z) := HBK4.out.cell 1
      go_wp2_with (
        go_at_call 57
        refine (appendInt_ w.heap.size _ z HZ.out v2 _ _ HO4.out (by have := HB4.out.size; exact this) (by omega) (HTB.out.on HB4.out)).mono ?_
        rintro e w3 ⟨v3, rfl, hown3, hb3, hk3⟩
        have HO5 := Lib.hid hown3
        have HB5 := Lib.hid (HB4.out.trans hb3)
        clear hown3 hb3 hk3 HB4 HBK4 HO4
        refine Hid.out ?_)
      refine Lib.hid ?_
      have hsz5 := HB5.out.size
      have HO6 := Lib.hid (HO5.out.alloc (.cells #[.int .u8 32] 5))
      have HB6 := Lib.hid (HB5.out.alloc hsz5 (.cells #[.int .u8 32] 5))
      have hsz6 := HB6.out.size
      go_wp2_with (
        at_builtin
        refine wpList_append_own_at _ rfl _ _ 28 rfl w.heap.size 5 i0 _ 1 1 Tryd.underlying28 hi hz0 hz1 hz2 rfl (by decide) v3 _ _ rfl
          HO6.out ⟨w3.heap.size, 0, none⟩ 1 1 [Value.int .u8 32] rfl rfl (by intro j u' hj; match j, hj with | 0, hj => simp at hj; subst hj; simp [Addr.add]) (by intro u' hu'; simp at hu'; subst hu'; rfl) (by unfold maxLen; omega) (by omega) hsz6 ?_
        intro v4 w4 hown4 hg4 _ _
        have HO7 := Lib.hid hown4
        have HB7 := Lib.hid (HB6.out.grown hg4 hsz6 (fun k hk => (HO6.out.lt k hk).1))
        clear hown4 hg4 HB6 HO6 HO5 HB5)
      refine ⟨⟨d + 1, by omega, by go_num, ?_, HB7.out⟩, by simp [intOf]; omega⟩
      rw [HNX.out, ← HT.out]
      have h := HO7.out
      have eL : Lib.byteCells (T ++ Lib.itoa x ++ [58] ++ Lib.itoa z) ++ [Value.int .u8 32] = Lib.byteCells (T ++ ent1 (x, z)) := by simp [Lib.byteCells, ent1]
      have eN : T.length + (Lib.itoa x).length + 1 + (Lib.itoa z).length + 1 = (T ++ ent1 (x, z)).length := by simp [ent1]; omega
      rw [eL, eN] at h
      exact h
    · obtain rfl : d = n := by omega
      have hge : ¬ ((d : Int) < (d : Int)) := by omega
      have HK : Hid (T = keyT L) := by
        show T = keyT L
        rw [HT.out, List.take_of_length_le (by have := HN.out; omega)]
      clear hdn HT
      rcases HO.out.2 with ⟨rfl, h0⟩ | ⟨g, cap, cur, rfl, -, -, -, -, -, -⟩
      · have hcv := Lib.run_convert_nil_bytes (P := Tryd.prog) wr 28 9 5 0 Tryd.underlying28 Tryd.underlying5 Tryd.underlying9
        go_wp2
        go_ret
        refine ⟨?_, HB.out⟩
        rw [← HK.out, List.eq_nil_of_length_eq_zero h0]
        rfl
      · have hcv := run_convert_bytes_back (P := Tryd.prog) wr 28 9 5 ⟨g, 0, none⟩ cap T Tryd.underlying28 Tryd.underlying5 Tryd.underlying9 (fun j hj => HO.out.cells (g := g) rfl j _ (by simp [Lib.byteCells, hj]))
        go_wp2
        go_ret
        exact ⟨by rw [← HK.out]; rfl, HB.out⟩
end Go.Proofs.YtgaofnmgdefdcaaDoor.Ky

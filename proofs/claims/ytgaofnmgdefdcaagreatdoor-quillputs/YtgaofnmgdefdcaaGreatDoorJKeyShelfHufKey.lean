/-
  DERIVED: THE SHELF's CONTRACTS AT THIS DUMP, IN PLAIN WORDS (tools/lay-plain.mjs out of 'YtgaofnmgdefdcaaGreatDoorKeyShelf.lean', which tools/lay-shelf.mjs wrote): THE SAME DECLARATIONS UNDER THE SAME NAMES: 'import', 'namespace', 'open', 'def', 'theorem' AND NOTHING ELSE: no command of the shelf's: FOR A HAND-IN. Each laying: the table of numbers ('.._ren') and one theorem, a field a fact of the dump's own or the kernel's comparison; each contract: ONE APPLICATION.
-/
/- huff.Key: each entry's number and size as text, each with an end of its own. The condition: strconv's table of tens reads as its text lays it. -/
import Derived.Shelf.Strconv.AppendIntPublic10
import Derived.Ground.NamesProg
import Derived.Test.YtgaofnmgdefdcaaGreatDoorProg
import Derived.Test.YtgaofnmgdefdcaaGreatDoorHufStS
import Derived.Test.YtgaofnmgdefdcaaGreatDoorJHufChkHufCode
import Derived.Lib.AppendIntMem
import Derived.Lib.ItoaLen
import Derived.Lib.BufferRead
import Derived.Lib.Slices
import Derived.Laws.IdiomStrings
import Derived.OwnWalk
import Derived.BigCall

namespace Go.Proofs
open Go.Shelf
def Tryz.laysAI_ren : Go.Shelf.Ren := ⟨fun | 176 => 85 | 249 => 104 | 288 => 121 | 283 => 130 | 284 => 131 | 285 => 132 | 286 => 133 | 129 => 105 | 317 => 138 | 318 => 139 | 319 => 140 | 320 => 141 | 337 => 145 | 338 => 146 | n => n, fun | 37 => 29 | 2 => 2 | 3 => 3 | 53 => 69 | 4 => 4 | 9 => 9 | 171 => 194 | 0 => 0 | 173 => 196 | 212 => 205 | 51 => 88 | 5 => 5 | 20 => 20 | 213 => 206 | 46 => 159 | 232 => 209 | 233 => 210 | n => n, fun | 17 => 1 | 18 => 2 | 19 => 3 | n => n⟩
theorem Tryz.laysAI : Go.Proofs.LaysM.n176 Tryz.prog Tryz.laysAI_ren := {
  mixed := by kernel_rfl
  f129 := Tryz.func105.trans (congrArg some (by kernel_rfl))
  f176 := Tryz.func85.trans (congrArg some (by kernel_rfl))
  f249 := Tryz.func104.trans (congrArg some (by kernel_rfl))
  f283 := Tryz.func130.trans (congrArg some (by kernel_rfl))
  f284 := Tryz.func131.trans (congrArg some (by kernel_rfl))
  f285 := Tryz.func132.trans (congrArg some (by kernel_rfl))
  f286 := Tryz.func133.trans (congrArg some (by kernel_rfl))
  f288 := Tryz.func121.trans (congrArg some (by kernel_rfl))
  f317 := Tryz.func138.trans (congrArg some (by kernel_rfl))
  f318 := Tryz.func139.trans (congrArg some (by kernel_rfl))
  f319 := Tryz.func140.trans (congrArg some (by kernel_rfl))
  f320 := Tryz.func141.trans (congrArg some (by kernel_rfl))
  f337 := Tryz.func145.trans (congrArg some (by kernel_rfl))
  f338 := Tryz.func146.trans (congrArg some (by kernel_rfl))
  t0 := Tryz.underlying0
  a0 := Tryz.isAgg0
  z0 := Tryz.sizeOf0
  v0 := Tryz.zeroValue0
  t2 := Tryz.underlying2
  a2 := Tryz.isAgg2
  z2 := Tryz.sizeOf2
  v2 := Tryz.zeroValue2
  t3 := Tryz.underlying3
  a3 := Tryz.isAgg3
  z3 := Tryz.sizeOf3
  v3 := Tryz.zeroValue3
  t4 := Tryz.underlying4
  a4 := Tryz.isAgg4
  z4 := Tryz.sizeOf4
  v4 := Tryz.zeroValue4
  t5 := Tryz.underlying5
  a5 := Tryz.isAgg5
  z5 := Tryz.sizeOf5
  v5 := Tryz.zeroValue5
  t9 := Tryz.underlying9
  a9 := Tryz.isAgg9
  z9 := Tryz.sizeOf9
  v9 := Tryz.zeroValue9
  t20 := Tryz.underlying20
  a20 := Tryz.isAgg20
  z20 := Tryz.sizeOf20
  v20 := Tryz.zeroValue20
  t37 := Tryz.underlying29
  a37 := Tryz.isAgg29
  z37 := Tryz.sizeOf29
  v37 := Tryz.zeroValue29
  t46 := Tryz.underlying159
  a46 := Tryz.isAgg159
  z46 := Tryz.sizeOf159
  v46 := Tryz.zeroValue159
  t51 := Tryz.underlying88
  a51 := Tryz.isAgg88
  z51 := Tryz.sizeOf88
  v51 := Tryz.zeroValue88
  t53 := Tryz.underlying69
  a53 := Tryz.isAgg69
  z53 := Tryz.sizeOf69
  v53 := Tryz.zeroValue69
  t171 := Tryz.underlying194
  a171 := Tryz.isAgg194
  z171 := Tryz.sizeOf194
  v171 := Tryz.zeroValue194
  t173 := Tryz.underlying196
  a173 := Tryz.isAgg196
  z173 := Tryz.sizeOf196
  v173 := Tryz.zeroValue196
  t212 := Tryz.underlying205
  a212 := Tryz.isAgg205
  z212 := Tryz.sizeOf205
  v212 := Tryz.zeroValue205
  t213 := Tryz.underlying206
  a213 := Tryz.isAgg206
  z213 := Tryz.sizeOf206
  t232 := Tryz.underlying209
  a232 := Tryz.isAgg209
  z232 := Tryz.sizeOf209
  v232 := Tryz.zeroValue209
  t233 := Tryz.underlying210
  a233 := Tryz.isAgg210
  z233 := Tryz.sizeOf210
  v233 := Tryz.zeroValue210
  g17 := by kernel_rfl
  g18 := by kernel_rfl
  g19 := by kernel_rfl
  i0 := by kernel_rfl
  i2 := by kernel_rfl
  i3 := by kernel_rfl
  i4 := by kernel_rfl
  i5 := by kernel_rfl
  i9 := by kernel_rfl
  i20 := by kernel_rfl
  i37 := by kernel_rfl
  i46 := by kernel_rfl
  i51 := by kernel_rfl
  i53 := by kernel_rfl
  i171 := by kernel_rfl
  i173 := by kernel_rfl
  i212 := by kernel_rfl
  i232 := by kernel_rfl
  i233 := by kernel_rfl
  m17 := by kernel_rfl
  m18 := by kernel_rfl
  m19 := by kernel_rfl }
end Go.Proofs

namespace Go.Proofs.YtgaofnmgdefdcaaGreatDoor.Ky
open Go.RowKit Go.Shelf Go.Proofs.YtgaofnmgdefdcaaGreatDoor.Gen Go.Proofs.YtgaofnmgdefdcaaGreatDoor.Hr Go.Proofs.YtgaofnmgdefdcaaGreatDoor.Hn

/-- An entry's text. -/
def ent1 (x : G) : List UInt8 := Lib.itoa x.1 ++ 58 :: (Lib.itoa x.2 ++ [32])
def keyT (L : List G) : List UInt8 := L.flatMap ent1
theorem keyT_snoc (L : List G) (x : G) : keyT (L ++ [x]) = keyT L ++ ent1 x := by simp [keyT]
/-- What an int holds. -/
def Fits (x : G) : Prop := (-9223372036854775808 ≤ x.1 ∧ x.1 ≤ 9223372036854775807) ∧ (-9223372036854775808 ≤ x.2 ∧ x.2 ≤ 9223372036854775807)
theorem ent1_len {x : G} (h : Fits x) : (ent1 x).length ≤ 44 ∧ 2 ≤ (ent1 x).length := by
  have h1 := Lib.itoa_length_le x.1 h.1.1 h.1.2
  have h2 := Lib.itoa_length_le x.2 h.2.1 h.2.2
  simp only [ent1, List.length_append, List.length_cons, List.length_nil]
  omega
theorem u8_info' : (Tryz.prog.info? 5).map (fun i => (i.zero, i.size, i.bytes)) = some (some (.int .u8 0), 1, 1) := by kernel_rfl
theorem keyT_take (L : List G) {d : Nat} (h : d < L.length) : keyT (L.take (d + 1)) = keyT (L.take d) ++ ent1 (L.getD d (0, 0)) := by
  rw [List.take_add_one, List.getElem?_eq_getElem h, List.getD_eq_getElem?_getD, List.getElem?_eq_getElem h]
  exact keyT_snoc _ _
theorem keyT_len {L : List G} (h : ∀ x ∈ L, Fits x) : (keyT L).length ≤ 44 * L.length := by
  induction L with
  | nil => simp [keyT]
  | cons x L ih =>
    have h1 := ih fun y hy => h y (List.mem_cons_of_mem _ hy)
    have h2 := (ent1_len (h x List.mem_cons_self)).1
    simp only [keyT, List.flatMap_cons, List.length_append, List.length_cons] at h1 ⊢
    omega

theorem appendInt_ (B n : Nat) (i : Int) (h : -9223372036854775808 ≤ i ∧ i ≤ 9223372036854775807) (sv : Value) (xs : List UInt8) (w : World) (hown : w.ownsRow B 5 1 sv n (Lib.byteCells xs)) (hBw : B ≤ w.heap.size) (hlim : n + 21 ≤ 140737488355328)
    (htab : Lib.TabBelow Tryz.prog B w "internal/strconv.uint64pow10" .u64 Lib.pow10Tab) :
    Calls Tryz.prog 85 #[sv, .int .i64 i, .int .i64 10] w fun e w' => ∃ v', e = .returned v' ∧ w'.ownsRow B 5 1 v' (n + (Lib.itoa i).length) (Lib.byteCells (xs ++ Lib.itoa i)) ∧ Below B w w' ∧ Lib.OthersKept 5 none w w' := by
  rw [Lib.byteCells_append]
  exact Any.strconv_AppendInt_10 Tryz.laysAI B n i h.1 h.2 sv (Lib.byteCells xs) w hown hBw hlim htab
theorem Blk.others {w w' : World} {g : Nat} {t : TypeId} {cs : Array Value} (h : Blk w g t cs) (k : Lib.OthersKept 5 none w w') (ht : t ≠ 5) : Blk w' g t cs :=
  k g _ h (by simp) fun c fz e => ht (by injection e)

set_option maxHeartbeats 6400000 in
set_option maxRecDepth 100000 in
theorem key_ (A : Option Addr) (n c : Nat) (L : List G) (w : World) (hL : RowAt w A (gvs L)) (hn : L.length = n) (hs : n ≤ 1000) (hf : ∀ x ∈ L, Fits x)
    (htab : Lib.TabIs Tryz.prog w "internal/strconv.uint64pow10" .u64 Lib.pow10Tab) :
    Calls Tryz.prog 59 #[.slice A n c] w fun r w' => r = .returned (.string ⟨(keyT L).toArray⟩) ∧ Below w.heap.size w w' := by
  obtain ⟨i0, hi, hz0, hz1, hz2⟩ := info_parts u8_info'
  have HTB := Lib.hid (Lib.tabBelow_of_tabIs htab)
  have HL := Lib.hid hL
  have HN := Lib.hid hn
  have HF := Lib.hid hf
  clear hL hn hf htab
  go_enter Tryz.func59, Tryz.ntmps59
  go_wp2
  go_loopw [3, 8] (fun b i wx => ∃ d : Nat, d ≤ n ∧ i = .int .i64 (d : Int) ∧ wx.ownsRow w.heap.size 5 1 b (keyT (L.take d)).length (Lib.byteCells (keyT (L.take d))) ∧ Below w.heap.size w wx) (fun _ i _ => n - (intOf i).toNat)
  case atStart => exact ⟨0, by omega, rfl, by rw [List.take_zero]; exact World.ownsRow_nil _ _ _ _, Below.refl _ _⟩
  case round =>
    obtain ⟨d, hd, rfl, hown, hbel⟩ := hrel
    obtain ⟨T, hT⟩ : ∃ T, T = keyT (L.take d) := ⟨_, rfl⟩
    rw [← hT] at hown
    have hlen : T.length ≤ 44000 := by
      have h1 := keyT_len (L := L.take d) fun x hx => HF.out x (List.mem_of_mem_take hx)
      rw [List.length_take, ← hT] at h1
      have := HN.out
      omega
    have HT := Lib.hid hT
    have HO := Lib.hid hown
    have HB := Lib.hid hbel
    clear hT hown hbel
    have hsz := HB.out.size
    by_cases hdn : d < n
    · have hdl : d < L.length := by rw [HN.out]; exact hdn
      have HNX := Lib.hid (keyT_take L hdl)
      obtain ⟨b, o, rfl, _, h0, h1⟩ := g_item (w := wr) (l := L) (RowAt.keeps HL.out (Keeps.of_below (S := fun _ => False) HB.out) (fun _ _ _ => id)) hdl
      have hmem : L.getD d (0, 0) ∈ L := by rw [List.getD_eq_getElem?_getD, List.getElem?_eq_getElem hdl]; simp
      have hfit := HF.out _ hmem
      obtain ⟨⟨x, z⟩, hxz⟩ : ∃ q, q = L.getD d (0, 0) := ⟨_, rfl⟩
      rw [← hxz] at h0 h1 hfit HNX
      simp only at h0 h1
      obtain ⟨⟨x0, x1⟩, ⟨z0, z1⟩⟩ := hfit
      have lx := Lib.itoa_length_le x x0 x1
      have lz := Lib.itoa_length_le z z0 z1
      have HX := Lib.hid (And.intro x0 x1)
      have HZ := Lib.hid (And.intro z0 z1)
      have hd0 : (0 : Int) ≤ (d : Int) := by omega
      have hd1 : (d : Int) < (n : Int) := by omega
      clear hmem hxz hdl hdn x0 x1 z0 z1
      have HB1 := Lib.hid (HB.out.alloc hsz (.cells #[.int .i64 x, .int .i64 z] 87))
      have HO1 := Lib.hid (HO.out.alloc (.cells #[.int .i64 x, .int .i64 z] 87))
      have HBK := Lib.hid (Blk.new wr 87 #[.int .i64 x, .int .i64 z])
      go_wp2_with (
        go_at_call 85
        refine (appendInt_ w.heap.size T.length x HX.out u3 T _ HO1.out (by have := HB1.out.size; exact this) (by omega) (HTB.out.on HB1.out)).mono ?_
        rintro e w1 ⟨v1, rfl, hown1, hb1, hk1⟩
        have HO2 := Lib.hid hown1
        have HB2 := Lib.hid (HB1.out.trans hb1)
        have HBK2 := Lib.hid (Blk.others HBK.out hk1 (by decide))
        clear hown1 hb1 hk1 HB1 HBK HO1
        refine Hid.out ?_)
      refine Lib.hid ?_
      have hsz1 := HB2.out.size
      have HO3 := Lib.hid (HO2.out.alloc (.cells #[.int .u8 58] 5))
      have HB3 := Lib.hid (HB2.out.alloc hsz1 (.cells #[.int .u8 58] 5))
      have HBK3 := Lib.hid (HBK2.out.alloc (.cells #[.int .u8 58] 5))
      have hsz3 := HB3.out.size
      go_wp2_with (
        at_builtin
        refine wpList_append_own_at _ rfl _ _ 29 rfl w.heap.size 5 i0 _ 1 1 Tryz.underlying29 hi hz0 hz1 hz2 rfl (by decide) v1 _ _ rfl
          HO3.out ⟨w1.heap.size, 0, none⟩ 1 1 [Value.int .u8 58] rfl rfl (by intro j u' hj; match j, hj with | 0, hj => simp at hj; subst hj; simp [Addr.add]) (by intro u' hu'; simp at hu'; subst hu'; rfl) (by unfold maxLen; omega) (by omega) hsz3 ?_
        intro v2 w2 hown2 hg2 _ _
        refine Hid.out ?_)
      refine Lib.hid ?_
      have HB4 := Lib.hid (HB3.out.grown hg2 hsz3 (fun k hk => (HO3.out.lt k hk).1))
      have HBK4 : Hid (Blk w2 wr.heap.size 87 #[.int .i64 x, .int .i64 z]) := Lib.hid (HBK3.out.grown hg2 (own_ne HO3.out HBK3.out (by decide)))
      have eT : Lib.byteCells (T ++ Lib.itoa x) ++ [Value.int .u8 58] = Lib.byteCells (T ++ Lib.itoa x ++ [58]) := by simp [Lib.byteCells]
      rw [eT] at hown2
      have HO4 := Lib.hid hown2
      clear hown2 eT hg2 HB3 HBK3 HO3 HO2 HB2 HBK2
      have hsz4 := HB4.out.size
      have hc4 : w2.cell? ⟨wr.heap.size, 1, none⟩ = some (.int .i64 z) := HBK4.out.cell 1
      go_wp2_with (
        go_at_call 85
        refine (appendInt_ w.heap.size _ z HZ.out v2 _ _ HO4.out (by have := HB4.out.size; exact this) (by omega) (HTB.out.on HB4.out)).mono ?_
        rintro e w3 ⟨v3, rfl, hown3, hb3, hk3⟩
        have HO5 := Lib.hid hown3
        have HB5 := Lib.hid (HB4.out.trans hb3)
        clear hown3 hb3 hk3 HB4 HBK4 HO4
        refine Hid.out ?_)
      refine Lib.hid ?_
      have hsz5 := HB5.out.size
      have HO6 := Lib.hid (HO5.out.alloc (.cells #[.int .u8 32] 5))
      have HB6 := Lib.hid (HB5.out.alloc hsz5 (.cells #[.int .u8 32] 5))
      have hsz6 := HB6.out.size
      go_wp2_with (
        at_builtin
        refine wpList_append_own_at _ rfl _ _ 29 rfl w.heap.size 5 i0 _ 1 1 Tryz.underlying29 hi hz0 hz1 hz2 rfl (by decide) v3 _ _ rfl
          HO6.out ⟨w3.heap.size, 0, none⟩ 1 1 [Value.int .u8 32] rfl rfl (by intro j u' hj; match j, hj with | 0, hj => simp at hj; subst hj; simp [Addr.add]) (by intro u' hu'; simp at hu'; subst hu'; rfl) (by unfold maxLen; omega) (by omega) hsz6 ?_
        intro v4 w4 hown4 hg4 _ _
        have HO7 := Lib.hid hown4
        have HB7 := Lib.hid (HB6.out.grown hg4 hsz6 (fun k hk => (HO6.out.lt k hk).1))
        clear hown4 hg4 HB6 HO6 HO5 HB5)
      refine ⟨⟨d + 1, by omega, by go_num, ?_, HB7.out⟩, by simp [intOf]; omega⟩
      rw [HNX.out, ← HT.out]
      have h := HO7.out
      have eL : Lib.byteCells (T ++ Lib.itoa x ++ [58] ++ Lib.itoa z) ++ [Value.int .u8 32] = Lib.byteCells (T ++ ent1 (x, z)) := by simp [Lib.byteCells, ent1]
      have eN : T.length + (Lib.itoa x).length + 1 + (Lib.itoa z).length + 1 = (T ++ ent1 (x, z)).length := by simp [ent1]; omega
      rw [eL, eN] at h
      exact h
    · obtain rfl : d = n := by omega
      have hge : ¬ ((d : Int) < (d : Int)) := by omega
      have HK : Hid (T = keyT L) := by
        show T = keyT L
        rw [HT.out, List.take_of_length_le (by have := HN.out; omega)]
      clear hdn HT
      rcases HO.out.2 with ⟨rfl, h0⟩ | ⟨g, cap, cur, rfl, -, -, -, -, -, -⟩
      · have hcv := Lib.run_convert_nil_bytes (P := Tryz.prog) wr 29 9 5 0 Tryz.underlying29 Tryz.underlying5 Tryz.underlying9
        go_wp2
        go_ret
        refine ⟨?_, HB.out⟩
        rw [← HK.out, List.eq_nil_of_length_eq_zero h0]
        rfl
      · have hcv := run_convert_bytes_back (P := Tryz.prog) wr 29 9 5 ⟨g, 0, none⟩ cap T Tryz.underlying29 Tryz.underlying5 Tryz.underlying9 (fun j hj => HO.out.cells (g := g) rfl j _ (by simp [Lib.byteCells, hj]))
        go_wp2
        go_ret
        exact ⟨by rw [← HK.out]; rfl, HB.out⟩
end Go.Proofs.YtgaofnmgdefdcaaGreatDoor.Ky

/- Four states: New, and their words put (rans.New, rans.Four.Put). -/
import Derived.Test.YtnanmenoemajfaaRnTk
import Derived.Test.YtnanmenoemajfaaFrqTake
import Derived.Test.YtnanmenoemajfaaFrqPut
import Derived.Test.YtnanmenoemajfaaFrqEq
namespace Go.Proofs.Ytnanmenoemajfaa.Rs
open Go.RowKit Go.Proofs.Ytnanmenoemajfaa.Gen Go.Proofs.Ytnanmenoemajfaa.Wr Go.Proofs.Ytnanmenoemajfaa.It Go.Proofs.Ytnanmenoemajfaa.Ir Go.Proofs.Ytnanmenoemajfaa.Ib Go.Proofs.Ytnanmenoemajfaa.Fq Go.Proofs.Ytnanmenoemajfaa.Fb Go.Proofs.Ytnanmenoemajfaa.Rp

/-- States as cells. -/
def us (l : List Nat) : Array Value := (l.map fun n : Nat => Value.int .u32 (n : Int)).toArray
theorem us_size (l : List Nat) : (us l).size = l.length := by simp [us]
theorem us_get {l : List Nat} {j : Nat} (h : j < l.length) : (us l)[j]? = some (.int .u32 ((l.getD j 0 : Nat) : Int)) := by
  simp [us, List.getElem?_eq_getElem h, List.getD]
theorem us_set (l : List Nat) (j : Nat) (x : Nat) : (us l).setIfInBounds j (.int .u32 (x : Int)) = us (l.set j x) := by
  simp [us, List.map_set]
theorem us_one (l : List Nat) : (us l).all (·.oneCell') = true := by
  simp [us, Value.oneCell']
theorem us_inj {a b : List Nat} (h : us a = us b) : a = b := by
  have h1 : a.map (fun n : Nat => Value.int .u32 (n : Int)) = b.map (fun n : Nat => Value.int .u32 (n : Int)) := by
    have := congrArg Array.toList h
    simpa [us] using this
  exact List.map_inj_right (fun x y hxy => by injection hxy with _ h2; omega) |>.1 h1
def no4 : List Nat := [0, 0, 0, 0]
theorem four_info : (Try.prog.info? 44).map (fun i => (i.zero, i.size)) = some (some (.agg (us no4)), 4) := by kernel_rfl
theorem four_zero (w : World) : (zeroValue 44).run Try.prog w = .ok (.agg (us no4)) w := (zero_of_info four_info).1 w
theorem four_size {l : List Nat} (h : l.length = 4) : (Try.prog.info? 44).map (·.size) = some (us l).size := by
  rw [us_size, h]; exact (zero_of_info four_info).2
theorem built_four : (Try.prog.built 44 []) = some (us no4) := by kernel_rfl
theorem run_four (w : World) : (Instr.build 44 #[]).run Try.prog w = .ok (.agg (us no4)) w := by
  have := built_four
  simp [Instr.build, this, go_sem]
  rfl
theorem ret_four {fn : Func} {j : Nat} (h : fn.results = #[.cell j 44]) (tmps : Array Value) (w : World) (g : Nat) (v : Array Value) (hi : (Try.prog.info? 44).map (·.size) = some v.size)
    (hp : tmps.getD j undef = .pointer (some ⟨g, 0, none⟩)) (hb : Blk w g 44 v) : (results fn tmps).run Try.prog w = .ok (.agg v) w :=
  results_cell_row h tmps w g 44 v (0, 0) _ hp hb Try.underlying44 rfl hi
theorem run_idx4 (cs : Array Value) (k : IntKind) (j : Nat) (v : Value) (hj : j < 4) (hv : cs[j]? = some v) (w : World) :
    (Instr.index 44 (.agg cs) (.int k (j : Int))).run Try.prog w = .ok v w := by
  have ht : Try.prog.underlying 44 = some (.array 4 42) := Try.underlying44
  have h1 : (0 : Int) ≤ (j : Int) ∧ (j : Int) < ((4 : Nat) : Int) := ⟨by omega, by omega⟩
  have hag : (isAgg 42).run Try.prog w = .ok false w := by simp [isAgg, Try.underlying42, go_sem]
  have hsz : (sizeOf 42).run Try.prog w = .ok 1 w := by simp [go_sem]
  simp [Instr.index, asIntOf, run_underlying ht, h1.1, part, hag, hsz, hv, Result.andThen]
  intro h; omega

theorem new4 (w : World) : Calls Try.prog 24 #[] w fun r w' => r = .returned (.agg (us low4)) ∧ Keeps (fun _ => False) w w' := by
  go_enter Try.func24, Try.ntmps24
  go_wp2
  refine bodyPost_ret (v := .agg (us low4)) ?_ rfl ⟨rfl, (Keeps.refl _ _).alloc _⟩
  exact ret_four rfl _ _ w.heap.size (us low4) (four_size rfl) rfl (Blk.new w 44 (us low4))
theorem has_next {base g : Nat} {ys : List Int} {w0 w w1 : World} (h : Ww.Has base g ys w0 w) (k : Keeps (fun _ => False) w w1) : Ww.Has base g ys w0 w1 := by
  obtain ⟨v, h1, h2⟩ := h
  exact ⟨v, h1.keeps k (fun _ _ => id), h2.trans k.none_⟩
theorem wb_snoc (f : List Nat) (n : Nat) : wb (f ++ [n]) = wb f ++ Ww.lows (n : Int) 4 := by simp [wb]
theorem take_nat {l : List Nat} {d : Nat} (h : d < l.length) : l.take (d + 1) = l.take d ++ [l.getD d 0] := by
  rw [List.take_add_one, List.getElem?_eq_getElem h, List.getD, List.getElem?_eq_getElem h]
  rfl
theorem memD {l : List Nat} {d : Nat} (h : d < l.length) : l.getD d 0 ∈ l := by
  rw [List.getD, List.getElem?_eq_getElem h]; exact List.getElem_mem h

set_option maxRecDepth 100000 in
theorem fput (g base : Nat) (ys : List Int) (f : List Nat) (w0 w : World) (h : Ww.Has base g ys w0 w) (hn : ys.length + 16 ≤ 1000000) (hf : f.length = 4) (hb : ∀ x ∈ f, x < 4294967296) :
    Calls Try.prog 14 #[.agg (us f), .pointer (some ⟨g, 0, none⟩)] w fun r w' => r = .returned (.tuple #[]) ∧ Ww.Has base g (ys ++ wb f) w0 w' := by
  have H := Lib.hid h
  have HN := Lib.hid hn
  have HF := Lib.hid hf
  have HB := Lib.hid hb
  have HUI := Lib.hid (four_size hf)
  obtain ⟨U, hU⟩ : ∃ U, us f = U := ⟨_, rfl⟩
  rw [hU] at HUI ⊢
  have HU := Lib.hid hU
  clear h hn hf hb hU
  go_enter Try.func14, Try.ntmps14
  go_upto_region 1 with fail
  have HB2 := Lib.hid (Blk.new w 44 U)
  have HH := Lib.hid (has_next H.out ((Keeps.refl _ _).alloc (.cells U 44)))
  generalize w.alloc (.cells U 44) = W at HB2 HH ⊢
  generalize w.heap.size = B at HB2 ⊢
  clear H
  go_wp2_with ((with_reducible refine ld_row HB2.out Try.underlying44 HUI.out ?_ ?_); rfl)
  go_loopw [5, 9] (fun _ i wr => ∃ d : Nat, i = .int .i64 (d : Int) ∧ d ≤ 4 ∧ Hid (Ww.Has base g (ys ++ wb (f.take d)) w0 wr)) (fun _ i _ => 4 - (intOf i).toNat)
  case atStart => exact ⟨0, rfl, by omega, by show Ww.Has _ _ _ _ _; simpa [wb] using HH.out⟩
  case round =>
    clear HH
    obtain ⟨d, rfl, hd, HH⟩ := hrel
    by_cases hlt : d < 4
    · obtain ⟨n, hn⟩ : ∃ n, f.getD d 0 = n := ⟨_, rfl⟩
      have hdf : d < f.length := by rw [HF.out]; exact hlt
      have hnb : n < 4294967296 := by rw [← hn]; exact HB.out _ (memD hdf)
      have hix := run_idx4 U .i64 d (.int .u32 (n : Int)) hlt (by rw [← HU.out, us_get hdf, hn])
      have hd1 : (d : Int) < 4 := by omega
      have HWD := Lib.hid (Ww.word g base (ys ++ wb (f.take d)) (n : Int) w0 wr HH.out (by have := HN.out; rw [List.length_append, wb_len, List.length_take]; omega) (by omega) (by omega))
      have HNX : Hid (ys ++ wb (f.take (d + 1)) = ys ++ wb (f.take d) ++ Ww.lows (n : Int) 4) := by
        show _ = _
        rw [take_nat hdf, hn, wb_snoc, List.append_assoc]
      clear hn hdf hnb
      go_wp2_with (
        go_at_call 37
        refine HWD.out.mono ?_
        rintro e w1 ⟨rfl, hh⟩
        have HH1 := Lib.hid hh
        clear hh)
      exact ⟨⟨d + 1, by go_num, by omega, by rw [HNX.out]; exact HH1⟩, by simp [intOf]; omega⟩
    · obtain rfl : d = 4 := by omega
      have hge : ¬ ((4 : Int) < 4) := by omega
      have HE : Hid (Ww.Has base g (ys ++ wb f) w0 wr) := by
        have h1 := HH.out
        rw [List.take_of_length_le (by rw [HF.out]; exact Nat.le_refl _)] at h1
        exact h1
      go_wp2
      go_end0
      exact ⟨rfl, HE.out⟩
end Go.Proofs.Ytnanmenoemajfaa.Rs

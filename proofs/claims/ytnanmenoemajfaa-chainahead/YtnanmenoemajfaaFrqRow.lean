/- Rows of numbers, whole: what lies in an array of 256; which of them is the greatest, the first of such. -/
import Derived.Test.YtnanmenoemajfaaProg
import Derived.Test.YtnanmenoemajfaaGen
import Derived.WalkKit
import Derived.WalkSpells
import Derived.WalkLawsBesides
import Derived.Lib.Hide
import Derived.Deep.WholeRow
import Derived.Deep.CutRange
import Derived.Deep.RegionHeld3
import Derived.Deep.MidRow
namespace Go.Proofs.Ytnanmenoemajfaa.Fq
open Go.RowKit Go.Proofs.Ytnanmenoemajfaa.Gen
set_option maxRecDepth 100000

/-- Numbers as cells. -/
def vs (l : List Int) : Array Value := (l.map (Value.int .i64)).toArray
theorem vs_size (l : List Int) : (vs l).size = l.length := by simp [vs]
theorem vs_get {l : List Int} {j : Nat} (h : j < l.length) : (vs l)[j]? = some (.int .i64 (l.getD j 0)) := by
  simp [vs, List.getElem?_eq_getElem h, List.getD]
theorem vs_set (l : List Int) (j : Nat) (x : Int) : (vs l).setIfInBounds j (.int .i64 x) = vs (l.set j x) := by
  simp [vs, List.map_set]
theorem vs_one (l : List Int) : (vs l).all (·.oneCell') = true := by
  simp [vs, Value.oneCell']
theorem vs_inj {a b : List Int} (h : vs a = vs b) : a = b := by
  have h1 : a.map (Value.int .i64) = b.map (Value.int .i64) := by
    have := congrArg Array.toList h
    simpa [vs] using this
  exact List.map_inj_right (fun x y hxy => by injection hxy) |>.1 h1
theorem vs_rep (n : Nat) : Array.replicate n (Value.int .i64 0) = vs (List.replicate n 0) := by
  simp [vs]
theorem arr_info : (Try.prog.info? 64).map (fun i => (i.zero, i.size)) = some (some (.agg (Array.replicate 256 (.int .i64 0))), 256) := by kernel_rfl
theorem tab_info : (Try.prog.info? 65).map (fun i => (i.zero, i.size)) = some (some (.agg (Array.replicate 256 (.int .i64 0))), 256) := by kernel_rfl
theorem arr_zero (w : World) : (zeroValue 64).run Try.prog w = .ok (.agg (vs (List.replicate 256 0))) w := by
  rw [← vs_rep]; exact (zero_of_info arr_info).1 w
theorem tab_zero (w : World) : (zeroValue 65).run Try.prog w = .ok (.agg (vs (List.replicate 256 0))) w := by
  rw [← vs_rep]; exact (zero_of_info tab_info).1 w
theorem arr_size {l : List Int} (h : l.length = 256) : (Try.prog.info? 64).map (·.size) = some (vs l).size := by
  rw [vs_size, h]; exact (zero_of_info arr_info).2
theorem tab_size {l : List Int} (h : l.length = 256) : (Try.prog.info? 65).map (·.size) = some (vs l).size := by
  rw [vs_size, h]; exact (zero_of_info tab_info).2
theorem long_info : (Try.prog.info? 86).map (fun i => (i.zero, i.size)) = some (some (.agg (Array.replicate 257 (.int .i64 0))), 257) := by kernel_rfl
theorem long_zero (w : World) : (zeroValue 86).run Try.prog w = .ok (.agg (vs (List.replicate 257 0))) w := by
  rw [← vs_rep]; exact (zero_of_info long_info).1 w
theorem long_size {l : List Int} (h : l.length = 257) : (Try.prog.info? 86).map (·.size) = some (vs l).size := by
  rw [vs_size, h]; exact (zero_of_info long_info).2

/-- A whole row is loaded; stored. -/
theorem ld_row {ops : Array Oper} {rest : List Oper} {dst : Option Tmp} {ty ty' e : TypeId} {n : Nat} {x : Operand} {pos : String} {after : Array Edge} {a : Act} {w : World} {Q : Exit → Act → World → Prop} {g : Nat} {t : TypeId} {cs : Array Value}
    (hb : Blk w g t cs) (hu : Try.prog.underlying ty = some (.array n e)) (hi : (Try.prog.info? ty).map (·.size) = some cs.size)
    (hx : a.eval x = .pointer (some ⟨g, 0, none⟩)) (h : wpList Try.prog ops Q rest (a.put dst (.agg cs)) w) :
    wpList Try.prog ops Q ({ dst := dst, op := .load ty x, type := ty', pos := pos, after := after, guard := none } :: rest) a w :=
  wpList_load_row rfl ty x rfl g hx t cs (0, 0) _ hb hu rfl hi h
theorem ld_row_g {ops : Array Oper} {rest : List Oper} {dst : Option Tmp} {ty ty' e : TypeId} {n : Nat} {x : Operand} {pos : String} {after : Array Edge} {gd : Option (Nat × Bool)} {a : Act} {w : World} {Q : Exit → Act → World → Prop} {g : Nat} {t : TypeId} {cs : Array Value}
    (hb : Blk w g t cs) (hu : Try.prog.underlying ty = some (.array n e)) (hi : (Try.prog.info? ty).map (·.size) = some cs.size)
    (hw : Region.wanted { dst := dst, op := .load ty x, type := ty', pos := pos, after := after, guard := gd } (yielded ops a.tmps) = true)
    (hx : a.eval x = .pointer (some ⟨g, 0, none⟩)) (h : wpList Try.prog ops Q rest (a.put dst (.agg cs)) w) :
    wpList Try.prog ops Q ({ dst := dst, op := .load ty x, type := ty', pos := pos, after := after, guard := gd } :: rest) a w :=
  wpList_step fun _ hK => by
    rw [if_pos hw]
    exact wp_load_row ty x rfl g hx t cs (0, 0) _ hb hu rfl hi (hK _ _ h)
theorem st_row {ops : Array Oper} {rest : List Oper} {dst : Option Tmp} {ty ty' : TypeId} {x y : Operand} {pos : String} {after : Array Edge} {a : Act} {w : World} {Q : Exit → Act → World → Prop} {g : Nat} {t : TypeId} {old cs : Array Value}
    (hb : Blk w g t old) (hi : (Try.prog.info? ty).map (·.size) = some cs.size) (ho : old.size = cs.size) (h1 : cs.all (·.oneCell') = true)
    (hx : a.eval x = .pointer (some ⟨g, 0, none⟩)) (hy : a.eval y = .agg cs) (h : wpList Try.prog ops Q rest (a.put dst undef) (w.setRow g cs)) :
    wpList Try.prog ops Q ({ dst := dst, op := .store ty x y, type := ty', pos := pos, after := after, guard := none } :: rest) a w :=
  wpList_store_row rfl ty x y rfl g cs hx hy t old hb hi ho h1 h

theorem run_idx (t : TypeId) (n : Nat) (ht : Try.prog.underlying t = some (.array n 3)) (cs : Array Value) (k : IntKind) (j : Nat) (v : Value) (hj : j < n) (hv : cs[j]? = some v) (w : World) :
    (Instr.index t (.agg cs) (.int k (j : Int))).run Try.prog w = .ok v w := by
  have h1 : (0 : Int) ≤ (j : Int) ∧ (j : Int) < (n : Int) := ⟨by omega, by omega⟩
  have hag : (isAgg 3).run Try.prog w = .ok false w := by simp [isAgg, Try.underlying3, go_sem]
  have hsz : (sizeOf 3).run Try.prog w = .ok 1 w := by simp [go_sem]
  simp [Instr.index, asIntOf, run_underlying ht, h1.1, h1.2, part, hag, hsz, hv, Result.andThen]
  intro h; omega

/-- The greatest of the first d, the first of such. -/
def gre (l : List Int) : Nat → Nat
  | 0 => 0
  | d + 1 => if l.getD (gre l d) 0 < l.getD d 0 then d else gre l d
theorem gre_lt (l : List Int) : ∀ {d : Nat}, 0 < d → gre l d < d
  | 0, h => by omega
  | d + 1, _ => by
    unfold gre
    split
    · omega
    · rcases Nat.eq_zero_or_pos d with rfl | hd
      · simp [gre]
      · have := gre_lt l hd
        omega
theorem greatest (l : List Int) (w : World) (hl : l.length = 256) : Calls Try.prog 53 #[.agg (vs l)] w fun r w' => r = .returned (.int .i64 (gre l 256 : Nat)) ∧ w' = w.alloc (.cells (vs l) 64) := by
  have HL := Lib.hid hl
  have HZ := Lib.hid (arr_size hl)
  have hget : ∀ j, j < 256 → (vs l)[j]? = some (.int .i64 (l.getD j 0)) := fun j hj => vs_get (by omega)
  have HG := Lib.hid hget
  generalize hcs : vs l = cs at *
  clear hl hget hcs
  go_enter Try.func53, Try.ntmps53
  go_wp2_with ((with_reducible refine ld_row (Blk.new w 64 cs) Try.underlying64 HZ.out ?_ ?_); rfl)
  generalize hW : w.alloc (.cells cs 64) = W
  have hb : Blk W w.heap.size 64 cs := by rw [← hW]; exact Blk.new w 64 cs
  have HB := Lib.hid hb
  have HW := Lib.hid hW
  clear hb hW
  go_loopw [3, 7] (fun at_ i wr => ∃ d : Nat, d ≤ 256 ∧ at_ = .int .i64 (gre l d : Nat) ∧ i = .int .i64 (d : Int) ∧ wr = W) (fun _ i _ => 256 - (intOf i).toNat)
  case atStart => exact ⟨0, by omega, rfl, rfl, rfl⟩
  case round =>
    obtain ⟨d, hd, rfl, rfl, rfl⟩ := hrel
    by_cases hlt : d < 256
    · obtain ⟨a, ha⟩ : ∃ a, gre l d = a := ⟨_, rfl⟩
      have ha256 : a < 256 := by
        rcases Nat.eq_zero_or_pos d with rfl | h0
        · rw [← ha]; simp [gre]
        · have := gre_lt l h0; omega
      have HN : Hid (gre l (d + 1) = if l.getD a 0 < l.getD d 0 then d else a) := by show gre l (d + 1) = _; rw [gre, ha]
      rw [ha]
      have HA := Lib.hid ha
      clear ha
      obtain ⟨x, hx⟩ : ∃ x, l.getD d 0 = x := ⟨_, rfl⟩
      obtain ⟨y, hy⟩ : ∃ y, l.getD a 0 = y := ⟨_, rfl⟩
      have hgd : ∀ w, (Instr.index 64 (.agg cs) (.int .i64 (d : Int))).run Try.prog w = .ok (.int .i64 x) w := run_idx 64 256 Try.underlying64 cs .i64 d _ hlt (by rw [HG.out d hlt, hx])
      have hca : wr.cell? ⟨w.heap.size, a, none⟩ = some (.int .i64 y) := by rw [HB.out.cell, HG.out a ha256, hy]
      have HN2 : Hid (gre l (d + 1) = if y < x then d else a) := by show gre l (d + 1) = _; rw [HN.out, hx, hy]
      clear hx hy HN
      have hd1 : (d : Int) < 256 := by omega
      have ha1 : (a : Int) < 256 := by omega
      by_cases hyx : y < x
      · have HN3 : Hid (gre l (d + 1) = d) := by show gre l (d + 1) = _; rw [HN2.out, if_pos hyx]
        clear HN2
        go_wp2
        exact ⟨⟨d + 1, by omega, by rw [HN3.out], by go_num, trivial⟩, by simp [intOf]; omega⟩
      · have HN3 : Hid (gre l (d + 1) = a) := by show gre l (d + 1) = _; rw [HN2.out, if_neg hyx]
        clear HN2
        go_wp2
        exact ⟨⟨d + 1, by omega, by rw [HN3.out], by go_num, trivial⟩, by simp [intOf]; omega⟩
    · obtain rfl : d = 256 := by omega
      go_wp2
      go_ret
      exact ⟨rfl, HW.out.symm⟩
end Go.Proofs.Ytnanmenoemajfaa.Fq

/- A code's words, asked by number: wordOf, Size, Put; a nil code has none. -/
import Derived.Test.YtgaofnmgdefdcaaDoorHufNewC
import Derived.Test.YtgaofnmgdefdcaaDoorBitPut
namespace Go.Proofs.YtgaofnmgdefdcaaDoor.Hu
open Go.RowKit Go.Shelf Go.Sort Go.Proofs.YtgaofnmgdefdcaaDoor.Gen Go.Proofs.YtgaofnmgdefdcaaDoor.Mp Go.Proofs.YtgaofnmgdefdcaaDoor.Hr Go.Proofs.YtgaofnmgdefdcaaDoor.Hs Go.Proofs.YtgaofnmgdefdcaaDoor.Hf Go.Proofs.YtgaofnmgdefdcaaDoor.Hz Go.Proofs.YtgaofnmgdefdcaaDoor.Ln Go.Proofs.YtgaofnmgdefdcaaDoor.Hk Go.Proofs.YtgaofnmgdefdcaaDoor.Bp Go.Proofs.YtgaofnmgdefdcaaDoor.Bw

abbrev Ws := List (Int × Nat × Nat)
theorem zero_word (w : World) : (zeroValue 96).run Tryd.prog w = .ok (.agg #[.int .u32 0, .int .i64 0]) w := by kernel_rfl
/-- What wordOf answers: a number's word, and whether there is one. -/
def found (W : Ws) (x : Int) : Option (Nat × Nat) := (W.find? fun t => t.1 == x).map (·.2)
theorem found_mem {W : Ws} {x : Int} {p : Nat × Nat} (h : found W x = some p) : (x, p.1, p.2) ∈ W := by
  unfold found at h
  rw [Option.map_eq_some_iff] at h
  obtain ⟨t, ht, rfl⟩ := h
  have h1 := List.find?_some ht
  simp only [beq_iff_eq] at h1
  have h2 := List.mem_of_find?_eq_some ht
  obtain ⟨a, b⟩ := t
  simp only at h1
  subst h1
  exact h2
theorem found_none {W : Ws} {x : Int} (h : found W x = none) : x ∉ W.map (·.1) := by
  unfold found at h
  rw [Option.map_eq_none_iff, List.find?_eq_none] at h
  intro hm
  rw [List.mem_map] at hm
  obtain ⟨t, ht, e⟩ := hm
  exact h t ht (by simpa using e)
theorem look_word {w : World} {bw : Nat} {W : Ws} (h : IsM Tryd.prog 3 w bw (W.map we)) {x : Int} (hx : (Lit.int .i64 x).wf = true) :
    (Instr.lookup 91 (.map (some bw)) (.int .i64 x) true).run Tryd.prog w = .ok (.tuple (match found W x with | some p => #[wv p.2 p.1, .bool true] | none => #[.agg #[.int .u32 0, .int .i64 0], .bool false])) w := by
  have hl := IsM.look w h int_key Tryd.underlying91 (zero_word w) (key := .int .i64 x) (kl := .int .i64 x) (Go.Maps.keyOf_int_mk Tryd.underlying3 hx)
  cases hf : found W x with
  | some p => exact (hl.1 (wv p.2 p.1) (List.mem_map.2 ⟨(x, p.1, p.2), found_mem hf, rfl⟩)).2
  | none =>
    refine (hl.2 ?_).2
    rw [keys_we]
    intro hm
    rw [List.mem_map] at hm
    obtain ⟨t, ht, e⟩ := hm
    injection e with _ e
    exact found_none hf (List.mem_map.2 ⟨t, ht, e⟩)
/-- The word's number and how many bits it has; 0 and 0 if there is none. -/
def wb (W : Ws) (x : Int) : Nat := ((found W x).map (·.2)).getD 0
def wz (W : Ws) (x : Int) : Nat := ((found W x).map (·.1)).getD 0
theorem look_word' {w : World} {bw : Nat} {W : Ws} (h : IsM Tryd.prog 3 w bw (W.map we)) {x : Int} (hx : (Lit.int .i64 x).wf = true) :
    (Instr.lookup 91 (.map (some bw)) (.int .i64 x) true).run Tryd.prog w = .ok (.tuple #[.agg #[.int .u32 (wb W x : Int), .int .i64 (wz W x : Int)], .bool (found W x).isSome]) w := by
  rw [look_word h hx]
  unfold wb wz
  cases hf : found W x with
  | some p => rfl
  | none => rfl
theorem wordOf_ (base p : Nat) (W : Ws) (x : Int) (w : World) (h : IsCode base w p W) (hx : (Lit.int .i64 x).wf = true) :
    Calls Tryd.prog 37 #[.pointer (some ⟨p, 0, none⟩), .int .i64 x] w fun r w' => r = .returned (.tuple #[.agg #[.int .u32 (wb W x : Int), .int .i64 (wz W x : Int)], .bool (found W x).isSome]) ∧ Keeps (fun _ => False) w w' := by
  obtain ⟨bw, bn, h1, h2, _⟩ := h
  have hc : w.cell? ⟨p, 0, none⟩ = some (.map (some bw)) := h1.cell 0
  have hp := h1.lt
  have hk := (Keeps.refl (fun _ => False) w).alloc (.cells #[.int .u32 0, .int .i64 0] 96)
  have hlook := look_word' (h2.keeps hk id) hx
  have hne : p ≠ w.heap.size := by omega
  generalize wb W x = b at *
  generalize wz W x = z at *
  generalize (found W x).isSome = ok at *
  have HK := Lib.hid hk
  clear h1 h2 hk
  go_enter Tryd.func37, Tryd.ntmps37
  go_wp2
  have hB := (Blk.new w 96 #[.int .u32 (b : Int), .int .i64 (z : Int)]).alloc (.cells #[.int .u32 (b : Int), .int .i64 (z : Int)] 96)
  have HKW := Lib.hid (((Keeps.refl (fun _ => False) w).alloc (.cells #[.int .u32 (b : Int), .int .i64 (z : Int)] 96)).alloc (.cells #[.int .u32 (b : Int), .int .i64 (z : Int)] 96))
  generalize (w.alloc (.cells #[.int .u32 (b : Int), .int .i64 (z : Int)] 96)).alloc (.cells #[.int .u32 (b : Int), .int .i64 (z : Int)] 96) = W2 at hB HKW ⊢
  have h0 : W2.cell? ⟨w.heap.size, 0, none⟩ = some (.int .u32 (b : Int)) := hB.cell 0
  have h1 : W2.cell? ⟨w.heap.size, 1, none⟩ = some (.int .i64 (z : Int)) := hB.cell 1
  refine bodyPost_ret (v := .tuple #[.agg #[.int .u32 (b : Int), .int .i64 (z : Int)], .bool ok]) (by simp [results, Tryd.results37, go_sem, h0, h1]) rfl ?_
  exact ⟨rfl, HKW.out⟩
theorem wordOf_none (x : Int) (w : World) : Calls Tryd.prog 37 #[.pointer none, .int .i64 x] w fun r w' => r = .returned (.tuple #[.agg #[.int .u32 0, .int .i64 0], .bool false]) ∧ Keeps (fun _ => False) w w' := by
  go_enter Tryd.func37, Tryd.ntmps37
  go_wp2
  have hB := Blk.new w 96 #[.int .u32 0, .int .i64 0]
  have HKW := Lib.hid ((Keeps.refl (fun _ => False) w).alloc (.cells #[.int .u32 0, .int .i64 0] 96))
  generalize w.alloc (.cells #[.int .u32 0, .int .i64 0] 96) = W2 at hB HKW ⊢
  have h0 : W2.cell? ⟨w.heap.size, 0, none⟩ = some (.int .u32 0) := hB.cell 0
  have h1 : W2.cell? ⟨w.heap.size, 1, none⟩ = some (.int .i64 0) := hB.cell 1
  refine bodyPost_ret (v := .tuple #[.agg #[.int .u32 0, .int .i64 0], .bool false]) (by simp [results, Tryd.results37, go_sem, h0, h1]) rfl ?_
  exact ⟨rfl, HKW.out⟩
/-- Put of a number that has a word. -/
theorem put_some (base p : Nat) (W : Ws) (x : Int) (z v : Nat) (bs g : Nat) (vw : Value) (l : List Nat) (w : World) (h : IsCode base w p W) (hx : (Lit.int .i64 x).wf = true) (hf : found W x = some (z, v)) (hz : z ≤ 32) (hv : v < 4294967296) (hw : IsBw bs g vw l w) (hl : l.length + 32 ≤ 8000000) :
    Calls Tryd.prog 23 #[.pointer (some ⟨p, 0, none⟩), .pointer (some ⟨g, 0, none⟩), .int .i64 x] w fun r w' => r = .returned (.bool true) ∧ ∃ v', IsBw bs g v' (l ++ tb v z) w' ∧ Moves g vw v' w w' := by
  have HRO := Lib.hid (wordOf_ base p W x w h hx)
  have e1 : wb W x = v := by simp [wb, hf]
  have e2 : wz W x = z := by simp [wz, hf]
  have e3 : (found W x).isSome = true := by simp [hf]
  rw [e1, e2, e3] at HRO
  have HW := Lib.hid hw
  have HSZ : Hid (Bf.sz (z : Int) = z) := by show Bf.sz (z : Int) = z; unfold Bf.sz; omega
  clear h e1 e2 e3 hf hw
  go_enter Tryd.func23, Tryd.ntmps23
  go_wp2_with fail
  refine HRO.out.mono ?_
  rintro e w1 ⟨rfl, hk⟩
  have HK1 := Lib.hid (hk.alloc (.cells #[.int .u32 (v : Int), .int .i64 (z : Int)] 96))
  have HPU := Lib.hid (put g bs vw l v (z : Int) _ (HW.out.keeps HK1.out (fun _ _ => id)) hl hv)
  clear hk
  go_wp2_with (
    refine HPU.out.mono ?_
    rintro e w2 ⟨rfl, v', hv', hm⟩
    have HV := Lib.hid hv'
    have HMV := Lib.hid hm
    clear hv' hm)
  go_ret
  refine ⟨rfl, v', ?_, ?_⟩
  · have h1 := HV.out
    rw [HSZ.out] at h1
    exact h1
  · have h1 := HMV.out
    refine ⟨(HK1.out.none_ (S := Its g vw)).trans h1.keeps, ?_⟩
    rcases h1.at_ with h2 | ⟨b, h2, h3⟩
    · exact .inl h2
    · exact .inr ⟨b, h2, Nat.le_trans HK1.out.size h3⟩
/-- Put of a number that has no word; into no Writer. -/
theorem put_no (base p : Nat) (W : Ws) (x : Int) (A : Option Addr) (w : World) (h : IsCode base w p W) (hx : (Lit.int .i64 x).wf = true) (hf : found W x = none) :
    Calls Tryd.prog 23 #[.pointer (some ⟨p, 0, none⟩), .pointer A, .int .i64 x] w fun r w' => r = .returned (.bool false) ∧ Keeps (fun _ => False) w w' := by
  have HRO := Lib.hid (wordOf_ base p W x w h hx)
  have e3 : (found W x).isSome = false := by simp [hf]
  rw [e3] at HRO
  clear h e3 hf
  generalize wb W x = b at *
  generalize wz W x = z at *
  go_enter Tryd.func23, Tryd.ntmps23
  go_wp2_with fail
  refine HRO.out.mono ?_
  rintro e w1 ⟨rfl, hk⟩
  go_wp2
  go_ret
  exact ⟨rfl, hk.alloc _⟩
theorem put_nil (base p : Nat) (W : Ws) (x : Int) (w : World) (h : IsCode base w p W) (hx : (Lit.int .i64 x).wf = true) :
    Calls Tryd.prog 23 #[.pointer (some ⟨p, 0, none⟩), .pointer none, .int .i64 x] w fun r w' => r = .returned (.bool false) ∧ Keeps (fun _ => False) w w' := by
  have HRO := Lib.hid (wordOf_ base p W x w h hx)
  clear h
  generalize wb W x = b at *
  generalize wz W x = z at *
  generalize (found W x).isSome = ok at *
  go_enter Tryd.func23, Tryd.ntmps23
  go_wp2_with fail
  refine HRO.out.mono ?_
  rintro e w1 ⟨rfl, hk⟩
  have HK := Lib.hid hk
  clear hk
  cases ok with
  | false =>
    go_wp2
    go_ret
    exact ⟨rfl, HK.out.alloc _⟩
  | true =>
    go_wp2
    go_ret
    exact ⟨rfl, HK.out.alloc _⟩
theorem put_none_code (x : Int) (A : Option Addr) (w : World) : Calls Tryd.prog 23 #[.pointer none, .pointer A, .int .i64 x] w fun r w' => r = .returned (.bool false) ∧ Keeps (fun _ => False) w w' := by
  go_enter Tryd.func23, Tryd.ntmps23
  go_wp2_with fail
  refine (wordOf_none x w).mono ?_
  rintro e w1 ⟨rfl, hk⟩
  go_wp2
  go_ret
  exact ⟨rfl, hk.alloc _⟩
end Go.Proofs.YtgaofnmgdefdcaaDoor.Hu

/- What slices.SortFunc leaves, in this seat's own words; the closures that it is called with. -/
import Derived.Test.YtaamnbminmcbpaaDoorHufShelf
import Derived.Test.YtaamnbminmcbpaaDoorHufMap
import Derived.Test.YtaamnbminmcbpaaDoorHufSo
namespace Go.Proofs.YtaamnbminmcbpaaDoor.Hs
open Go.RowKit Go.Shelf Go.Lib Go.Sort Go.Proofs.YtaamnbminmcbpaaDoor.Gen Go.Proofs.YtaamnbminmcbpaaDoor.Mp Go.Proofs.YtaamnbminmcbpaaDoor.Hr Go.Proofs.YtaamnbminmcbpaaDoor.Hp

section
variable {α : Type} [Inhabited α]
theorem sorted_keeps (enc : α → Value) (w : World) (g n : Nat) (d : Array α) (os : Array Obj) : Gen.Keeps (· = g) w (grow (putRow enc (Sort.ahead w n) g 0 d) os) := by
  refine ⟨rfl, rfl, rfl, by simp, fun k hk hne => ?_⟩
  rw [heap_grow_old _ _ (by simpa using hk)]
  have : g ≠ k := fun e => hne e.symm
  simp [putRow, mapBlock, Sort.ahead, Array.getElem?_modify, this]
theorem sorted_own (enc : α → Value) {w : World} {base g n c sz q : Nat} {e : TypeId} {xs : List Value} {os : Array Obj} (h : w.ownsRow base e sz (.slice (some ⟨g, 0, none⟩) n c) n xs) (d : Array α) (hd : d.size = n * sz) :
    (grow (putRow enc (Sort.ahead w q) g 0 d) os).ownsRow base e sz (.slice (some ⟨g, 0, none⟩) n c) n (d.toList.map enc) := by
  obtain ⟨hl, h⟩ := h
  rcases h with ⟨h, _⟩ | ⟨g', cap, cur, hv, hb, hh, h1, h2, h3, h4⟩
  · cases h
  · injection hv with hv _ hc
    injection hv with hv
    injection hv with hv
    subst hv
    subst hc
    have hg : g < w.heap.size := (Array.getElem?_eq_some_iff.1 hh).1
    refine ⟨by simpa using hd, .inr ⟨g, c, putCells enc 0 d cur, rfl, hb, ?_, h1, h2, by simp [putCells, h3], ?_⟩⟩
    · rw [heap_grow_old _ _ (by simpa using hg)]
      simp [putRow, mapBlock, Sort.ahead, Array.getElem?_modify, hh, onCells]
    · apply List.ext_getElem?
      intro j
      have hnc : n * sz ≤ c * sz := Nat.mul_le_mul_right sz h1
      by_cases hj : j < n * sz
      · rw [List.getElem?_take_of_lt hj, Array.getElem?_toList]
        have hjd : j < d.size := by omega
        simp [putCells, hjd, show j < cur.size by omega]
      · rw [List.getElem?_eq_none (by simp; omega), List.getElem?_eq_none (by simp; omega)]
theorem own_holds (enc : α → Value) {w : World} {base g n c sz : Nat} {e : TypeId} (d : Array α) (h : w.ownsRow base e sz (.slice (some ⟨g, 0, none⟩) n c) n (d.toList.map enc)) : Holds enc w g 0 d ∧ g < w.heap.size := by
  have hc := RowAt.of_own h
  rcases h.2 with ⟨h0, _⟩ | ⟨g', cap, cur, hv, _, hh, _⟩
  · cases h0
  · injection hv with hv _ hc
    injection hv with hv
    injection hv with hv
    subst hv
    refine ⟨fun j hj => ⟨?_, by simp [World.frozen?, hh]⟩, (Array.getElem?_eq_some_iff.1 hh).1⟩
    have := h.cells (g := g) rfl j (enc d[j]!) (by simp [hj])
    rw [add_none] at this
    exact this
theorem flat_list (enc : α → List Value) (k : Nat) (hk : ∀ x, (enc x).length = k) (h0 : 0 < k) (d : Array α) : (flatK enc k d).toList = d.toList.flatMap enc := by
  have gen : ∀ (l : List α) (i : Nat), (l.flatMap enc)[i]? = if i < l.length * k then (enc (l.getD (i / k) default))[i % k]? else none := by
    intro l
    induction l with
    | nil => intro i; simp
    | cons a l ih =>
      intro i
      rw [List.flatMap_cons]
      rcases Nat.lt_or_ge i k with hlt | hge
      · rw [List.getElem?_append_left (by rw [hk]; exact hlt), Nat.div_eq_of_lt hlt, Nat.mod_eq_of_lt hlt, if_pos (by simp only [List.length_cons, Nat.add_mul]; omega)]
        simp
      · rw [List.getElem?_append_right (by rw [hk]; exact hge), hk, ih]
        obtain ⟨j, rfl⟩ : ∃ j, i = j + k := ⟨i - k, by omega⟩
        rw [Nat.add_sub_cancel, Nat.add_mod_right, Nat.add_div_right _ h0]
        simp only [List.length_cons, Nat.add_mul, List.getD_cons_succ]
        by_cases hj : j < l.length * k
        · rw [if_pos hj, if_pos (by omega)]
        · rw [if_neg hj, if_neg (by omega)]
  apply List.ext_getElem?
  intro i
  rw [gen, Array.getElem?_toList]
  by_cases hi : i < d.size * k
  · have h1 : (flatK enc k d)[i]? = some (flatK enc k d)[i]! := by simp [hi]
    rw [h1, get_flatK enc k d i hi, if_pos (by simpa using hi)]
    have hm : i % k < (enc d[i / k]!).length := by rw [hk]; exact Nat.mod_lt _ h0
    have hdk : i / k < d.size := Nat.div_lt_of_lt_mul (by rw [Nat.mul_comm]; exact hi)
    have e : d[i / k]! = d[i / k] := by simp [hdk]
    rw [e] at hm ⊢
    simp [hdk, hm]
  · rw [if_neg (by simpa using hi), Array.getElem?_eq_none (by simpa using hi)]
end

/-- Numbers that int holds. -/
abbrev K64 := { x : Int // (Lit.int .i64 x).wf = true }
instance : Inhabited K64 := ⟨⟨0, by decide⟩⟩
def ke (x : K64) : Value := .int .i64 x.1
theorem int_key : Go.Maps.Keyed Tryd.prog 3 := Go.Maps.int_keyed Tryd.underlying3
theorem zero_int (w : World) : (zeroValue 3).run Tryd.prog w = .ok (.int .i64 0) w := by kernel_rfl

/-- Counts as a map's entries. -/
def mv (m : List (Int × Nat)) : List (Lit × Value) := m.map fun p => (.int .i64 p.1, .int .i64 (p.2 : Int))
/-- A number's count; 0 if there is none. -/
def cnt (m : List (Int × Nat)) (x : Int) : Nat := ((m.find? fun p => p.1 == x).map (·.2)).getD 0
theorem mv_keys (m : List (Int × Nat)) : (mv m).map (·.1) = m.map fun p => Lit.int .i64 p.1 := by simp [mv, Function.comp_def]
theorem mv_nd {m : List (Int × Nat)} (h : ((mv m).map (·.1)).Nodup) : (m.map (·.1)).Nodup := by
  rw [mv_keys] at h
  have : (m.map fun p => Lit.int .i64 p.1) = (m.map (·.1)).map (Lit.int .i64) := by simp [Function.comp_def]
  rw [this] at h
  exact nodup_of_map h
theorem cnt_mem {m : List (Int × Nat)} (h : (m.map (·.1)).Nodup) {p : Int × Nat} (hp : p ∈ m) : cnt m p.1 = p.2 := by
  induction m with
  | nil => cases hp
  | cons a m ih =>
    simp only [List.map_cons, List.nodup_cons] at h
    unfold cnt
    rw [List.find?_cons]
    rcases List.mem_cons.1 hp with rfl | hp1
    · simp
    · have hne : (a.1 == p.1) = false := by
        simp only [beq_eq_false_iff_ne, ne_eq]
        exact fun e => h.1 (e ▸ List.mem_map_of_mem hp1)
      rw [hne]
      exact ih h.2 hp1
theorem cnt_none {m : List (Int × Nat)} {x : Int} (h : x ∉ m.map (·.1)) : cnt m x = 0 := by
  unfold cnt
  rw [List.find?_eq_none.2]
  · rfl
  · intro p hp
    simp only [beq_iff_eq]
    exact fun e => h (e ▸ List.mem_map_of_mem hp)
/-- A look-up in a map of counts. -/
theorem look_cnt {w : World} {b : Nat} {m : List (Int × Nat)} (h : IsM Tryd.prog 3 w b (mv m)) (x : K64) : (Instr.lookup 48 (.map (some b)) (.int .i64 x.1) false).run Tryd.prog w = .ok (.int .i64 (cnt m x.1 : Int)) w := by
  have hl := IsM.look w h int_key Tryd.underlying48 (zero_int w) (key := .int .i64 x.1) (kl := .int .i64 x.1) (Go.Maps.keyOf_int_mk Tryd.underlying3 x.2)
  by_cases hx : x.1 ∈ m.map (·.1)
  · rw [List.mem_map] at hx
    obtain ⟨p, hp, e⟩ := hx
    have := (hl.1 (.int .i64 (p.2 : Int)) (by rw [← e]; exact List.mem_map_of_mem (f := fun p : Int × Nat => (Lit.int .i64 p.1, Value.int .i64 (p.2 : Int))) hp)).1
    rw [this, ← e, cnt_mem (mv_nd h.nd) hp]
  · rw [(hl.2 (by rw [mv_keys, List.mem_map]; rintro ⟨p, hp, e⟩; injection e with _ e; exact hx (e ▸ List.mem_map_of_mem hp))).1, cnt_none hx]
    rfl

theorem or_ (g : Nat) (x y : Int) (w : World) (h : Blk w g 3 #[.int .i64 x, .int .i64 y]) : Calls Tryd.prog 42 #[.slice (some ⟨g, 0, none⟩) 2 2] w fun r w' => r = .returned (.int .i64 (if x = 0 then y else x)) ∧ w' = w := by
  have h0 : w.cell? ⟨g, 0, none⟩ = some (.int .i64 x) := h.cell 0
  have h1 : w.cell? ⟨g, 1, none⟩ = some (.int .i64 y) := h.cell 1
  obtain ⟨z, hz⟩ : ∃ z, z = if x = 0 then y else x := ⟨_, rfl⟩
  rw [← hz]
  have HZ := Lib.hid hz
  clear hz h
  go_enter Tryd.func42, Tryd.ntmps42
  go_wp2
  go_loopw [8] (fun i wr => ∃ d : Nat, d ≤ 2 ∧ (d = 1 → x = 0) ∧ (d = 2 → x = 0 ∧ y = 0) ∧ i = .int .i64 (d : Int) ∧ wr = w) (fun i _ => 2 - (intOf i).toNat)
  case atStart => exact ⟨0, by omega, by omega, by omega, rfl, rfl⟩
  case round =>
    obtain ⟨d, hd, hd1, hd2, rfl, rfl⟩ := hrel
    have HD1 := Lib.hid hd1
    have HD2 := Lib.hid hd2
    clear hd1 hd2
    rcases (show d = 0 ∨ d = 1 ∨ d = 2 by omega) with rfl | rfl | rfl
    · by_cases hx : x = 0
      · subst hx
        go_wp2
        exact ⟨⟨1, by simp⟩, by simp [intOf]⟩
      · go_wp2
        go_ret
        refine ⟨?_, rfl⟩
        rw [HZ.out, if_neg hx]
        rfl
    · have hx := HD1.out rfl
      by_cases hy : y = 0
      · subst hy
        go_wp2
        exact ⟨⟨2, by simp [hx]⟩, by simp [intOf]⟩
      · go_wp2
        go_ret
        refine ⟨?_, rfl⟩
        rw [HZ.out, if_pos hx]
        rfl
    · obtain ⟨hx, hy⟩ := HD2.out rfl
      go_wp2
      go_ret
      refine ⟨?_, rfl⟩
      rw [HZ.out, if_pos hx, hy]
      rfl

/-- By counts, then by numbers. -/
def rareCmp (m : List (Int × Nat)) (x y : K64) : Int := if Lib.compareInt (cnt m x.1) (cnt m y.1) = 0 then Lib.compareInt x.1 y.1 else Lib.compareInt (cnt m x.1) (cnt m y.1)
theorem closure (b p : Nat) (m : List (Int × Nat)) (x y : K64) (w : World) (h : IsM Tryd.prog 3 w b (mv m)) (hp : Blk w p 48 #[.map (some b)]) :
    Calls Tryd.prog 41 #[.int .i64 x.1, .int .i64 y.1, .pointer (some ⟨p, 0, none⟩)] w fun r w' => r = .returned (.int .i64 (rareCmp m x y)) ∧ ∃ o, w' = w.alloc o := by
  have hc : w.cell? ⟨p, 0, none⟩ = some (.map (some b)) := hp.cell 0
  have hlx := look_cnt h x
  have hly := look_cnt h y
  have hcon := fun a b W' => AnyG.cmp_Compare_int Tryd.cmpInt a b W'
  change ∀ a b W', Calls Tryd.prog 31 _ _ _ at hcon
  obtain ⟨z, hz⟩ : ∃ z, z = rareCmp m x y := ⟨_, rfl⟩
  rw [← hz]
  unfold rareCmp at hz
  generalize (cnt m x.1 : Int) = cx at *
  generalize (cnt m y.1 : Int) = cy at *
  have H1 := hcon cx cy w
  have H2 := hcon x.1 y.1 w
  generalize Lib.compareInt cx cy = r1 at *
  generalize Lib.compareInt x.1 y.1 = r2 at *
  have HZ := Lib.hid hz
  have H3 := Lib.hid (or_ w.heap.size r1 r2 _ (Blk.new w 3 #[.int .i64 r1, .int .i64 r2]))
  clear hcon hz h hp
  go_enter Tryd.func41, Tryd.ntmps41
  go_wp2_with fail
  refine H1.mono ?_
  rintro e w' ⟨rfl, rfl⟩
  go_wp2_with fail
  refine H2.mono ?_
  rintro e w' ⟨rfl, rfl⟩
  go_wp2_with fail
  refine H3.out.mono ?_
  rintro e w' ⟨rfl, rfl⟩
  rw [← HZ.out]
  clear H1 H2 H3 hlx hly
  go_wp2
  go_ret
  exact ⟨rfl, _, rfl⟩
end Go.Proofs.YtaamnbminmcbpaaDoor.Hs

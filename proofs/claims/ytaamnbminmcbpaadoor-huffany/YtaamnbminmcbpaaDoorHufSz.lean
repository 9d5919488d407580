/- Small calls of Sizes; entries in memory; their sort by numbers. -/
import Derived.Test.YtaamnbminmcbpaaDoorHufRf
import Derived.Test.YtaamnbminmcbpaaDoorHufEv
namespace Go.Proofs.YtaamnbminmcbpaaDoor.Hz
open Go.RowKit Go.Shelf Go.Lib Go.Sort Go.Proofs.YtaamnbminmcbpaaDoor.Gen Go.Proofs.YtaamnbminmcbpaaDoor.Mp Go.Proofs.YtaamnbminmcbpaaDoor.Hr Go.Proofs.YtaamnbminmcbpaaDoor.Hp Go.Proofs.YtaamnbminmcbpaaDoor.Hm Go.Proofs.YtaamnbminmcbpaaDoor.Hg Go.Proofs.YtaamnbminmcbpaaDoor.So Go.Proofs.YtaamnbminmcbpaaDoor.Hs Go.Proofs.YtaamnbminmcbpaaDoor.Hf

theorem many_ (n : Nat) (w : World) : Calls Tryd.prog 15 #[.int .i64 (n : Int)] w fun r w' => r = .returned (.bool (decide (1 ≤ n ∧ n ≤ 256))) ∧ w' = w := by
  go_enter Tryd.func15, Tryd.ntmps15
  go_wp2
  all_goals
    go_ret
    refine ⟨?_, rfl⟩
    refine congrArg (fun b => Ending.returned (Value.bool b)) ?_
    rw [Bool.eq_iff_iff]
    simp
    try omega
theorem num_ (x : Int) (w : World) : Calls Tryd.prog 26 #[.int .i64 x] w fun r w' => r = .returned (.bool (decide (-2147483647 ≤ x ∧ x ≤ 2147483647))) ∧ w' = w := by
  go_enter Tryd.func26, Tryd.ntmps26
  go_wp2
  all_goals
    go_ret
    refine ⟨?_, rfl⟩
    simp
    try omega

/-- The first d are laid; the rest are noughts. -/
def fill {α : Type} (z : α) (l : List α) (d : Nat) : List α := l.take d ++ List.replicate (l.length - d) z
theorem fill_len {α : Type} (z : α) (l : List α) {d : Nat} (h : d ≤ l.length) : (fill z l d).length = l.length := by simp [fill]; omega
theorem fill_zero {α : Type} (z : α) (l : List α) : fill z l 0 = List.replicate l.length z := by simp [fill]
theorem fill_all {α : Type} (z : α) (l : List α) : fill z l l.length = l := by simp [fill]
theorem fill_set {α : Type} (z : α) (l : List α) {d : Nat} (h : d < l.length) : (fill z l d).set d (l.getD d z) = fill z l (d + 1) := by
  unfold fill
  rw [List.set_append_right _ _ (by simp; omega), List.length_take, show min d l.length = d by omega, Nat.sub_self, show l.length - d = (l.length - (d + 1)) + 1 by omega, List.replicate_succ, List.set_cons_zero, List.getD_eq_getElem?_getD, List.getElem?_eq_getElem h]
  have e : l.take (d + 1) = l.take d ++ [l[d]] := by rw [List.take_add_one, List.getElem?_eq_getElem h]; rfl
  rw [e, List.append_assoc]
  rfl
theorem ent_info : (Tryd.prog.info? 26).map (fun i => (i.zero, i.size, i.bytes)) = some (some (.agg #[.int .i64 0, .int .i64 0]), 2, 16) := by kernel_rfl
theorem made_ents (n : Nat) : (madeCells (Value.agg #[.int .i64 0, .int .i64 0]).cells (n * 2)).toList = evs (List.replicate n (0, 0)) := by
  refine List.ext_getElem? fun i => ?_
  by_cases hi : i < n * 2
  · have h1 : i / 2 < (List.replicate n ((0 : Int), (0 : Nat))).length := by simp; omega
    have h2 := evs_get0 _ _ h1
    have h3 := evs_get1 _ _ h1
    have e : (madeCells (Value.agg #[.int .i64 0, .int .i64 0]).cells (n * 2)).toList[i]? = some (.int .i64 0) := by
      rcases Nat.mod_two_eq_zero_or_one i with h | h <;> simp [madeCells, Value.cells, hi, h]
    rw [e]
    rcases Nat.mod_two_eq_zero_or_one i with h | h
    · rw [show i / 2 * 2 = i by omega] at h2
      rw [h2]
      simp [List.getD_eq_getElem?_getD, List.getElem?_replicate, show i / 2 < n by omega]
    · rw [show i / 2 * 2 + 1 = i by omega] at h3
      rw [h3]
      simp [List.getD_eq_getElem?_getD, List.getElem?_replicate, show i / 2 < n by omega]
  · rw [List.getElem?_eq_none (by simp [madeCells]; omega), List.getElem?_eq_none (by rw [evs_len]; simp; omega)]

theorem ltSym (x y : Int × Nat) : ltOf (fun x y : Int × Nat => Lib.compareInt x.1 y.1) x y = decide (x.1 < y.1) := by
  unfold ltOf
  congr 1
  exact propext (cmp_lt _ _)
theorem swoSym : SWO (ltOf fun x y : Int × Nat => Lib.compareInt x.1 y.1) where
  irrefl x := by rw [ltSym]; simp
  trans x y z h1 h2 := by rw [ltSym] at *; simp at *; omega
  ntrans x y z h1 h2 := by rw [ltSym] at *; simp at *; omega
theorem ent_agg (w : World) : (isAgg 26).run Tryd.prog w = .ok true w := by kernel_rfl
theorem ent_size (w : World) : (Go.sizeOf 26).run Tryd.prog w = .ok 2 w := by kernel_rfl
theorem closureE (x y : Int × Nat) (W : World) : Calls Tryd.prog 30 #[.agg #[.int .i64 x.1, .int .i64 (x.2 : Int)], .agg #[.int .i64 y.1, .int .i64 (y.2 : Int)]] W fun e w' => e = .returned (.int .i64 (Lib.compareInt x.1 y.1)) ∧ ∃ q os', w' = grow (W.drewN q) os' := by
  have hcon := fun W' => AnyG.cmp_Compare_int Tryd.cmpInt x.1 y.1 W'
  change ∀ W', Calls Tryd.prog 31 _ _ _ at hcon
  generalize Lib.compareInt x.1 y.1 = r at hcon ⊢
  go_enter Tryd.func30, Tryd.ntmps30
  go_wp2_with (go_at_call 31; refine (hcon _).mono ?_; rintro e w' ⟨rfl, rfl⟩)
  go_ret
  exact ⟨rfl, 0, _, by rw [alloc_eq_grow, alloc_eq_grow, grow_grow]; rfl⟩
/-- The sort of entries by their numbers, called: the slice fills its block. -/
theorem sort_ents (g n : Nat) (l : List (Int × Nat)) (w : World) (h : Blk w g 26 (evs l).toArray) (hl : l.length = n) (hn : n ≤ 100000) :
    Calls Tryd.prog 29 #[.slice (some ⟨g, 0, none⟩) n n, .func (.func 30) #[] #[]] w fun r w' => r = .returned (.tuple #[]) ∧ Keeps (· = g) w w' ∧ ∃ L : List (Int × Nat), L.Perm l ∧ L.Pairwise (fun x y => x.1 ≤ y.1) ∧ Blk w' g 26 (evs L).toArray := by
  obtain ⟨d, hd⟩ : ∃ d : Array (Int × Nat), d = l.toArray := ⟨_, rfl⟩
  have hdl : d.toList = l := by rw [hd]
  have hds : d.size = n := by rw [hd]; simpa using hl
  have hev : ∀ x, (ev x).length = 2 := fun _ => rfl
  have hown := own_of_blk (base := 0) (n := n) (sz := 2) h (Nat.zero_le _) (by simp only [maxLen]; omega) (by rw [evs_len, hl])
  have hfl : (flatK ev 2 d).toList = evs l := by rw [flat_list ev 2 hev (by omega), hdl]; rfl
  have hH := own_holds id (flatK ev 2 d) (base := 0) (n := n) (c := n) (sz := 2) (e := 26) (w := w) (g := g) (by rw [List.map_id, hfl]; exact hown)
  have eg : ∀ args w, (callFunc 30 args).run Tryd.prog w = .ok (.enter 30 args) w := enters_of Tryd.func30 (by kernel_rfl) rfl
  have hcon := AnyQ.slices_SortFunc Tryd.sortEnt 2 ent_agg ent_size ev hev (fun x v hv => by simp [ev] at hv; rcases hv with rfl | rfl <;> rfl) (fun x y => Lib.compareInt x.1 y.1) swoSym 30 #[] g 0 n d w eg (fun _ _ _ _ x y => closureE x y _) hH.1 hH.2 (by rw [hds]; omega)
  change Calls Tryd.prog 29 _ _ _ at hcon
  rw [hds] at hcon
  refine hcon.mono ?_
  rintro e w' ⟨rfl, d', q, os, h1, h2, rfl⟩
  rw [← hds] at h1
  obtain ⟨hp, hsz⟩ := perm_list h1
  refine ⟨rfl, sorted_keeps id w g q _ os, d'.toList, ?_, ?_, ?_⟩
  · rw [hdl] at hp
    exact hp
  · have h3 := sorted_list (d := d') (by rw [hsz, hds]; exact h2)
    refine h3.imp fun {a b} h => ?_
    rw [ltSym] at h
    simp at h
    omega
  · have hfl2 : (flatK ev 2 d').toList = evs d'.toList := by rw [flat_list ev 2 hev (by omega)]; rfl
    have := sorted_own id hown (flatK ev 2 d') (os := os) (q := q) (by rw [size_flatK]; omega)
    rw [List.map_id, hfl2] at this
    exact (own_full this).1
end Go.Proofs.YtaamnbminmcbpaaDoor.Hz

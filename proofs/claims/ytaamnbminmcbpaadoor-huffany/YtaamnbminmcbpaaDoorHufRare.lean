/- The numbers of a map of counts, the rarest first. -/
import Derived.Test.YtaamnbminmcbpaaDoorHufSort
namespace Go.Proofs.YtaamnbminmcbpaaDoor.Hf
open Go.RowKit Go.Shelf Go.Lib Go.Sort Go.Proofs.YtaamnbminmcbpaaDoor.Gen Go.Proofs.YtaamnbminmcbpaaDoor.Mp Go.Proofs.YtaamnbminmcbpaaDoor.Hr Go.Proofs.YtaamnbminmcbpaaDoor.Hp Go.Proofs.YtaamnbminmcbpaaDoor.Hm Go.Proofs.YtaamnbminmcbpaaDoor.Hg Go.Proofs.YtaamnbminmcbpaaDoor.So Go.Proofs.YtaamnbminmcbpaaDoor.Hs

theorem cmp_lt (x y : Int) : Lib.compareInt x y < 0 ↔ x < y := by
  unfold Lib.compareInt
  by_cases h1 : x < y
  · simp [h1]
  · by_cases h2 : y < x <;> simp [h1, h2]
theorem cmp_eq (x y : Int) : Lib.compareInt x y = 0 ↔ x = y := by
  unfold Lib.compareInt
  by_cases h1 : x < y
  · simp [h1]; omega
  · by_cases h2 : y < x
    · simp [h1, h2]; omega
    · simp [h1, h2]; omega
theorem rare_lt (m : List (Int × Nat)) (x y : K64) : ltOf (rareCmp m) x y = true ↔ cnt m x.1 < cnt m y.1 ∨ (cnt m x.1 = cnt m y.1 ∧ x.1 < y.1) := by
  unfold ltOf rareCmp
  rw [decide_eq_true_eq]
  by_cases h : Lib.compareInt (cnt m x.1) (cnt m y.1) = 0
  · rw [if_pos h, cmp_lt]
    rw [cmp_eq] at h
    omega
  · rw [if_neg h, cmp_lt]
    rw [cmp_eq] at h
    omega
theorem rare_swo (m : List (Int × Nat)) : SWO (ltOf (rareCmp m)) where
  irrefl x := by rw [← Bool.not_eq_true, rare_lt]; omega
  trans x y z h1 h2 := by rw [rare_lt] at *; omega
  ntrans x y z h1 h2 := by rw [← Bool.not_eq_true, rare_lt] at *; omega
/-- Numbers as cells. -/
def iv (l : List Int) : List Value := l.map (Value.int .i64)
theorem iv_len (l : List Int) : (iv l).length = l.length := by simp [iv]
theorem iv_app (a b : List Int) : iv (a ++ b) = iv a ++ iv b := by simp [iv]
/-- A map's entry as a count. -/
def un (p : Lit × Value) : Int × Nat := (match p.1 with | .int _ x => x | _ => 0, match p.2 with | .int _ x => x.toNat | _ => 0)
theorem un_mv (m : List (Int × Nat)) : (mv m).map un = m := by
  induction m with
  | nil => rfl
  | cons a m ih => simp only [mv, List.map_cons] at ih ⊢; rw [ih]; simp [un]
theorem mv_mem {m : List (Int × Nat)} {x : Int} {c : Nat} (h : ((Lit.int .i64 x, Value.int .i64 (c : Int)) : Lit × Value) ∈ mv m) : (x, c) ∈ m := by
  have := List.mem_map_of_mem (f := un) h
  rw [un_mv] at this
  simpa [un] using this
theorem mv_app (a b : List (Int × Nat)) : mv (a ++ b) = mv a ++ mv b := by simp [mv]
theorem mv_len (a : List (Int × Nat)) : (mv a).length = a.length := by simp [mv]
theorem mv_shape (m : List (Int × Nat)) : ∀ p ∈ mv m, ∃ c : Nat, p.2 = Value.int .i64 (c : Int) := by
  intro p hp
  simp only [mv, List.mem_map] at hp
  obtain ⟨q, _, rfl⟩ := hp
  exact ⟨q.2, rfl⟩
theorem int_shape : ∀ key kl, keyOf Tryd.prog 3 key = some kl → ∃ x : Int, key = Value.int .i64 x := by
  intro key kl h
  obtain ⟨x, h1, _⟩ := Go.Maps.keyOf_int_inv Tryd.underlying3 h
  exact ⟨x, h1⟩
/-- Numbers, each with the reason that int holds it. -/
def lift : (l : List Int) → (∀ x ∈ l, (Lit.int .i64 x).wf = true) → List K64
  | [], _ => []
  | x :: l, h => ⟨x, h x (by simp)⟩ :: lift l fun y hy => h y (by simp [hy])
theorem lift_map : ∀ (l : List Int) (h : ∀ x ∈ l, (Lit.int .i64 x).wf = true), (lift l h).map (·.1) = l
  | [], _ => rfl
  | x :: l, h => by simp [lift, lift_map l]
theorem lift_ke (l : List Int) (h : ∀ x ∈ l, (Lit.int .i64 x).wf = true) : (lift l h).map ke = iv l := by
  have : ke = Value.int .i64 ∘ fun x : K64 => x.1 := rfl
  rw [this, ← List.map_map, lift_map]
  rfl
theorem sorted_list {α : Type} [Inhabited α] {lt : α → α → Bool} {d : Array α} (h : SortedIn lt 0 d.size d) : d.toList.Pairwise fun a b => lt b a = false := by
  rw [List.pairwise_iff_getElem]
  intro i j hi hj hij
  have := h i j (by omega) hij (by simpa using hj)
  simpa [getElem!_pos, (show i < d.size by simpa using hi), (show j < d.size by simpa using hj)] using this
theorem perm_list {α : Type} [Inhabited α] {d d' : Array α} (h : PermIn 0 d.size d d') : d'.toList.Perm d.toList ∧ d'.size = d.size := by
  obtain ⟨h1, _, h3⟩ := h
  refine ⟨?_, h1⟩
  rw [Array.extract_eq_self_of_le (by omega), Array.extract_eq_self_of_le (by omega)] at h3
  exact h3
/-- The sort of numbers by counts, called. -/
theorem sort_rare (b p g c n base : Nat) (m : List (Int × Nat)) (ks : List Int) (w : World) (hm : IsM Tryd.prog 3 w b (mv m)) (hp : Blk w p 48 #[.map (some b)]) (hown : w.ownsRow base 3 1 (.slice (some ⟨g, 0, none⟩) n c) n (iv ks)) (hk : ∀ x ∈ ks, (Lit.int .i64 x).wf = true) (hl : ks.length = n) (hn : n ≤ 100000) :
    Calls Tryd.prog 40 #[.slice (some ⟨g, 0, none⟩) n c, .func (.func 41) #[] #[.pointer (some ⟨p, 0, none⟩)]] w fun r w' => r = .returned (.tuple #[]) ∧ Keeps (· = g) w w' ∧ ∃ N : List Int, N.Perm ks ∧ N.Pairwise (fun x y => cnt m x ≤ cnt m y) ∧ w'.ownsRow base 3 1 (.slice (some ⟨g, 0, none⟩) n c) n (iv N) := by
  obtain ⟨d, hd⟩ : ∃ d : Array K64, d = (lift ks hk).toArray := ⟨_, rfl⟩
  have hdl : d.toList = lift ks hk := by rw [hd]
  have hds : d.size = n := by
    have := congrArg List.length (lift_map ks hk)
    rw [List.length_map] at this
    rw [hd]
    simp [this, hl]
  have hH := own_holds ke d (base := base) (n := n) (c := c) (sz := 1) (e := 3) (w := w) (g := g) (by rw [hdl, lift_ke]; exact hown)
  have hpg : ¬ p = g := by
    have := own_ne hown hp (by decide)
    exact fun e => this (by rw [e]; rfl)
  have hbg : ¬ b = g := by
    rcases hown.2 with ⟨h0, _⟩ | ⟨g', cap, cur, hv, _, hh, _⟩
    · cases h0
    · injection hv with hv _ hc
      injection hv with hv
      injection hv with hv
      subst hv
      exact fun e => hm.ne_blk (show Blk w g 3 cur from hh) e.symm
  have eg : ∀ args w, (callFunc 41 args).run Tryd.prog w = .ok (.enter 41 args) w := enters_of Tryd.func41 (by kernel_rfl) rfl
  have hcmp : CmpLays1 Tryd.prog 41 #[.pointer (some ⟨p, 0, none⟩)] ke (rareCmp m) g 0 d.size w := by
    intro q os dk hs x y
    have hk := sorted_keeps ke w g q dk os
    refine (closure b p m x y _ (hm.keeps hk hbg) (hp.keeps hk hpg)).mono ?_
    rintro e w' ⟨rfl, o, rfl⟩
    exact ⟨rfl, 0, #[o], by rw [alloc_eq_grow]; rfl⟩
  have hcon := Any.slices_SortFunc Tryd.sortInt ke (fun _ => rfl) (rareCmp m) (rare_swo m) 41 #[.pointer (some ⟨p, 0, none⟩)] g 0 c d w eg hcmp hH.1 hH.2 (by rw [hds]; omega)
  change Calls Tryd.prog 40 _ _ _ at hcon
  rw [hds] at hcon
  refine hcon.mono ?_
  rintro e w' ⟨rfl, d', q, os, h1, h2, rfl⟩
  refine ⟨rfl, sorted_keeps ke w g q d' os, d'.toList.map (·.1), ?_, ?_, ?_⟩
  · rw [← hds] at h1
    have := (perm_list h1).1.map (·.1)
    rw [hdl, lift_map] at this
    exact this
  · rw [← hds] at h1
    have hsz := (perm_list h1).2
    have h3 := sorted_list (d := d') (by rw [hsz, hds]; exact h2)
    rw [List.pairwise_map]
    refine h3.imp fun {a b} h => ?_
    rw [← Bool.not_eq_true, rare_lt] at h
    omega
  · rw [← hds] at h1
    have hsz := (perm_list h1).2
    have := sorted_own ke hown d' (os := os) (q := q) (by omega)
    have e : d'.toList.map ke = iv (d'.toList.map (·.1)) := by
      rw [iv, List.map_map]
      rfl
    rw [e] at this
    exact this
end Go.Proofs.YtaamnbminmcbpaaDoor.Hf

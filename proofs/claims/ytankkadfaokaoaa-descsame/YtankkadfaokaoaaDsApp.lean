/- append of entries that may be nil, behind a row of one's own (desc). -/
import Derived.Test.YtankkadfaokaoaaDsSmE
import Derived.Deep.RegionLaw
namespace Go.Proofs.Ytankkadfaokaoaa.Ds
open Go.RowKit Go.Proofs.Ytankkadfaokaoaa.Gen Go.Proofs.Ytankkadfaokaoaa.Wr Go.Proofs.Ytankkadfaokaoaa.It Go.Proofs.Ytankkadfaokaoaa.Ir Go.Proofs.Ytankkadfaokaoaa.Ib Go.Proofs.Ytankkadfaokaoaa.Tw Go.Proofs.Ytankkadfaokaoaa.Hr Go.Proofs.Ytankkadfaokaoaa.Hn Go.Proofs.Ytankkadfaokaoaa.Hk Go.Proofs.Ytankkadfaokaoaa.Ln

theorem gvs_app (ys xs : List G) : gvs (ys ++ xs) = gvs ys ++ gvs xs := by simp [gvs]
theorem gvs_one (xs : List G) : ∀ u ∈ gvs xs, u.oneCell' = true := by
  intro u hu
  simp only [gvs, List.mem_flatMap] at hu
  obtain ⟨p, _, hp⟩ := hu
  simp at hp
  rcases hp with rfl | rfl <;> rfl
theorem ents_news {w : World} {ad : Addr} {m : Nat} {xs : List G} (h : Ents w (some ad) m xs) : ∀ j u, (gvs xs)[j]? = some u → w.cell? (ad.add j) = some u := by
  intro j u hu
  have hj : j < (gvs xs).length := (List.getElem?_eq_some_iff.1 hu).1
  rcases h.1 with h1 | ⟨b, o, e, _, hc⟩
  · rw [h1] at hj
    simp at hj
  · injection e with e
    subst e
    rw [add_none, hc j hj, hu]
theorem run_appE_none (base n c : Nat) (ty : TypeId) (v : Value) (ys : List G) (w : World) (hown : w.ownsRow base 66 2 v n (gvs ys)) :
    (Builtin.append_ #[29, 29] ty #[v, .slice none 0 c]).run Try.prog w = .ok v w := by
  obtain ⟨i0, hi0, hz0, hz1, hz2⟩ := info_parts ent_info
  have ht : Try.prog.underlying 29 = some (.slice 66) := Try.underlying29
  rcases hown.2 with ⟨rfl, rfl⟩ | ⟨g, cap, cur, rfl, _, _, hnc, _⟩
  · simp [Builtin.append_, run_underlying ht, sizeOf, typeInfo, hi0, Builtin.lenOf, Builtin.firstCells]
  · simp [Builtin.append_, run_underlying ht, sizeOf, typeInfo, hi0, Builtin.lenOf, Builtin.firstCells, hnc, storeCells]
theorem run_appE (base n m c : Nat) (ty : TypeId) (v : Value) (ys xs : List G) (A : Option Addr) (w : World) (hown : w.ownsRow base 66 2 v n (gvs ys)) (hl : Ents w A m xs) (h63 : n + m ≤ 100000) (hbase : base ≤ w.heap.size) :
    ∃ v' w', (Builtin.append_ #[29, 29] ty #[v, .slice A m c]).run Try.prog w = .ok v' w' ∧ w'.ownsRow base 66 2 v' (n + m) (gvs (ys ++ xs)) ∧ w.grownBy w' v.ownBlock := by
  obtain ⟨i0, hi0, hz0, hz1, hz2⟩ := info_parts ent_info
  have hm := hl.2.1
  cases A with
  | none =>
    obtain rfl : xs = [] := by
      rcases hl.1 with h1 | ⟨b, o, h1, _⟩
      · have := gvs_len xs
        rw [h1] at this
        simp at this
        exact List.eq_nil_of_length_eq_zero (by omega)
      · cases h1
    simp at hm
    subst hm
    exact ⟨v, w, run_appE_none base n c ty v ys w hown, by simpa using hown, World.grownBy.refl _ _⟩
  | some ad =>
    obtain ⟨v', w', h1, h2, h3, _, h5⟩ := run_append_own_at (P := Try.prog) w base 29 ty 66 i0 _ 2 16 Try.underlying29 hi0 hz0 hz1 hz2 rfl (by omega) v n (gvs ys) hown ad m c (gvs xs) (by rw [gvs_len]; omega) (ents_news hl) (gvs_one _) (by simp only [maxLen]; omega) (by omega) hbase
    exact ⟨v', w', h1, by rw [gvs_app]; exact h2, h3⟩
theorem wpList_appE {ops : Array Oper} {rest : List Oper} {o : Oper} {a : Act} {w : World} {Q : Exit → Act → World → Prop} (hgd : o.guard = none) (s x : Operand)
    (ho : o.op = .call { callee := .builtin .append, args := #[s, x], argTypes := #[29, 29] })
    (base n m c : Nat) (v : Value) (ys xs : List G) (A : Option Addr) (hs : a.eval s = v) (hown : w.ownsRow base 66 2 v n (gvs ys)) (hx : a.eval x = .slice A m c) (hl : Ents w A m xs) (h63 : n + m ≤ 100000) (hbase : base ≤ w.heap.size)
    (h : ∀ v' w', w'.ownsRow base 66 2 v' (n + m) (gvs (ys ++ xs)) → w.grownBy w' v.ownBlock → wpList Try.prog ops Q rest (a.put o.dst v') w') :
    wpList Try.prog ops Q (o :: rest) a w := by
  refine wpList_plain hgd fun K hK => ?_
  obtain ⟨v', w', hr, h2, h3⟩ := run_appE base n m c o.type v ys xs A w hown hl h63 hbase
  unfold Oper.wp execOp
  simp only [ho, resolve, invoke, builtin, Sem.run_bind, Sem.run_pure, Result.andThen_ok, List.map_toArray, List.map_cons, List.map_nil, hs, hx, hr]
  exact hK _ _ (h v' w' h2 h3)
theorem ents_one (w : World) (x y : Int) : Ents (w.alloc (.cells #[.int .i64 x, .int .i64 y] 66)) (some ⟨w.heap.size, 0, none⟩) 1 [(x, y)] := by
  refine ⟨.inr ⟨w.heap.size, 0, rfl, by simp, fun i hi => ?_⟩, rfl, by omega⟩
  have : i = 0 ∨ i = 1 := by simp [gvs] at hi; omega
  rcases this with rfl | rfl
  · rw [(Blk.new w 66 _).cell]; rfl
  · rw [(Blk.new w 66 _).cell]; rfl
theorem own_emptyE (w : World) (base : Nat) (hb : base ≤ w.heap.size) : (w.alloc (.cells #[] 66)).ownsRow base 66 2 (.slice (some ⟨w.heap.size, 0, none⟩) 0 0) 0 (gvs []) :=
  ⟨rfl, .inr ⟨w.heap.size, 0, #[], rfl, hb, heap_alloc_new w _, Nat.le_refl _, by simp [maxLen], rfl, rfl⟩⟩
end Go.Proofs.Ytankkadfaokaoaa.Ds

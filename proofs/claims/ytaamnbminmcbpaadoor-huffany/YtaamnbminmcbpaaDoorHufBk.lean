/- Numbers put by their words, and taken again: plain facts; a Writer beside a row of numbers. -/
import Derived.Test.YtaamnbminmcbpaaDoorHufTake
import Derived.Test.YtaamnbminmcbpaaDoorHufAp
import Derived.Test.YtaamnbminmcbpaaDoorBitTwo
namespace Go.Proofs.YtaamnbminmcbpaaDoor.Hb
open Go.RowKit Go.Shelf Go.Sort Go.Proofs.YtaamnbminmcbpaaDoor.Gen Go.Proofs.YtaamnbminmcbpaaDoor.Mp Go.Proofs.YtaamnbminmcbpaaDoor.Hr Go.Proofs.YtaamnbminmcbpaaDoor.Hg Go.Proofs.YtaamnbminmcbpaaDoor.So Go.Proofs.YtaamnbminmcbpaaDoor.Hs Go.Proofs.YtaamnbminmcbpaaDoor.Hf Go.Proofs.YtaamnbminmcbpaaDoor.Hz Go.Proofs.YtaamnbminmcbpaaDoor.Hn Go.Proofs.YtaamnbminmcbpaaDoor.Hw Go.Proofs.YtaamnbminmcbpaaDoor.Hx Go.Proofs.YtaamnbminmcbpaaDoor.Ln Go.Proofs.YtaamnbminmcbpaaDoor.Hk Go.Proofs.YtaamnbminmcbpaaDoor.Hu Go.Proofs.YtaamnbminmcbpaaDoor.Bp Go.Proofs.YtaamnbminmcbpaaDoor.Br

theorem fine_words {L : List (Int × Nat)} (h : ∀ p ∈ L, p.2 ≤ 20) (hf : posOf L ≤ 2 ^ 20) : Fine (wordsOf L) := by
  intro t ht
  obtain ⟨h1, h2⟩ := (words_spec L h hf).1 t ht
  have h3 : (2 : Nat) ^ t.2.1 ≤ 2 ^ 20 := Nat.pow_le_pow_right (by omega) h1
  exact ⟨by omega, h1⟩
/-- Two words that the next bits are: one. -/
theorem next_one {L : List (Int × Nat)} (h : ∀ p ∈ L, p.2 ≤ 20) (hf : posOf L ≤ 2 ^ 20) {s : BS} {a b : Int × Nat × Nat} (ha : a ∈ wordsOf L) (hb : b ∈ wordsOf L) (na : NextIs s a.2.1 a.2.2) (nb : NextIs s b.2.1 b.2.2) : a = b := by
  have key : ∀ {a b : Int × Nat × Nat}, a ∈ wordsOf L → b ∈ wordsOf L → NextIs s a.2.1 a.2.2 → NextIs s b.2.1 b.2.2 → a.2.1 ≤ b.2.1 → a = b := by
    intro a b ha hb na nb hz
    refine Classical.byContradiction fun hne => apart h hf ha hb hne hz ?_
    have pb : ∀ k z, ∀ x ∈ piece s.bits k z, x < 2 := fun k z => piece_bit (ofB_bit _) k z
    have e1 := (tb_num _ (piece s.bits s.k a.2.1) (piece_len (by rw [s.len]; exact na.1)) (pb _ _)).1
    have e2 := (tb_num _ (piece s.bits s.k b.2.1) (piece_len (by rw [s.len]; exact nb.1)) (pb _ _)).1
    rw [na.2] at e1
    rw [nb.2] at e2
    rw [e1, e2]
    unfold piece
    rw [List.take_take, Nat.min_eq_left hz]
  rcases Nat.le_total a.2.1 b.2.1 with hz | hz
  · exact key ha hb na nb hz
  · exact (key hb ha nb na hz).symm
theorem found_of {L : List (Int × Nat)} (h : ∀ p ∈ L, p.2 ≤ 20) (hf : posOf L ≤ 2 ^ 20) {x : Int} (hx : x ∈ L.map (·.1)) : ∃ z v, found (wordsOf L) x = some (z, v) ∧ z ≤ 20 ∧ v < 2 ^ z ∧ (x, z, v) ∈ wordsOf L := by
  cases hfo : found (wordsOf L) x with
  | none =>
    have h1 := found_none hfo
    refine absurd ?_ h1
    have h2 : (wordsOf L).map (·.1) = (line L 21).map (·.1) := by
      conv => rhs; rw [← asg_keys 0 (line L 21)]
      rw [List.map_map]
      rfl
    rw [h2]
    exact ((line_perm h).map _).symm.subset hx
  | some p =>
    have h1 := found_mem hfo
    have h2 := (words_spec L h hf).1 _ h1
    exact ⟨p.1, p.2, rfl, h2.1, h2.2, h1⟩
/-- The bits of numbers, by their words. -/
def bitsW (W : Ws) (xs : List Int) : List Nat := xs.flatMap fun x => tb (wb W x) (wz W x)
theorem bitsW_snoc (W : Ws) (xs : List Int) (x : Int) : bitsW W (xs ++ [x]) = bitsW W xs ++ tb (wb W x) (wz W x) := by simp [bitsW]
theorem bitsW_len {W : Ws} {xs : List Int} (h : ∀ x ∈ xs, wz W x ≤ 20) : (bitsW W xs).length ≤ 20 * xs.length := by
  induction xs with
  | nil => simp [bitsW]
  | cons a l ih =>
    have h1 := ih (fun x hx => h x (by simp [hx]))
    have h2 := h a (by simp)
    simp only [bitsW, List.flatMap_cons, List.length_append, List.length_cons, tb_len] at h1 ⊢
    omega
theorem pack_bits {l : List Nat} {ys : List Int} (h : IsPack l (ys.map Int.toNat)) (k : Nat) (e : Bool) : (⟨ys, k, e⟩ : BS).bits = l ++ List.replicate (gap l.length) 0 := h.2
theorem pack_long {l : List Nat} {ys : List Int} (h : IsPack l (ys.map Int.toNat)) : 8 * ys.length = l.length + gap l.length := by
  have h1 := congrArg List.length h.2
  rw [ofB_len] at h1
  simpa using h1
theorem next_at {W : Ws} {xs : List Int} {ys : List Int} {d z v : Nat} (h : IsPack (bitsW W xs) (ys.map Int.toNat)) (hd : d < xs.length) (hf : found W (xs.getD d 0) = some (z, v)) (hv : v < 2 ^ z) :
    NextIs ⟨ys, (bitsW W (xs.take d)).length, false⟩ z v ∧ (bitsW W (xs.take (d + 1))).length = (bitsW W (xs.take d)).length + z := by
  have e1 : xs.take (d + 1) = xs.take d ++ [xs.getD d 0] := by
    rw [List.take_add_one, List.getElem?_eq_getElem hd]
    simp [List.getD_eq_getElem?_getD, List.getElem?_eq_getElem hd]
  have e2 : wb W (xs.getD d 0) = v := by unfold wb; rw [hf]; rfl
  have e3 : wz W (xs.getD d 0) = z := by unfold wz; rw [hf]; rfl
  have e4 : bitsW W (xs.take (d + 1)) = bitsW W (xs.take d) ++ tb v z := by rw [e1, bitsW_snoc, e2, e3]
  have e5 : bitsW W xs = bitsW W (xs.take d) ++ tb v z ++ bitsW W (xs.drop (d + 1)) := by
    rw [← e4]
    unfold bitsW
    rw [← List.flatMap_append, List.take_append_drop]
  refine ⟨⟨?_, ?_⟩, by rw [e4, List.length_append, tb_len]⟩
  · have := pack_long h
    rw [e5] at this
    simp only [List.length_append, tb_len] at this ⊢
    omega
  · rw [pack_bits h, e5]
    unfold piece
    simp only [List.append_assoc]
    rw [List.drop_append_of_le_length (Nat.le_refl _), List.drop_length, List.nil_append, List.take_append_of_le_length (by rw [tb_len]; exact Nat.le_refl _), List.take_of_length_le (by rw [tb_len]; exact Nat.le_refl _), num_tb, Nat.mod_eq_of_lt hv]
theorem num_zeros : ∀ n, num (List.replicate n 0) = 0
  | 0 => rfl
  | n + 1 => by rw [List.replicate_succ', num_snoc, num_zeros n]
theorem fin_zero {l : List Nat} {ys : List Int} (h : IsPack l (ys.map Int.toNat)) : (⟨ys, l.length, false⟩ : BS).fin = 0 := by
  have h1 := pack_long h
  have h2 : gap l.length < 8 := by unfold gap; omega
  unfold BS.fin
  simp only
  rw [if_neg (by simp)]
  rw [if_neg]
  rw [pack_bits h, h1]
  unfold piece
  rw [List.drop_append_of_le_length (Nat.le_refl _), List.drop_length, List.nil_append]
  rintro (h3 | h3)
  · omega
  · refine h3 ?_
    rw [List.take_replicate]
    exact num_zeros _
/-- Rows of cells of different types lie apart. -/
theorem own_apart {w : World} {base base' : Nat} {e e' : TypeId} {sz sz' n n' : Nat} {v v' : Value} {xs xs' : List Value} (h : w.ownsRow base e sz v n xs) (h' : w.ownsRow base' e' sz' v' n' xs') (hne : e ≠ e') : ∀ b, v.ownBlock = some b → v'.ownBlock ≠ some b := by
  intro b hb
  rcases h.2 with ⟨rfl, _⟩ | ⟨g, cap, cur, rfl, _, hh, _⟩
  · simp [Value.ownBlock] at hb
  · have : g = b := by simpa [Value.ownBlock] using hb
    subst this
    exact own_ne h' (t := e) (cs := cur) hh (Ne.symm hne)
/-- Numbers put so far: in a row of one's own, and by their words in a Writer. -/
structure Put (w wr : World) (g : Nat) (v vp : Value) (W : Ws) (xs : List Int) (d : Nat) : Prop where
  len : xs.length = d
  bw : Bw.IsBw w.heap.size g v (bitsW W xs) wr
  row : wr.ownsRow w.heap.size 3 1 vp d (iv xs)
  keeps : Keeps (fun _ => False) w wr
theorem Put.apart {w wr : World} {g d : Nat} {v vp : Value} {W : Ws} {xs : List Int} (h : Put w wr g v vp W xs d) : ∀ b, Bw.Its g v b → vp.ownBlock ≠ some b := by
  obtain ⟨ys, last, o, ha, _⟩ := h.bw
  rintro b (rfl | hb)
  · exact own_ne h.row ha.blk (by decide)
  · exact own_apart ha.own h.row (by decide) b hb
/-- The row has grown. -/
theorem Put.append {w wr w5 : World} {g d : Nat} {v vp v1 : Value} {W : Ws} {xs : List Int} (h : Put w wr g v vp W xs d) {x : Int} (hr : w5.ownsRow w.heap.size 3 1 v1 (d + 1) (iv (xs ++ [x]))) (k : Keeps (fun b => vp.ownBlock = some b) wr w5) :
    Bw.IsBw w.heap.size g v (bitsW W xs) w5 ∧ Keeps (fun _ => False) w w5 :=
  ⟨h.bw.keeps k (fun b hb e => h.apart b hb e), keeps_low h.keeps k (fun b hb => (h.row.lt b hb).1)⟩
/-- The Writer has moved. -/
theorem Put.put {w w5 w6 : World} {g d : Nat} {v v1 v' : Value} {W : Ws} {xs : List Int} {x : Int} (hl : xs.length = d) (hb : Bw.IsBw w.heap.size g v (bitsW W xs) w5) (hk : Keeps (fun _ => False) w w5) (hr : w5.ownsRow w.heap.size 3 1 v1 (d + 1) (iv (xs ++ [x]))) (hb' : Bw.IsBw w.heap.size g v' (bitsW W (xs ++ [x])) w6) (hm : Bw.Moves g v v' w5 w6) :
    Put w w6 g v' v1 W (xs ++ [x]) (d + 1) := by
  have ha : ∀ b, Bw.Its g v b → v1.ownBlock ≠ some b := by
    obtain ⟨ys, last, o, ha, _⟩ := hb
    rintro b (rfl | hb)
    · exact own_ne hr ha.blk (by decide)
    · exact own_apart ha.own hr (by decide) b hb
  exact ⟨by simp [hl], hb', own_keeps hr hm.keeps (fun b hb1 hb2 => ha b hb2 hb1), keeps_low hk hm.keeps (fun b hb1 => (hb.its b hb1).1)⟩
theorem posOf_pos {l : List (Int × Nat)} (h : l ≠ []) : 0 < posOf l := by
  cases l with
  | nil => exact absurd rfl h
  | cons a l =>
    have := Nat.two_pow_pos (20 - a.2)
    simp [posOf]
    omega
/-- Sizes of counts make entries that are right. -/
theorem err_none {L : List (Int × Nat)} (hr : L.Pairwise fun x y => x.1 < y.1) (hn : ∀ p ∈ L, -2147483647 ≤ p.1 ∧ p.1 ≤ 2147483647) (hz : ∀ p ∈ L, p.2 ≤ 20) (hp : posOf L ≤ 2 ^ 20) : ∀ i, i < (ints L).length → errAt (ints L) i = 0 := by
  intro i hi
  have hl : (ints L).length = L.length := by simp [ints]
  rw [hl] at hi
  have hg : ∀ j, (hj : j < L.length) → (ints L).getD j (0, 0) = (L[j].1, (L[j].2 : Int)) := fun j hj => by
    rw [List.getD_eq_getElem?_getD, List.getElem?_eq_getElem (by rw [hl]; exact hj)]
    simp [ints]
  have hm : L[i] ∈ L := List.getElem_mem hi
  have h1 := hn _ hm
  have h2 := hz _ hm
  unfold errAt entErr
  rw [hg i hi, hl]
  simp only
  rw [if_neg (by omega), if_neg ?_, if_neg ?_]
  · rintro ⟨h3, h4⟩
    rw [hg (i - 1) (by omega)] at h4
    simp only at h4
    have := List.pairwise_iff_getElem.1 hr (i - 1) i (by omega) hi (by omega)
    omega
  · rintro ⟨h3, h4⟩
    have e : L = L.take i ++ L[i] :: L.drop (i + 1) := by
      rw [← List.drop_eq_getElem_cons hi, List.take_append_drop]
    have h5 : posOf L = posOf (L.take i) + (2 ^ (20 - L[i].2) + posOf (L.drop (i + 1))) := by
      conv => lhs; rw [e]
      rw [posOf_app]
      rfl
    have h6 : L[i].2 = 0 := by omega
    rw [h6] at h5
    rcases Nat.eq_zero_or_pos i with h0 | h0
    · have := posOf_pos (l := L.drop (i + 1)) (fun e => by have := congrArg List.length e; rw [List.length_drop] at this; simp at this; omega)
      omega
    · have := posOf_pos (l := L.take i) (fun e => by have := congrArg List.length e; rw [List.length_take, Nat.min_eq_left (by omega)] at this; simp at this; omega)
      omega
/-- New of entries that sizes of counts make. -/
theorem new_ok (A : Option Addr) (n c : Nat) (L : List (Int × Nat)) (w : World) (hL : EntsAt w A L) (hl : L.length = n) (h1 : 1 ≤ n) (h2 : n ≤ 256) (hr : L.Pairwise fun x y => x.1 < y.1) (hn : ∀ p ∈ L, -2147483647 ≤ p.1 ∧ p.1 ≤ 2147483647) (hz : ∀ p ∈ L, p.2 ≤ 20) (hp : posOf L ≤ 2 ^ 20) :
    Calls Tryd.prog 5 #[.slice A n c] w fun r w' => (∃ p, r = .returned (.tuple #[.pointer (some ⟨p, 0, none⟩), .int .i64 0]) ∧ IsCode w.heap.size w' p (wordsOf L)) ∧ Keeps (fun _ => False) w w' := by
  have hli : (ints L).length = L.length := by simp [ints]
  refine (new_ A n c (ints L) w (by rw [gvs_ints]; exact hL) (by rw [hli]; exact hl) (by omega)).mono ?_
  rintro r w' ⟨ha, hk⟩
  have he := err_none hr hn hz hp
  refine ⟨?_, hk⟩
  rcases ha with ⟨h, _⟩ | ⟨_, i, hi, _, h3, _⟩ | ⟨_, _, h3, _⟩ | ⟨_, _, _, p, h3, h4⟩
  · rw [hli] at h
    omega
  · exact absurd (he i hi) h3
  · rw [nats_ints'] at h3
    omega
  · rw [nats_ints'] at h4
    exact ⟨p, h3, h4⟩
end Go.Proofs.YtaamnbminmcbpaaDoor.Hb

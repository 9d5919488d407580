/- What sizes and words of counts are good for, plain data alone: the line is full; a commoner number has no longer word; no word is another one's beginning. -/
import Derived.Test.YtaamnbminmcbpaaDoorHufWords
import Derived.Lib.Bytes
namespace Go.Proofs.YtaamnbminmcbpaaDoor.Hx
open Go.RowKit Go.Shelf Go.Lib Go.Sort Go.Proofs.YtaamnbminmcbpaaDoor.Gen Go.Proofs.YtaamnbminmcbpaaDoor.Mp Go.Proofs.YtaamnbminmcbpaaDoor.Hr Go.Proofs.YtaamnbminmcbpaaDoor.Hp Go.Proofs.YtaamnbminmcbpaaDoor.Hs Go.Proofs.YtaamnbminmcbpaaDoor.Hf Go.Proofs.YtaamnbminmcbpaaDoor.Hz Go.Proofs.YtaamnbminmcbpaaDoor.Hc Go.Proofs.YtaamnbminmcbpaaDoor.Ln Go.Proofs.YtaamnbminmcbpaaDoor.Bp Go.Proofs.YtaamnbminmcbpaaDoor.Hw

theorem zip_mem {α β : Type} {l : List α} {m : List β} {a : α} {b : β} (d : β) (h : (a, b) ∈ l.zip m) (hl : m.length = l.length) : ∃ i, ∃ hi : i < l.length, l[i] = a ∧ m.getD i d = b := by
  obtain ⟨i, hi, e⟩ := List.getElem_of_mem h
  rw [List.getElem_zip] at e
  rw [List.length_zip] at hi
  injection e with e1 e2
  refine ⟨i, by omega, e1, ?_⟩
  rw [List.getD_eq_getElem?_getD, List.getElem?_eq_getElem (by omega)]
  exact e2
theorem commoner {m L : List (Int × Nat)} (h : SizesAre m L) {a b : Int} {x y : Nat} (ha : (a, x) ∈ L) (hb : (b, y) ∈ L) (hc : cnt m b < cnt m a) : x ≤ y := by
  obtain ⟨N, _, hs, hp⟩ := h.ex
  have hl : (sizes (N.map (cnt m))).length = N.length := by rw [sizes_length, List.length_map]
  obtain ⟨i, hi, e1, e2⟩ := zip_mem 0 (hp.subset ha) hl
  obtain ⟨j, hj, f1, f2⟩ := zip_mem 0 (hp.subset hb) hl
  rw [← e2, ← f2]
  refine sizes_anti _ ?_ (by rw [List.length_map]; exact hi)
  rcases Nat.lt_or_ge i j with hij | hij
  · have := List.pairwise_iff_getElem.1 hs i j hi hj hij
    rw [e1, f1] at this
    omega
  · exact hij
theorem sizes_small {m L : List (Int × Nat)} (h : SizesAre m L) : ∀ p ∈ L, p.2 ≤ 20 := by
  obtain ⟨N, _, hs, hp⟩ := h.ex
  intro p hpL
  have h2 : p.2 ∈ sizes (N.map (cnt m)) := (List.of_mem_zip (hp.subset hpL)).2
  exact sizes_le _ _ h2
theorem sizes_room {m L : List (Int × Nat)} (h : SizesAre m L) (h0 : 0 < m.length) (h1 : m.length ≤ 256) : posOf L = 2 ^ 20 := by
  obtain ⟨N, hN, hs, hp⟩ := h.ex
  have hl : (sizes (N.map (cnt m))).length = N.length := by rw [sizes_length, List.length_map]
  have hNl : N.length = m.length := by rw [hN.length_eq, List.length_map]
  have hw : (N.map (cnt m)).Pairwise (· ≤ ·) := List.pairwise_map.2 hs
  have hk := sizes_kraft (N.map (cnt m)) hw (by rw [List.length_map]; omega) (by rw [List.length_map]; omega)
  rw [posOf_perm hp]
  unfold posOf
  have e : ((N.zip (sizes (N.map (cnt m)))).map fun p => 2 ^ (20 - p.2)) = (((N.zip (sizes (N.map (cnt m)))).map (·.2)).map fun s => 2 ^ (20 - s)) := by rw [List.map_map]; rfl
  rw [e, List.map_snd_zip (by omega)]
  exact hk
theorem keys_nodup {m L : List (Int × Nat)} (h : SizesAre m L) : (L.map (·.1)).Nodup := by
  rw [List.Nodup, List.pairwise_map]
  exact h.rise.imp fun {a b} hab => by omega
theorem keys_from {m L : List (Int × Nat)} (h : SizesAre m L) : ∀ p ∈ L, ∃ q ∈ m, q.1 = p.1 := by
  obtain ⟨N, hN, hs, hp⟩ := h.ex
  intro p hpL
  have h2 : p.1 ∈ N := (List.of_mem_zip (hp.subset hpL)).1
  have := hN.subset h2
  rw [List.mem_map] at this
  exact this
theorem words_mem {L : List (Int × Nat)} {t : Int × Nat × Nat} (h : t ∈ wordsOf L) : (t.1, t.2.1) ∈ L := by
  have h1 : (t.1, t.2.1) ∈ line L 21 := by
    rw [← asg_keys 0 (line L 21)]
    exact List.mem_map.2 ⟨t, h, rfl⟩
  exact (line_mem.1 h1).1
theorem words_len {L : List (Int × Nat)} (h : ∀ p ∈ L, p.2 ≤ 20) : (wordsOf L).length = L.length := by
  have h1 := congrArg List.length (asg_keys 0 (line L 21))
  rw [List.length_map] at h1
  rw [wordsOf, h1]
  exact (line_perm h).length_eq
theorem bit_inj {us vs : List Nat} (hu : ∀ b ∈ us, b < 2) (hv : ∀ b ∈ vs, b < 2) (h : (strOfNums (Bq.ib us)).toList = (strOfNums (Bq.ib vs)).toList) : us = vs := by
  have h1 : ∀ l : List Nat, (∀ b ∈ l, b < 2) → ((Bq.ib l).map (fun n => UInt8.ofNat n.toNat)).map UInt8.toNat = l := by
    intro l hl
    simp only [Bq.ib, List.map_map]
    conv => rhs; rw [← List.map_id l]
    refine List.map_congr_left fun b hb => ?_
    have := hl b hb
    simp only [Function.comp_def, id, Int.toNat_natCast]
    rw [UInt8.toNat_ofNat']
    omega
  rw [Lib.strOfNums_toList, Lib.strOfNums_toList] at h
  rw [← h1 us hu, ← h1 vs hv]
  exact congrArg (List.map UInt8.toNat) h
/-- No word's bits are the first of another one's. -/
theorem not_begun {L : List (Int × Nat)} (h : ∀ p ∈ L, p.2 ≤ 20) (hf : posOf L ≤ 2 ^ 20) {a b : Int × Nat × Nat} (ha : a ∈ wordsOf L) (hb : b ∈ wordsOf L) (hne : a.1 ≠ b.1) (hz : a.2.1 ≤ b.2.1) :
    (strOfNums (Bq.ib (tb a.2.2 a.2.1))).toList ≠ (strOfNums ((Bq.ib (tb b.2.2 b.2.1)).take a.2.1)).toList := by
  intro e
  have e2 : (Bq.ib (tb b.2.2 b.2.1)).take a.2.1 = Bq.ib ((tb b.2.2 b.2.1).take a.2.1) := by simp [Bq.ib, List.map_take]
  rw [e2] at e
  exact apart h hf ha hb (fun e => hne (by rw [e])) hz (bit_inj (tb_bit _ _) (fun x hx => tb_bit _ _ x (List.mem_of_mem_take hx)) e)
end Go.Proofs.YtaamnbminmcbpaaDoor.Hx

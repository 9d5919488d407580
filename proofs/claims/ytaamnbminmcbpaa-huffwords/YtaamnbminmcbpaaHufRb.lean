/- Bytes out of bits, by the answers' own function. At most 1000 bits. -/
import Derived.Test.YtaamnbminmcbpaaBitRef
import Derived.Test.YtaamnbminmcbpaaBitWr
import Derived.BigRegion
namespace Go.Proofs.Ytaamnbminmcbpaa.Rb
open Go.RowKit Go.Proofs.Ytaamnbminmcbpaa.Gen Go.Proofs.Ytaamnbminmcbpaa.Cl Go.Proofs.Ytaamnbminmcbpaa.Bp Go.Proofs.Ytaamnbminmcbpaa.Bq Go.Proofs.Ytaamnbminmcbpaa.Bw

/-- The first d bits, noughts behind, as many as m bytes have. -/
def upto (l : List Nat) (m d : Nat) : List Nat := l.take d ++ List.replicate (8 * m - d) 0
/-- Each eight of them as a number. -/
def chunks (L : List Nat) (m : Nat) : List Nat := (List.range m).map fun q => num (piece L (8 * q) 8)
theorem upto_len {l : List Nat} {m d : Nat} (hd : d ≤ l.length) (hm : l.length ≤ 8 * m) : (upto l m d).length = 8 * m := by simp [upto]; omega
theorem upto_bit {l : List Nat} (hb : ∀ b ∈ l, b < 2) (m d : Nat) : ∀ b ∈ upto l m d, b < 2 := by
  intro b h
  rcases List.mem_append.1 h with h | h
  · exact hb b (List.mem_of_mem_take h)
  · rw [(List.mem_replicate.1 h).2]; omega
theorem upto_zero (l : List Nat) (m : Nat) : upto l m 0 = List.replicate (8 * m) 0 := by simp [upto]
theorem upto_next {l : List Nat} {m d : Nat} (hd : d < l.length) (hm : l.length ≤ 8 * m) : ∃ v, upto l m d = l.take d ++ 0 :: v ∧ upto l m (d + 1) = l.take d ++ l.getD d 0 :: v := by
  refine ⟨List.replicate (8 * m - (d + 1)) 0, ?_, ?_⟩
  · unfold upto
    rw [show 8 * m - d = (8 * m - (d + 1)) + 1 by omega, List.replicate_succ]
  · unfold upto
    rw [← List.take_append_getElem hd, List.getD_eq_getElem?_getD, List.getElem?_eq_getElem hd, List.append_assoc]
    rfl
theorem num_mid (u v : List Nat) (hv : ∀ b ∈ v, b < 2) (x : Nat) (hx : x < 2) : num (u ++ x :: v) = num (u ++ 0 :: v) + x * 2 ^ v.length := by
  have h1 : ∀ y, y < 2 → num (u ++ y :: v) = (num u * 2 + y) * 2 ^ v.length + num v := by
    intro y hy
    have e : u ++ y :: v = (u ++ [y]) ++ v := by simp
    rw [e, num_app _ _ hv, num_snoc]
  rw [h1 x hx, h1 0 (by omega), Nat.add_mul, Nat.add_mul]
  omega
theorem piece_at {u v : List Nat} {x q : Nat} (h1 : 8 * q ≤ u.length) (h2 : u.length < 8 * q + 8) : piece (u ++ x :: v) (8 * q) 8 = u.drop (8 * q) ++ x :: v.take (7 - (u.length - 8 * q)) := by
  unfold piece
  rw [List.drop_append_of_le_length h1, List.take_append, List.take_of_length_le (by rw [List.length_drop]; omega), List.length_drop]
  congr 1
  rw [show 8 - (u.length - 8 * q) = (7 - (u.length - 8 * q)) + 1 by omega, List.take_succ_cons]
theorem piece_off {u v : List Nat} {x y q : Nat} (h : u.length < 8 * q ∨ 8 * q + 8 ≤ u.length) : piece (u ++ x :: v) (8 * q) 8 = piece (u ++ y :: v) (8 * q) 8 := by
  unfold piece
  rcases h with h | h
  · rw [List.drop_append, List.drop_append, List.drop_of_length_le (by omega)]
    obtain ⟨k, hk⟩ : ∃ k, 8 * q - u.length = k + 1 := ⟨8 * q - u.length - 1, by omega⟩
    rw [hk, List.drop_succ_cons, List.drop_succ_cons]
  · rw [List.drop_append_of_le_length (by omega), List.drop_append_of_le_length (by omega), List.take_append_of_le_length (by rw [List.length_drop]; omega), List.take_append_of_le_length (by rw [List.length_drop]; omega)]
theorem chunks_len (L : List Nat) (m : Nat) : (chunks L m).length = m := by simp [chunks]
theorem chunks_next {l : List Nat} {m d : Nat} (hb : ∀ b ∈ l, b < 2) (hd : d < l.length) (hm : l.length ≤ 8 * m) :
    chunks (upto l m (d + 1)) m = (chunks (upto l m d) m).set (d / 8) ((chunks (upto l m d) m).getD (d / 8) 0 + l.getD d 0 * 2 ^ (7 - d % 8)) := by
  obtain ⟨v, e1, e2⟩ := upto_next hd hm
  have hlt : (l.take d).length = d := by rw [List.length_take]; omega
  have hvb : ∀ b ∈ v, b < 2 := fun b h => upto_bit hb m d b (by rw [e1]; simp [h])
  have hvl : d + 1 + v.length = 8 * m := by
    have := upto_len (l := l) (m := m) (d := d) (by omega) hm
    rw [e1] at this
    simp at this
    omega
  have hxb : l.getD d 0 < 2 := hb _ (by rw [List.getD_eq_getElem?_getD, List.getElem?_eq_getElem hd]; exact List.getElem_mem hd)
  apply List.ext_getElem?
  intro q
  rw [List.getElem?_set]
  by_cases hq : q < m
  · have g1 : (chunks (upto l m (d + 1)) m)[q]? = some (num (piece (upto l m (d + 1)) (8 * q) 8)) := by simp [chunks, hq]
    have g2 : (chunks (upto l m d) m)[q]? = some (num (piece (upto l m d) (8 * q) 8)) := by simp [chunks, hq]
    rw [g1]
    by_cases hqd : d / 8 = q
    · rw [if_pos hqd, if_pos (by rw [chunks_len]; omega)]
      rw [hqd, List.getD_eq_getElem?_getD, g2, Option.getD_some, e1, e2, piece_at (by omega) (by omega), piece_at (by omega) (by omega), num_mid _ _ (fun b h => hvb b (List.mem_of_mem_take h)) _ hxb, hlt, List.length_take]
      have e7 : min (7 - (d - 8 * q)) v.length = 7 - d % 8 := by omega
      rw [e7]
    · rw [if_neg hqd, g2, e1, e2, piece_off (x := l.getD d 0) (y := 0) (by rw [hlt]; omega)]
  · rw [List.getElem?_eq_none (by rw [chunks_len]; omega), List.getElem?_eq_none (by rw [chunks_len]; omega)]
    split
    · rw [if_neg (by rw [chunks_len]; omega)]
    · rfl
theorem chunks_bits {L : List Nat} (hb : ∀ b ∈ L, b < 2) : ∀ m, 8 * m ≤ L.length → ofB (chunks L m) = L.take (8 * m)
  | 0, _ => by simp [chunks, ofB]
  | m + 1, h => by
    have e : chunks L (m + 1) = chunks L m ++ [num (piece L (8 * m) 8)] := by simp [chunks, List.range_succ]
    rw [e, ofB_app, chunks_bits hb m (by omega), show 8 * (m + 1) = 8 * m + 8 by omega, List.take_add]
    congr 1
    have := (tb_num 8 (piece L (8 * m) 8) (piece_len (by omega)) (piece_bit hb _ _)).1
    simpa [ofB, piece] using this
theorem chunks_byte {L : List Nat} (hb : ∀ b ∈ L, b < 2) {m : Nat} (hm : 8 * m ≤ L.length) : ∀ x ∈ chunks L m, x < 256 := by
  intro x hx
  simp only [chunks, List.mem_map, List.mem_range] at hx
  obtain ⟨q, hq, rfl⟩ := hx
  exact (tb_num 8 (piece L (8 * q) 8) (piece_len (by omega)) (piece_bit hb _ _)).2
theorem chunks_pack {l : List Nat} (hb : ∀ b ∈ l, b < 2) {m : Nat} (h1 : l.length ≤ 8 * m) (h2 : 8 * m < l.length + 8) : IsPack l (chunks (upto l m l.length) m) := by
  have hl := upto_len (l := l) (m := m) (Nat.le_refl _) h1
  refine ⟨chunks_byte (upto_bit hb _ _) (by omega), ?_⟩
  rw [chunks_bits (upto_bit hb _ _) m (by omega), List.take_of_length_le (by omega), upto, List.take_of_length_le (Nat.le_refl _)]
  congr 2
  unfold gap
  omega
theorem set_bv (xs : List Nat) (q x : Nat) : (bv (ib xs)).toArray.setIfInBounds q (.int .u8 (x : Int)) = (bv (ib (xs.set q x))).toArray := by
  simp [bv, ib, List.map_set]
theorem rbytes_ (A : Option Addr) (n c : Nat) (l : List Nat) (w : World) (hx : l.length = n) (hl : Lies w A (ib l)) (hb : ∀ b ∈ l, b < 2) (hn : n ≤ 1000) :
    Calls Try.prog 18 #[.slice A n c] w (Packed w.heap.size l w) := by
  obtain ⟨m, hm⟩ : ∃ m, m = (n + 7) / 8 := ⟨_, rfl⟩
  have hmk := fun w => make_bytes m (by omega) w
  have hmi : ((n : Int) + 7) / 8 = (m : Int) := by omega
  have hmt : Int.tdiv ((n : Int) + 7) 8 = (m : Int) := by rw [Int.tdiv_eq_ediv_of_nonneg (by omega)]; exact hmi
  have HX := Lib.hid hx
  have HL := Lib.hid hl
  have HB := Lib.hid hb
  have hm1 : n ≤ 8 * m := by omega
  have hm2 : 8 * m < n + 8 := by omega
  clear hx hl hb hm
  go_enter Try.func18, Try.ntmps18
  go_wp2
  clear hmk
  go_loopw [4] (fun i wr => ∃ d : Nat, d ≤ n ∧ i = .int .i64 (d : Int) ∧ Blk wr w.heap.size 5 (bv (ib (chunks (upto l m d) m))).toArray ∧ Keeps (fun _ => False) w wr) (fun i _ => n - (intOf i).toNat)
  case atStart =>
    refine ⟨0, by omega, rfl, ?_, (Keeps.refl _ _).alloc _⟩
    have e : chunks (upto l m 0) m = List.replicate m 0 := by
      rw [upto_zero]
      refine List.ext_getElem? fun q => ?_
      by_cases hq : q < m
      · have : num (piece (List.replicate (8 * m) 0) (8 * q) 8) = 0 := by
          unfold piece
          rw [List.drop_replicate, List.take_replicate]
          generalize min 8 (8 * m - 8 * q) = k
          induction k with
          | zero => rfl
          | succ k ih => rw [List.replicate_succ', num_snoc, ih]
        simp [chunks, hq, this]
      · rw [List.getElem?_eq_none (by rw [chunks_len]; omega), List.getElem?_eq_none (by simp; omega)]
    rw [e]
    exact Blk.new w 5 _
  case round =>
    obtain ⟨d, hd, rfl, hbl, hk⟩ := hrel
    have HBL := Lib.hid hbl
    have HK := Lib.hid hk
    clear hbl hk
    by_cases hlt : d < n
    · have hdl : d < l.length := by rw [HX.out]; exact hlt
      obtain ⟨bt, hbt⟩ : ∃ bt, bt = l.getD d 0 := ⟨_, rfl⟩
      have hb2 : bt < 2 := by rw [hbt]; exact HB.out _ (by rw [List.getD_eq_getElem?_getD, List.getElem?_eq_getElem hdl]; exact List.getElem_mem hdl)
      obtain ⟨ob, oo, rfl, hco⟩ : ∃ ob oo, A = some ⟨ob, oo, none⟩ ∧ wr.cell? ⟨ob, oo + d, none⟩ = some (.int .u8 (bt : Int)) := by
        rcases HL.out.keeps HK.out (fun _ _ _ => id) with h | ⟨b, o, h1, _, h2⟩
        · have h3 : l.length = 0 := by
            have h3 := congrArg List.length h
            rw [ib_len] at h3
            exact h3
          omega
        · refine ⟨b, o, h1, ?_⟩
          rw [h2 d (by rw [ib_len]; exact hdl)]
          congr 2
          rw [hbt]
          simp [ib, List.getD_eq_getElem?_getD, List.getElem?_eq_getElem hdl]
      obtain ⟨q, hq⟩ : ∃ q, q = d / 8 := ⟨_, rfl⟩
      obtain ⟨rm, hrm⟩ : ∃ rm, rm = d % 8 := ⟨_, rfl⟩
      obtain ⟨r, hr⟩ : ∃ r, r = 7 - rm := ⟨_, rfl⟩
      have hqm : q < m := by omega
      obtain ⟨x, hx⟩ : ∃ x, x = (chunks (upto l m d) m).getD q 0 := ⟨_, rfl⟩
      obtain ⟨y, hy⟩ : ∃ y, y = bt * 2 ^ r := ⟨_, rfl⟩
      have HNX : Hid (chunks (upto l m (d + 1)) m = (chunks (upto l m d) m).set q (x + y)) := by
        show _ = _
        rw [chunks_next HB.out hdl (by rw [HX.out]; exact hm1), hx, hy, hbt, hr, hrm, hq]
      have hxy : x + y < 256 := by
        have h1 : x + y ∈ chunks (upto l m (d + 1)) m := by
          rw [HNX.out]
          exact List.mem_set (by rw [chunks_len]; exact hqm) _
        exact chunks_byte (upto_bit HB.out _ _) (by rw [upto_len (by omega) (by rw [HX.out]; exact hm1)]; exact Nat.le_refl _) _ h1
      have hcq : wr.cell? ⟨w.heap.size, q, none⟩ = some (.int .u8 (x : Int)) := by
        rw [HBL.out.cell, List.getElem?_toArray, bv_at (by rw [ib_len, chunks_len]; exact hqm), hx]
        congr 2
        have hq2 : q < (chunks (upto l m d) m).length := by rw [chunks_len]; exact hqm
        simp [ib, List.getD_eq_getElem?_getD, List.getElem?_eq_getElem hq2]
      have hfq := HBL.out.frozen q
      have HSE : Hid (Blk (wr.setCell ⟨w.heap.size, q, none⟩ (.int .u8 ((x : Int) + (y : Int)))) w.heap.size 5 (bv (ib (chunks (upto l m (d + 1)) m))).toArray) := by
        have h1 := HBL.out.setCell q (.int .u8 ((x + y : Nat) : Int))
        rw [set_bv, ← HNX.out] at h1
        show Blk _ _ _ _
        simpa using h1
      have HKS := Lib.hid (HK.out.setCell (p := ⟨w.heap.size, q, none⟩) (.inr (Nat.le_refl _)) (.int .u8 ((x : Int) + (y : Int))))
      have hqi : (d : Int) / 8 = (q : Int) := by omega
      have hqt : Int.tdiv (d : Int) 8 = (q : Int) := by rw [Int.tdiv_eq_ediv_of_nonneg (by omega)]; exact hqi
      have hri : (d : Int) % 8 = (rm : Int) := by omega
      have hrt : Int.tmod (d : Int) 8 = (rm : Int) := by rw [Int.tmod_eq_emod_of_nonneg (by omega)]; exact hri
      have hr7 : 7 - (rm : Int) = (r : Int) := by omega
      have hrr : r ≤ 7 := by omega
      have hwr : IntKind.i64.wrap (r : Int) = (r : Int) := by rw [IntKind.wrap_i64]; omega
      have hyi : (bt : Int) * 2 ^ r = (y : Int) := by rw [hy]; simp
      have hyw : IntKind.u8.wrap (y : Int) = (y : Int) := by simp [IntKind.wrap, IntKind.bits, IntKind.signed]; omega
      have hym : (y : Int) % 256 = (y : Int) := by omega
      have hqi2 : (q : Int) < (m : Int) := by omega
      have hdi : (d : Int) < (n : Int) := by omega
      clear hbt hq hrm hr hx hy hdl
      go_wp2_with fail
      go_big_region
      all_goals go_wp2
      exact ⟨⟨d + 1, by omega, by go_num, HSE.out.drewN 1, HKS.out.drewN 1⟩, by simp [intOf]; omega⟩
    · obtain rfl : d = n := by omega
      go_wp2
      go_ret
      have hp : IsPack l (chunks (upto l m d) m) := by
        have := chunks_pack (l := l) HB.out (m := m) (by rw [HX.out]; exact hm1) (by rw [HX.out]; exact hm2)
        rw [HX.out] at this
        exact this
      have e : (ib (chunks (upto l m d) m)).map Int.toNat = chunks (upto l m d) m := by simp [ib, Function.comp_def]
      refine ⟨_, _, ib (chunks (upto l m d) m), m, by rw [ib_len, chunks_len], rfl, by rw [e]; exact hp, ?_, ?_, HK.out⟩
      · intro y hy
        simp only [ib, List.mem_map] at hy
        obtain ⟨x, hx, rfl⟩ := hy
        have := hp.1 x hx
        omega
      · refine ⟨by rw [bv_len, ib_len, chunks_len]; omega, .inr ⟨_, _, _, rfl, Nat.le_refl _, HBL.out, Nat.le_refl _, by simp only [maxLen]; omega, by simp [bv_len, ib_len, chunks_len], ?_⟩⟩
        rw [List.take_of_length_le (by simp [bv_len, ib_len, chunks_len])]
end Go.Proofs.Ytaamnbminmcbpaa.Rb

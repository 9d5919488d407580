/- A block, or the row of bits, cut short: plain facts of LensShort. Names no function of the program. -/
/- quill.New, Row, Blocks, Block; a nil Quill. No conditions. -/
import Derived.Test.YtgaofnmgdefdcaaGreatDoorJLnActLnArr
import Derived.Test.YtgaofnmgdefdcaaGreatDoorQlArr
import Derived.Test.YtgaofnmgdefdcaaGreatDoorJDsAnyDsBack
import Derived.Test.YtgaofnmgdefdcaaGreatDoorJQlFindQlInto
import Derived.Test.YtgaofnmgdefdcaaGreatDoorJQlIntLnNext
import Derived.Test.YtgaofnmgdefdcaaGreatDoorJQlStpQlSrt

namespace Go.Proofs.YtgaofnmgdefdcaaGreatDoor.Le
open Go.RowKit Go.Proofs.YtgaofnmgdefdcaaGreatDoor.Gen Go.Proofs.YtgaofnmgdefdcaaGreatDoor.Hu Go.Proofs.YtgaofnmgdefdcaaGreatDoor.Mp Go.Proofs.YtgaofnmgdefdcaaGreatDoor.Cm Go.Proofs.YtgaofnmgdefdcaaGreatDoor.Hr Go.Proofs.YtgaofnmgdefdcaaGreatDoor.Hn Go.Proofs.YtgaofnmgdefdcaaGreatDoor.Hk Go.Proofs.YtgaofnmgdefdcaaGreatDoor.Ln Go.Proofs.YtgaofnmgdefdcaaGreatDoor.Ds Go.Proofs.YtgaofnmgdefdcaaGreatDoor.Ky Go.Proofs.YtgaofnmgdefdcaaGreatDoor.Wr Go.Proofs.YtgaofnmgdefdcaaGreatDoor.Ir Go.Proofs.YtgaofnmgdefdcaaGreatDoor.Ib Go.Proofs.YtgaofnmgdefdcaaGreatDoor.Br Go.Proofs.YtgaofnmgdefdcaaGreatDoor.Bp Go.Proofs.YtgaofnmgdefdcaaGreatDoor.Qh Go.Proofs.YtgaofnmgdefdcaaGreatDoor.Qs Go.Proofs.YtgaofnmgdefdcaaGreatDoor.Qf Go.Proofs.YtgaofnmgdefdcaaGreatDoor.Qc Go.Proofs.YtgaofnmgdefdcaaGreatDoor.It Go.Proofs.YtgaofnmgdefdcaaGreatDoor.Qi Go.Proofs.YtgaofnmgdefdcaaGreatDoor.Qu

theorem fail_bad {s : RS} (h : s.e ≠ 0) (e : Int) : s.fail e = s := by simp [RS.fail, h]
theorem five_bad {n : Int} {f : Nat} {s : RS} (h : s.e = 3) : (five (n, f, s)).2.e = 3 := by
  have h0 : s.e ≠ 0 := by rw [h]; decide
  unfold five
  simp only
  split
  · rw [needs_bad s _ _ h0]
    exact h
  · split
    · simp only
      rw [fail_bad h0]
      exact h
    · rw [needs_bad s _ _ h0]
      exact h
/-- The first byte of a number tells how many follow. -/
theorem enc_head {n : Int} (h0 : 0 ≤ n) (h1 : n < 4294967296) : ∃ b, (encInt n)[0]? = some b ∧ (encInt n).length = 1 + min (lead b) 4 := by
  by_cases hs : n < 268435456
  · have hf := (foll_int n).2 hs
    rw [show encInt n = enc n (foll n) by simp [encInt, hs]]
    refine ⟨onesOf (foll n) + n / 256 ^ foll n, rfl, ?_⟩
    rw [foll_lead n h0 (by omega), enc_len]
    omega
  · rw [show encInt n = enc (n / 16 * 256 + n % 16) 4 by simp [encInt, hs]]
    have hq : (n / 16 * 256 + n % 16) / 256 ^ 4 < 2 ^ (8 - 4) := by simp; omega
    have hl := (mod_of (f := 4) (by omega) (Int.ediv_nonneg (show 0 ≤ n / 16 * 256 + n % 16 by omega) (by decide)) hq).2.1
    refine ⟨onesOf 4 + (n / 16 * 256 + n % 16) / 256 ^ 4, rfl, ?_⟩
    rw [enc_len]
    omega
/-- A number of which bytes are missing. -/
theorem int_cut {all rest : List Int} {k K : Nat} {n : Int} (h : all.drop k = encInt n ++ rest) (h0 : 0 ≤ n) (h1 : n < 4294967296) (hk : k ≤ K) (hK : K < k + (encInt n).length) : (RS.int ⟨all.take K, k, 0⟩).2.e = 3 := by
  have hlen := congrArg List.length h
  simp only [List.length_drop, List.length_append] at hlen
  have hl : (all.take K).length = K := by rw [List.length_take]; omega
  unfold RS.int
  obtain ⟨b, hb, hn⟩ := enc_head h0 h1
  rcases Nat.lt_or_ge k K with hlt | hge
  · have hb2 : (all.take K)[k]? = some b := by
      rw [List.getElem?_take_of_lt hlt]
      have := at_drop h 0
      rw [Nat.add_zero] at this
      rw [this, List.getElem?_append_left (by rw [hn]; omega)]
      exact hb
    have hno := num_no hb2 (most := 4) rfl (by rw [hl]; omega)
    rcases hq : RS.num ⟨all.take K, k, 0⟩ 4 with ⟨x, f, s⟩
    rw [hq] at hno
    simp only [Prod.mk.injEq] at hno
    exact five_bad (by rw [hno.2])
  · have hby : (⟨all.take K, k, 0⟩ : RS).byte = (0, ⟨all.take K, k, 3⟩) := by
      unfold RS.byte
      rw [if_pos rfl, if_neg (by simp only [hl]; omega)]
    have hg : (RS.num ⟨all.take K, k, 0⟩ 4).2.2 = ⟨all.take K, k, 3⟩ := by
      unfold RS.num
      simp only [hby]
      exact gath_bad (show (3 : Int) ≠ 0 by decide) _ _
    rcases hq : RS.num ⟨all.take K, k, 0⟩ 4 with ⟨x, f, s⟩
    rw [hq] at hg
    simp only at hg
    exact five_bad (by rw [hg])
/-- Numbers' bytes, one behind the other. -/
def cat (v : Nat → Int) : Nat → List Int
  | 0 => []
  | j + 1 => cat v j ++ encInt (sg (v j))
theorem cat_split (v : Nat → Int) (j : Nat) : ∀ n, j < n → ∃ r, cat v n = cat v j ++ (encInt (sg (v j)) ++ r)
  | 0, h => by omega
  | n + 1, h => by
    by_cases hj : j = n
    · subst hj
      exact ⟨[], by simp [cat]⟩
    · obtain ⟨r, hr⟩ := cat_split v j n (by omega)
      exact ⟨r ++ encInt (sg (v n)), by simp [cat, hr]⟩
theorem cat_len (v : Nat → Int) : ∀ j, j ≤ (cat v j).length ∧ (cat v j).length ≤ 5 * j
  | 0 => by simp [cat]
  | j + 1 => by
    have h1 := cat_len v j
    have h2 := encInt_len (sg (v j))
    simp only [cat, List.length_append]
    omega
theorem cat_mono (v : Nat → Int) : ∀ {i j : Nat}, i ≤ j → (cat v i).length ≤ (cat v j).length
  | i, 0, h => by rw [show i = 0 by omega]; exact Nat.le_refl _
  | i, j + 1, h => by
    by_cases hi : i = j + 1
    · rw [hi]; exact Nat.le_refl _
    · have h1 := cat_mono v (show i ≤ j by omega)
      simp only [cat, List.length_append]
      omega
theorem cat_byte (v : Nat → Int) (hv : ∀ i, -2147483648 ≤ v i ∧ v i ≤ 2147483647) : ∀ j, ∀ x ∈ cat v j, 0 ≤ x ∧ x < 256
  | 0 => by simp [cat]
  | j + 1 => by
    intro x hx
    simp only [cat, List.mem_append] at hx
    obtain ⟨_, s2, s3⟩ := sign_sg (hv j).1 (hv j).2
    rcases hx with hx | hx
    · exact cat_byte v hv j x hx
    · exact encInt_byte s2 s3 x hx
/-- A number of the block 5 of which there are K bytes. -/
theorem out_short {v : Nat → Int} (hv : ∀ i, -2147483647 ≤ v i ∧ v i ≤ 2147483647) {N j K : Nat} (hj : j < N) (hK : K ≤ (cat v N).length) (ha : (cat v j).length ≤ K) {s s' : BS} {G G' : Rs} {n e : Int} (h : WithinR ⟨1, 5, [], 0, 0⟩ s G 0 (-2147483647) 2147483647 n e s' G') (hG : G 5 = some ⟨(cat v N).take K, (cat v j).length, 0⟩) :
    ((cat v (j + 1)).length ≤ K ∧ n = v j ∧ e = 0 ∧ G' 5 = some ⟨(cat v N).take K, (cat v (j + 1)).length, 0⟩ ∧ s' = s) ∨ (K < (cat v (j + 1)).length ∧ e = 3) := by
  have hck : chkI ⟨1, 5, [], 0, 0⟩ = 0 := by decide
  obtain ⟨r, hr⟩ := cat_split v j N hj
  obtain ⟨s1, s2, s3⟩ := sign_sg (n := v j) (by have := hv j; omega) (hv j).2
  have hd : (cat v N).drop (cat v j).length = encInt (sg (v j)) ++ r := by rw [hr]; simp
  have hln : (cat v (j + 1)).length = (cat v j).length + (encInt (sg (v j))).length := by simp [cat]
  rcases h with ⟨h0, _⟩ | ⟨_, sz, ⟨m, e1, hn, hc⟩, hs⟩
  · exact absurd rfl h0
  rcases hn with ⟨h0, _⟩ | ⟨_, _, h1, h2⟩ | ⟨_, h3, _⟩ | ⟨_, h3, _⟩
  · exact absurd hck h0
  · unfold OutR at h2
    rw [show (⟨1, 5, [], 0, 0⟩ : D).B.toNat = 5 from rfl, hG] at h2
    simp only at h2
    obtain ⟨h4, h5, h6⟩ := h2
    by_cases hq : (cat v (j + 1)).length ≤ K
    · have hd2 : ((cat v N).take K).drop (cat v j).length = encInt (sg (v j)) ++ r.take (K - (cat v (j + 1)).length) := by
        rw [List.drop_take, hd, List.take_append]
        rw [List.take_of_length_le (by omega)]
        congr 2
        omega
      rw [int_back hd2 s2 s3] at h4 h5 h6
      simp only at h4 h5 h6
      have hm : m = v j := h4.trans s1
      subst h5
      rcases hc with ⟨h, _⟩ | ⟨_, h, _⟩ | ⟨_, _, _, h8, h9⟩
      · exact absurd rfl h
      · have := hv j
        omega
      · refine .inl ⟨hq, h8.trans hm, h9, ?_, ?_⟩
        · rw [h6, ← hln]
          exact if_pos rfl
        · rw [hs, h9, h1]
          rfl
    · have he := int_cut hd s2 s3 ha (by omega)
      rw [he] at h5
      subst h5
      rcases hc with ⟨_, _, h⟩ | ⟨h, _⟩ | ⟨h, _⟩
      · exact .inr ⟨by omega, h⟩
      · exact absurd h (by decide)
      · exact absurd h (by decide)
  · exact absurd h3 (by decide)
  · exact absurd h3 (by decide)
theorem bits_at {zs : List Int} {j : Nat} (hj : j < zs.length) (hb : ∀ x ∈ zs, 0 ≤ x ∧ x < 256) (e : Bool) : ((num (piece (⟨zs, 8 * j, e⟩ : BS).bits (8 * j) 8) : Nat) : Int) = zs.getD j 0 := by
  have h1 : (zs.map Int.toNat).drop j = (zs[j]).toNat :: (zs.map Int.toNat).drop (j + 1) := by
    rw [List.drop_eq_getElem_cons (by simpa using hj)]
    simp
  have h2 := hb zs[j] (List.getElem_mem _)
  unfold BS.bits piece
  rw [← ofB_drop, h1, ofB_cons, List.take_append_of_le_length (by rw [tb_len]; exact Nat.le_refl _), List.take_of_length_le (by rw [tb_len]; exact Nat.le_refl _), num_tb, List.getD_eq_getElem?_getD, List.getElem?_eq_getElem hj]
  simp only [Option.getD_some]
  omega
/-- A byte of the row of bits of which there are so many whole bytes. -/
theorem fix_short {zs : List Int} (hb : ∀ x ∈ zs, 0 ≤ x ∧ x < 256) {j : Nat} (hj : j ≤ zs.length) {s' : BS} {G G' : Rs} {n e : Int} (h : WithinR ⟨6, 0, [], 0, 8⟩ ⟨zs, 8 * j, false⟩ G 0 (-2147483647) 2147483647 n e s' G') :
    (j < zs.length ∧ n = zs.getD j 0 ∧ e = 0 ∧ s' = ⟨zs, 8 * (j + 1), false⟩ ∧ G' = G) ∨ (j = zs.length ∧ e = 3) := by
  have hck : chkI ⟨6, 0, [], 0, 8⟩ = 0 := by decide
  rcases h with ⟨h0, _⟩ | ⟨_, s1, ⟨m, e1, hn, hc⟩, hs⟩
  · exact absurd rfl h0
  rcases hn with ⟨h0, _⟩ | ⟨_, h3, _⟩ | ⟨_, h3, _⟩ | ⟨_, _, h1, h2, h4⟩
  · exact absurd hck h0
  · exact absurd h3 (by decide)
  · exact absurd h3 (by decide)
  · rw [show (⟨6, 0, [], 0, 8⟩ : D).bi.toNat = 8 from rfl] at h2 h4
    rcases Nat.lt_or_ge j zs.length with hlt | hge
    · have htk : (⟨zs, 8 * j, false⟩ : BS).take 8 = (num (piece (⟨zs, 8 * j, false⟩ : BS).bits (8 * j) 8), ⟨zs, 8 * j + 8, false⟩) := take_near rfl (by simp only; omega)
      have hv := bits_at hlt hb false
      have hr := hb (zs.getD j 0) (by rw [List.getD_eq_getElem?_getD, List.getElem?_eq_getElem hlt]; exact List.getElem_mem _)
      rw [htk] at h2 h4
      simp only at h2 h4
      subst h2
      rcases h4 with ⟨h, _⟩ | ⟨_, h5, h6⟩
      · cases h
      · subst h6
        rw [hv] at h5
        rcases hc with ⟨h, _⟩ | ⟨_, h, _⟩ | ⟨_, _, _, h8, h9⟩
        · exact absurd rfl h
        · omega
        · refine .inl ⟨hlt, by omega, h9, ?_, h1⟩
          rw [hs, h9]
          rfl
    · rw [take_far (.inr (by simp only; omega))] at h2 h4
      simp only at h2 h4
      subst h2
      rcases h4 with ⟨_, _, h6⟩ | ⟨h, _⟩
      · subst h6
        rcases hc with ⟨_, _, h⟩ | ⟨h, _⟩ | ⟨h, _⟩
        · exact .inr ⟨by omega, h⟩
        · exact absurd h (by decide)
        · exact absurd h (by decide)
      · cases h
/-- What is put. -/
theorem put_d {v : Int} (hv : -2147483647 ≤ v ∧ v ≤ 2147483647) (l : List Nat) (f : Nat → Option (List Int)) : pInt ⟨1, 5, [], 0, 0⟩ v (l, f) = (0, (l, pc f 5 (hadP f 5 ++ encInt (sg v)))) := by
  have hck : chkI ⟨1, 5, [], 0, 0⟩ = 0 := by decide
  unfold pInt putN
  rw [if_pos hck, if_neg (by omega), if_pos rfl]
  rfl
theorem put_f {u : Int} (hu : 0 ≤ u ∧ u < 256) (l : List Nat) (f : Nat → Option (List Int)) : pInt ⟨6, 0, [], 0, 8⟩ u (l, f) = (0, (l ++ tb u.toNat 8, f)) := by
  have hck : chkI ⟨6, 0, [], 0, 8⟩ = 0 := by decide
  unfold pInt putN Qu.putF
  rw [if_pos hck, if_neg (by omega), if_neg (by decide), if_neg (by decide), if_neg (by simp only; have : ((8 : Int).toNat) = 8 := rfl; rw [this]; omega)]
  simp
end Go.Proofs.YtgaofnmgdefdcaaGreatDoor.Le

namespace Go.Proofs.YtgaofnmgdefdcaaGreatDoor.Qu
open Go.RowKit Go.Proofs.YtgaofnmgdefdcaaGreatDoor.Ww Go.Proofs.YtgaofnmgdefdcaaGreatDoor.Gen Go.Proofs.YtgaofnmgdefdcaaGreatDoor.Mp Go.Proofs.YtgaofnmgdefdcaaGreatDoor.Cm Go.Proofs.YtgaofnmgdefdcaaGreatDoor.Wr Go.Proofs.YtgaofnmgdefdcaaGreatDoor.Bp Go.Proofs.YtgaofnmgdefdcaaGreatDoor.Qh Go.Proofs.YtgaofnmgdefdcaaGreatDoor.Qs Go.Proofs.YtgaofnmgdefdcaaGreatDoor.Qf Go.Proofs.YtgaofnmgdefdcaaGreatDoor.Qi Go.Proofs.YtgaofnmgdefdcaaGreatDoor.Qk

theorem Ql_base {F : Nat → Prop} {B B' g N : Nat} {l : List Nat} {G : Gs} {w : World} (h : Ql F B g l G N w) (hB : B' ≤ B) : Ql F B' g l G N w := by
  obtain ⟨Fb, Fc, v, mb, mc, h⟩ := h
  exact ⟨Fb, Fc, v, mb, mc, h.row, h.wms, h.kept, h.ab, h.bc, h.all, fun k hk => Nat.le_trans hB (h.low k hk)⟩
/-- A new Quill. -/
theorem new_q (B : Nat) (w : World) (hB : B ≤ w.heap.size) : Calls Tryz.prog 9 #[] w fun r w' => r = .returned (.pointer (some ⟨w.heap.size, 0, none⟩)) ∧ Ql (· = w.heap.size) B w.heap.size [] (fun _ => none) 0 w' ∧ Step (fun _ => False) (· = w.heap.size) w w' := by
  have HQ := Lib.hid (Ql_base (Ql.start w) hB)
  have HS : Hid (Step (fun _ => False) (· = w.heap.size) w (w.alloc (.cells #[.slice none 0 0, .int .u64 0, .int .i64 0, .map none, .map none] 77))) := ⟨(Keeps.refl _ _).alloc _, fun k hk => .inr (by omega)⟩
  go_enter Tryz.func9, Tryz.ntmps9
  go_wp2
  go_ret
  exact ⟨rfl, HQ.out, HS.out⟩
theorem int_nil (d : Array Value) (x : Int) (w : World) : Calls Tryz.prog 15 #[.pointer none, .agg d, .int .i64 x] w fun r w' => r = .returned (.int .i64 1) ∧ Keeps (fun _ => False) w w' := by
  go_enter Tryz.func15, Tryz.ntmps15
  go_wp2
  go_ret
  exact ⟨rfl, (Keeps.refl _ _).alloc _⟩
theorem array_nil (d : Array Value) (A : Option Addr) (n c : Nat) (w : World) : Calls Tryz.prog 10 #[.pointer none, .agg d, .slice A n c] w fun r w' => r = .returned (.int .i64 1) ∧ Keeps (fun _ => False) w w' := by
  go_enter Tryz.func10, Tryz.ntmps10
  go_wp2
  go_ret
  exact ⟨rfl, (Keeps.refl _ _).alloc _⟩
theorem row_nil (w : World) : Calls Tryz.prog 18 #[.pointer none] w fun r w' => r = .returned (.slice none 0 0) ∧ w' = w := by
  go_enter Tryz.func18, Tryz.ntmps18
  go_wp2
  go_ret
  exact ⟨rfl, rfl⟩
theorem blocks_nil (w : World) : Calls Tryz.prog 17 #[.pointer none] w fun r w' => r = .returned (.slice none 0 0) ∧ w' = w := by
  go_enter Tryz.func17, Tryz.ntmps17
  go_wp2
  go_ret
  exact ⟨rfl, rfl⟩
theorem block_nil (x : Int) (w : World) : Calls Tryz.prog 20 #[.pointer none, .int .i64 x] w fun r w' => r = .returned (.slice none 0 0) ∧ w' = w := by
  go_enter Tryz.func20, Tryz.ntmps20
  go_wp2
  go_ret
  exact ⟨rfl, rfl⟩
/-- Row: the row's bits as bytes, noughts behind. -/
theorem row_ (B g : Nat) (F : Nat → Prop) (l : List Nat) (G : Gs) (N : Nat) (w : World) (hq : Ql F B g l G N w) (hl : l.length ≤ 7999000) :
    Calls Tryz.prog 18 #[.pointer (some ⟨g, 0, none⟩)] w (Bw.Packed w.heap.size l w) := by
  obtain ⟨Fb, Fc, v, mb, mc, h⟩ := hq
  have HB := Lib.hid (Bq.bytes g 0 v l w h.row hl)
  clear h
  go_enter Tryz.func18, Tryz.ntmps18
  go_wp2_with fail
  refine HB.out.mono ?_
  rintro r w1 ⟨A, c, ys, n, hn, rfl, hp, hy, ho, hk⟩
  have H1 := Lib.hid hn
  have H2 := Lib.hid hp
  have H3 := Lib.hid hy
  have H4 := Lib.hid ho
  have H5 := Lib.hid hk
  clear hn hp hy ho hk HB
  go_wp2
  go_ret
  exact ⟨A, c, ys, n, H1.out, rfl, H2.out, H3.out, H4.out, H5.out⟩
/-- The numbers of blocks that there are, rising. -/
def bnums (G : Gs) : List Nat := (List.range 60001).filter fun i => (G i).isSome
theorem bnums_nums (G : Gs) : nums (fun i => (G i).map wptr) 60001 = bnums G := by
  unfold nums bnums
  refine List.filter_congr fun i _ => ?_
  show (Option.map wptr (G i)).isSome = (G i).isSome
  simp
theorem blocks_ (B g : Nat) (F : Nat → Prop) (l : List Nat) (G : Gs) (N : Nat) (w : World) (hq : Ql F B g l G N w) :
    Calls Tryz.prog 17 #[.pointer (some ⟨g, 0, none⟩)] w fun r w' => ∃ A c n, r = .returned (.slice A n c) ∧ (bnums G).length = n ∧ w'.ownsRow w.heap.size 3 1 (.slice A n c) n ((bnums G).map fun i : Nat => Value.int .i64 i) ∧ Keeps (fun _ => False) w w' := by
  obtain ⟨Fb, Fc, v, mb, mc, h⟩ := hq
  obtain ⟨last, o, hb, hr⟩ := row_cells h.row
  have hc3 : w.cell? ⟨g, 3, none⟩ = some mb := hb.cell 3
  have hw := h.wms.2
  clear h hr hb
  have HK := Lib.hid keysA
  rcases hw with ⟨rfl, hn⟩ | ⟨b, rfl, hm⟩
  · have hk1 := (Keeps.refl (fun _ => False) w).alloc (.cells #[.map none] 72)
    have HS := Lib.hid (sortedA_nil w.heap.size (w.alloc (.cells #[.map none] 72)) (by simp) ((Blk.new w 72 #[.map none]).cell 0))
    have HK1 := Lib.hid hk1
    have HE : Hid (bnums G = []) := by
      show bnums G = []
      unfold bnums
      rw [List.filter_eq_nil_iff]
      intro i _
      simp [hn i]
    clear hn hk1
    go_enter Tryz.func17, Tryz.ntmps17
    go_wp2_with (first
      | (go_at_call 44; refine (HK.out none _).mono ?_; rintro r w1 ⟨rfl, rfl⟩)
      | (have H := HS; go_at_call 43; refine H.out.mono ?_; rintro r w2 ⟨rfl, hk2⟩; have HK2 := Lib.hid (HK1.out.trans hk2); clear hk2 HS))
    go_ret
    exact ⟨none, 0, 0, rfl, by rw [HE.out]; rfl, by rw [HE.out]; exact World.ownsRow_nil _ _ _ _, HK2.out⟩
  · have hk1 := (Keeps.refl (fun _ => False) w).alloc (.cells #[.map (some b)] 72)
    have HS := Lib.hid (sortedA int_ks (fun i _ => rfl) (by omega) w.heap.size b (fun i => (G i).map wptr) (w.alloc (.cells #[.map (some b)] 72)) (by simp) ((Blk.new w 72 #[.map (some b)]).cell 0) (hm.map.keeps hk1 id))
    have HK1 := Lib.hid hk1
    clear hm hk1
    go_enter Tryz.func17, Tryz.ntmps17
    go_wp2_with (first
      | (go_at_call 44; refine (HK.out (some b) _).mono ?_; rintro r w1 ⟨rfl, rfl⟩)
      | (have H := HS; go_at_call 43; refine H.out.mono ?_; rintro r w2 ⟨v2, rfl, ho2, hk2⟩; have HK2 := Lib.hid (HK1.out.trans hk2); have HO := Lib.hid ho2; clear hk2 ho2 HS))
    go_ret
    have ho := HO.out
    rw [bnums_nums] at ho
    obtain ⟨A, c, rfl, _⟩ := own_form ho
    refine ⟨A, c, _, rfl, rfl, ?_, HK2.out⟩
    have e : (numZ (fun i => (G i).map wptr) 60001).map encZ = (bnums G).map fun i : Nat => Value.int .i64 i := by
      rw [numZ, bnums_nums, List.map_map]
      rfl
    rw [e] at ho
    exact own_base ho (by simp)
/-- A block's bytes. -/
def hadI (G : Gs) (x : Int) : List Int := if 0 ≤ x ∧ x ≤ 60000 then had G x.toNat else []
theorem look_out {w : World} {b : Nat} {val : Nat → Option Value} (h : IsF Tryz.prog 3 60001 ikl w b val) {x : Int} (hx : (Lit.int .i64 x).wf = true) (hn : ¬ (0 ≤ x ∧ x ≤ 60000)) :
    (Instr.lookup 72 (.map (some b)) (.int .i64 x) true).run Tryz.prog w = .ok (.tuple #[.pointer none, .bool false]) w := by
  obtain ⟨m, h1, h2⟩ := h
  refine ((h1.look w int_ks.keyed Tryz.underlying72 (zero_pit w) (Go.Maps.keyOf_int_mk Tryz.underlying3 hx)).2 fun hm => ?_).2
  obtain ⟨p, hp, e⟩ := List.mem_map.1 hm
  obtain ⟨i, hi, e1, _⟩ := h2.sub p hp
  rw [e1] at e
  unfold ikl at e
  injection e with _ e
  omega
theorem look_nilb (x : Int) (w : World) : (Instr.lookup 72 (.map none) (.int .i64 x) true).run Tryz.prog w = .ok (.tuple #[.pointer none, .bool false]) w :=
  look_none Tryz.underlying72 Tryz.underlying3 _ w (by unfold Instr.checkKey; simp [Tryz.underlying3, go_sem]) (zero_pit w)
theorem block_ (B g : Nat) (F : Nat → Prop) (l : List Nat) (G : Gs) (N : Nat) (x : Int) (m : Nat) (w : World) (hq : Ql F B g l G N w) (hx : (Lit.int .i64 x).wf = true) (hm : (hadI G x).length = m) :
    Calls Tryz.prog 20 #[.pointer (some ⟨g, 0, none⟩), .int .i64 x] w (Own w.heap.size m (hadI G x) w) := by
  obtain ⟨Fb, Fc, v, mb, mc, h⟩ := hq
  obtain ⟨last, o, hb, hr⟩ := row_cells h.row
  have hc3 : w.cell? ⟨g, 3, none⟩ = some mb := hb.cell 3
  have hw := h.wms.2
  have HM := Lib.hid hm
  clear h hr hb hm
  have hnone : hadI G x = [] → m = 0 := fun e => by rw [← HM.out, e]; rfl
  have HN := Lib.hid hnone
  clear hnone
  rcases hw with ⟨rfl, hn⟩ | ⟨b, rfl, hmm⟩
  · have hl := look_nilb x w
    have HE : Hid (hadI G x = []) := by
      show hadI G x = []
      unfold hadI had
      split
      · rw [hn]; rfl
      · rfl
    clear hn
    go_enter Tryz.func20, Tryz.ntmps20
    go_wp2
    go_ret
    obtain rfl := HN.out HE.out
    rw [HE.out]
    exact ⟨none, 0, rfl, World.ownsRow_nil _ _ _ _, Keeps.refl _ _⟩
  · by_cases hin : 0 ≤ x ∧ x ≤ 60000
    · obtain ⟨i, rfl⟩ := Int.eq_ofNat_of_zero_le hin.1
      have he : hadI G (i : Int) = had G i := by unfold hadI; rw [if_pos hin]; rfl
      have HE := Lib.hid he
      have HLK := Lib.hid (hmm.map.look int_ks Tryz.underlying72 (zero_pit w) (show i < 60001 by omega))
      cases hG : G i with
      | none =>
        have hlk := (HLK.out.2 (by rw [hG]; rfl)).2
        unfold ikv at hlk
        have HE0 : Hid (hadI G (i : Int) = []) := by show _ = _; rw [he]; simp [had, hG]
        clear HLK hmm hG he
        go_enter Tryz.func20, Tryz.ntmps20
        go_wp2
        go_ret
        obtain rfl := HN.out HE0.out
        rw [HE0.out]
        exact ⟨none, 0, rfl, World.ownsRow_nil _ _ _ _, Keeps.refl _ _⟩
      | some e =>
        obtain ⟨gi, vi, ys⟩ := e
        have hlk := (HLK.out.1 (.pointer (some ⟨gi, 0, none⟩)) (by rw [hG]; rfl)).2
        unfold ikv at hlk
        have he2 : had G i = ys := by simp [had, hG]
        have HYS : Hid (hadI G (i : Int) = ys) := by show _ = _; rw [he, he2]
        have HBY := Lib.hid (Ww.bytes_n gi 0 vi ys m w (by rw [← HM.out, he, he2]) (hmm.wr i _ hG).2.1)
        clear HLK hmm hG he he2
        go_enter Tryz.func20, Tryz.ntmps20
        go_wp2_with fail
        refine HBY.out.mono ?_
        rintro r w1 ⟨A, c, rfl, ho, hk⟩
        have HO := Lib.hid ho
        have HK := Lib.hid hk
        clear ho hk HBY
        go_wp2
        go_ret
        rw [HYS.out]
        exact ⟨A, c, rfl, HO.out, HK.out⟩
    · have hlk := look_out hmm.map hx hin
      have HE0 : Hid (hadI G x = []) := by show _ = _; unfold hadI; rw [if_neg hin]
      clear hmm
      go_enter Tryz.func20, Tryz.ntmps20
      go_wp2
      go_ret
      obtain rfl := HN.out HE0.out
      rw [HE0.out]
      exact ⟨none, 0, rfl, World.ownsRow_nil _ _ _ _, Keeps.refl _ _⟩
end Go.Proofs.YtgaofnmgdefdcaaGreatDoor.Qu

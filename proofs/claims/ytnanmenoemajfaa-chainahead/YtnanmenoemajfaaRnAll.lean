/- All of it: how many, the table, the states, what went out; and back: plain data. -/
import Derived.Test.YtnanmenoemajfaaRnEnc
import Derived.Test.YtnanmenoemajfaaFrqCnt
import Derived.Test.YtnanmenoemajfaaWireWr
namespace Go.Proofs.Ytnanmenoemajfaa.Rp
open Go.Proofs.Ytnanmenoemajfaa.Gen Go.Proofs.Ytnanmenoemajfaa.Wr Go.Proofs.Ytnanmenoemajfaa.Ww Go.Proofs.Ytnanmenoemajfaa.It Go.Proofs.Ytnanmenoemajfaa.Ir Go.Proofs.Ytnanmenoemajfaa.Ib Go.Proofs.Ytnanmenoemajfaa.Fq Go.Proofs.Ytnanmenoemajfaa.Fb

/-! ### a byte that comes has parts -/
abbrev cnt1 (b : List Int) (d : Nat) : List Int := cnt b (fun _ => 1) d
theorem cnt1_in (b : List Int) : ∀ (d : Nat), ∀ x ∈ cnt1 b d, 0 ≤ x ∧ x ≤ (d : Int)
  | 0, x, hx => by
    rw [cnt1, cnt, zs] at hx
    have := List.eq_of_mem_replicate hx
    omega
  | d + 1, x, hx => by
    have ih := cnt1_in b d
    rcases mem_set hx with hx | hx
    · have := ih x hx; omega
    · have hx : x = (cnt1 b d).getD (b.getD d 0).toNat 0 + 1 := hx
      by_cases hl : (b.getD d 0).toNat < (cnt1 b d).length
      · have := ih _ (getD_mem hl); omega
      · rw [List.getD, List.getElem?_eq_none (by omega)] at hx
        simp only [Option.getD_none] at hx
        omega
theorem cnt1_at (b : List Int) (d j : Nat) : 0 ≤ (cnt1 b d).getD j 0 ∧ (cnt1 b d).getD j 0 ≤ (d : Int) := by
  by_cases hl : j < (cnt1 b d).length
  · exact cnt1_in b d _ (getD_mem hl)
  · rw [List.getD, List.getElem?_eq_none (by omega)]
    simp only [Option.getD_none]
    omega
theorem cnt1_inR (b : List Int) {d : Nat} (h : d ≤ 1000000) : InR (cnt1 b d) := fun x hx => by
  have := cnt1_in b d x hx
  omega
theorem cnt1_hit (b : List Int) (hb : ∀ x ∈ b, 0 ≤ x ∧ x < 256) : ∀ (d i : Nat), i < d → d ≤ b.length → 0 < (cnt1 b d).getD (b.getD i 0).toNat 0
  | 0, i, h, _ => by omega
  | d + 1, i, h, hd => by
    have hbd := hb _ (getD_mem (l := b) (d := d) (by omega))
    have hl : (b.getD d 0).toNat < (cnt1 b d).length := by rw [cnt_len]; omega
    have h0 := (cnt1_at b d (b.getD d 0).toNat).1
    show 0 < ((cnt1 b d).set (b.getD d 0).toNat ((cnt1 b d).getD (b.getD d 0).toNat 0 + 1)).getD (b.getD i 0).toNat 0
    rw [getD_set hl]
    split
    · omega
    · next hne =>
      by_cases hi : i = d
      · subst hi; exact absurd rfl hne
      · exact cnt1_hit b hb d i (by omega) (by omega)
theorem dec1_pos {l : List Int} (hl : l.length = 256) (h : 4096 < l.sum) {i : Nat} (hi : 0 < l.getD i 0) : 0 < (dec1 l).getD i 0 := by
  have hg : gre l 256 < 256 := gre_lt l (by omega)
  have hs := sum_le (l := l) (m := l.getD (gre l 256) 0) (fun x hx => by
    obtain ⟨j, hj, rfl⟩ := List.getElem_of_mem hx
    have h2 := gre_max l 256 j (by omega)
    rw [List.getD, List.getElem?_eq_getElem hj] at h2
    simpa using h2)
  rw [hl] at hs
  rw [dec1, getD_set (by omega)]
  split
  · omega
  · exact hi
theorem lose_pos {l : List Int} (hl : l.length = 256) (hf : Fine l) {i : Nat} (hi : 0 < l.getD i 0) : ∀ {j : Nat}, (j : Int) ≤ l.sum - 4096 → 0 < (lose l j).getD i 0
  | 0, _ => hi
  | j + 1, h => by
    obtain ⟨h1, _, h3⟩ := lose_ok hl hf (j := j) (by omega)
    exact dec1_pos h1 (by omega) (lose_pos hl hf hi (j := j) (by omega))
theorem scal_pos {c : List Int} (hc : c.length = 256) (hr : InR c) {i : Nat} (hi : i < 256) (hp : 0 < c.getD i 0) : 0 < (scal c).getD i 0 := by
  have hl : (pts c).length = 256 := by rw [pts_len, hc]
  have h1 : 0 < (pts c).getD i 0 := by rw [pts_get c (by omega), part1, if_pos hp]; omega
  unfold scal
  split
  · next h =>
    rw [getD_set (by rw [hl]; exact gre_lt c (by omega))]
    split
    · next e => rw [← e]; omega
    · exact h1
  · exact lose_pos hl (pts_fine hr) h1 (by omega)
/-- The table of bytes. -/
def tabOf (b : List Int) : List Int := scal (cnt1 b b.length)
theorem tabOf_tb {b : List Int} (h : b.length ≤ 1000000) : Tb (tabOf b) := by
  obtain ⟨h1, h2, h3⟩ := scal_ok (c := cnt1 b b.length) (cnt_len _ _ _) (cnt1_inR b h)
  exact ⟨h1, h2, h3⟩
theorem tabOf_has {b : List Int} (h : b.length ≤ 1000000) (hb : ∀ x ∈ b, 0 ≤ x ∧ x < 256) : ∀ c ∈ b, Has (tabOf b) c := by
  intro c hc
  obtain ⟨i, hi, rfl⟩ := List.getElem_of_mem hc
  have h1 := hb _ (List.getElem_mem hi)
  have h2 := cnt1_hit b hb b.length i hi (Nat.le_refl _)
  have hg : b.getD i 0 = b[i] := by rw [List.getD, List.getElem?_eq_getElem hi]; rfl
  rw [hg] at h2
  exact ⟨h1.1, h1.2, scal_pos (cnt_len _ _ _) (cnt1_inR b h) (by omega) h2⟩
theorem cnt1_sum {b : List Int} (h : b ≠ []) (hb : ∀ x ∈ b, 0 ≤ x ∧ x < 256) (hl : b.length ≤ 1000000) : (cnt1 b b.length).sum ≠ 0 := by
  have h0 : 0 < b.length := by cases b with | nil => exact absurd rfl h | cons _ _ => simp
  have h1 := cnt1_hit b hb b.length 0 h0 (Nat.le_refl _)
  have h2 := hb _ (getD_mem (l := b) (d := 0) h0)
  have h3 := InR.mem_le (cnt1_inR b hl) _ (getD_mem (l := cnt1 b b.length) (d := (b.getD 0 0).toNat) (by rw [cnt_len]; omega))
  omega

/-! ### words -/
def wb (f : List Nat) : List Int := f.flatMap fun n : Nat => lows (n : Int) 4
theorem wb_len (f : List Nat) : (wb f).length = 4 * f.length := by
  induction f with
  | nil => rfl
  | cons n l ih => simp only [wb, List.flatMap_cons, List.length_append, lows_len, List.length_cons] at ih ⊢; omega
theorem wb_byte (f : List Nat) : ∀ x ∈ wb f, 0 ≤ x ∧ x < 256 := by
  intro x hx
  simp only [wb, List.mem_flatMap] at hx
  obtain ⟨n, _, hx⟩ := hx
  exact lows_byte _ _ x hx
theorem wb_cons (n : Nat) (f : List Nat) : wb (n :: f) = lows (n : Int) 4 ++ wb f := rfl
/-- Words, one behind the other. -/
def wds : Nat → RS → List Nat × RS
  | 0, s => ([], s)
  | n + 1, s => ((wds n s).1 ++ [(wds n s).2.word.1.toNat], (wds n s).2.word.2)
def Inb (x : Nat) : Bool := decide (8388608 ≤ x) && decide (x < 2147483648)
theorem inb_iff {x : Nat} : Inb x = true ↔ In x := by simp [Inb, In]
/-- Four states out of words. -/
def startF (s : RS) : List Nat × RS := if (wds 4 s).1.all Inb then wds 4 s else ([0, 0, 0, 0], (wds 4 s).2.fail 2)
theorem word_bad {s : RS} (h : s.e ≠ 0) : s.word = (0, s) := by
  have hp : ∀ j, (s.part j) = (0, s) := by
    intro j
    induction j with
    | zero => rfl
    | succ j ih => rw [RS.part, ih, byte_bad h]; simp
  rw [RS.word, hp, if_neg h]
theorem word_any {xs : List Int} {k : Nat} (hx : ∀ x ∈ xs, 0 ≤ x ∧ x < 256) (hk : k ≤ xs.length) :
    (∃ k', (⟨xs, k, 0⟩ : RS).word = (0, ⟨xs, k', 3⟩)) ∨ ∃ n : Nat, (⟨xs, k, 0⟩ : RS).word = ((n : Int), ⟨xs, k + 4, 0⟩) ∧ k + 4 ≤ xs.length ∧ n < 4294967296 ∧ lows (n : Int) 4 = (xs.drop k).take 4 := by
  rcases Nat.lt_or_ge (k + 3) xs.length with h | h
  · right
    have g0 := hx _ (List.getElem_mem (show k < xs.length by omega))
    have g1 := hx _ (List.getElem_mem (show k + 1 < xs.length by omega))
    have g2 := hx _ (List.getElem_mem (show k + 2 < xs.length by omega))
    have g3 := hx _ (List.getElem_mem h)
    have hw := word_of (all := xs) (k := k) (List.getElem?_eq_getElem (by omega)) (List.getElem?_eq_getElem (by omega)) (List.getElem?_eq_getElem (by omega)) (List.getElem?_eq_getElem h)
    have hd : (xs.drop k).take 4 = [xs[k], xs[k + 1], xs[k + 2], xs[k + 3]] := by
      have d0 : xs.drop k = xs[k] :: xs.drop (k + 1) := List.drop_eq_getElem_cons (by omega)
      have d1 : xs.drop (k + 1) = xs[k + 1] :: xs.drop (k + 2) := List.drop_eq_getElem_cons (by omega)
      have d2 : xs.drop (k + 2) = xs[k + 2] :: xs.drop (k + 3) := List.drop_eq_getElem_cons (by omega)
      have d3 : xs.drop (k + 3) = xs[k + 3] :: xs.drop (k + 4) := List.drop_eq_getElem_cons h
      rw [d0, d1, d2, d3]
      rfl
    refine ⟨(xs[k] + xs[k + 1] * 256 + xs[k + 2] * 65536 + xs[k + 3] * 16777216).toNat, ?_, by omega, by omega, ?_⟩
    · rw [hw]
      congr 1
      omega
    · rw [hd, lows4]
      congr 1
      · omega
      congr 1
      · omega
      congr 1
      · omega
      congr 1
      omega
  · left
    have hstep : ∀ j, (k + j ≤ xs.length → ∃ a, RS.part ⟨xs, k, 0⟩ j = (a, ⟨xs, k + j, 0⟩)) ∧ (xs.length < k + j → ∃ a, RS.part ⟨xs, k, 0⟩ j = (a, ⟨xs, xs.length, 3⟩)) := by
      intro j
      induction j with
      | zero => exact ⟨fun _ => ⟨0, rfl⟩, fun hj => by omega⟩
      | succ j ih =>
        refine ⟨fun hj => ?_, fun hj => ?_⟩
        · obtain ⟨a, ha⟩ := ih.1 (by omega)
          rw [RS.part, ha]
          simp only [RS.byte, show k + j < xs.length by omega, if_true]
          exact ⟨_, rfl⟩
        · rcases Nat.lt_or_ge xs.length (k + j) with hl | hl
          · obtain ⟨a, ha⟩ := ih.2 hl
            rw [RS.part, ha, byte_bad (by simp)]
            exact ⟨_, rfl⟩
          · obtain ⟨a, ha⟩ := ih.1 hl
            rw [RS.part, ha]
            simp only [RS.byte, show ¬ k + j < xs.length by omega, if_true, if_false]
            exact ⟨_, by rw [show k + j = xs.length by omega]⟩
    obtain ⟨a, ha⟩ := (hstep 4).2 (by omega)
    exact ⟨xs.length, by rw [RS.word, ha, if_neg (by simp)]⟩
theorem four {f : List Nat} (h : f.length = 4) : ∃ a b c d, f = [a, b, c, d] := by
  match f, h with
  | [a, b, c, d], _ => exact ⟨a, b, c, d, rfl⟩
theorem start_back {f : List Nat} (hf : St f) {xs R : List Int} {k : Nat} (h : xs.drop k = wb f ++ R) : startF ⟨xs, k, 0⟩ = (f, ⟨xs, k + 16, 0⟩) := by
  obtain ⟨a, b, c, d, rfl⟩ := four hf.1
  have hI : In a ∧ In b ∧ In c ∧ In d := ⟨hf.2 a (by simp), hf.2 b (by simp), hf.2 c (by simp), hf.2 d (by simp)⟩
  obtain ⟨ia, ib, ic, id⟩ := hI
  simp only [wb_cons, List.append_assoc] at h
  have w0 := word_lows (k := k) (n := (a : Int)) h (by omega) (by have := ia.2; omega)
  have h1 : xs.drop (k + 4) = lows (b : Int) 4 ++ (lows (c : Int) 4 ++ (lows (d : Int) 4 ++ (wb [] ++ R))) := by rw [← List.drop_drop, h]; exact List.drop_left' (lows_len _ _)
  have w1 := word_lows (k := k + 4) (n := (b : Int)) h1 (by omega) (by have := ib.2; omega)
  have h2 : xs.drop (k + 4 + 4) = lows (c : Int) 4 ++ (lows (d : Int) 4 ++ (wb [] ++ R)) := by rw [← List.drop_drop, h1]; exact List.drop_left' (lows_len _ _)
  have w2 := word_lows (k := k + 4 + 4) (n := (c : Int)) h2 (by omega) (by have := ic.2; omega)
  have h3 : xs.drop (k + 4 + 4 + 4) = lows (d : Int) 4 ++ (wb [] ++ R) := by rw [← List.drop_drop, h2]; exact List.drop_left' (lows_len _ _)
  have w3 := word_lows (k := k + 4 + 4 + 4) (n := (d : Int)) h3 (by omega) (by have := id.2; omega)
  have hw : wds 4 ⟨xs, k, 0⟩ = ([a, b, c, d], ⟨xs, k + 16, 0⟩) := by
    simp only [wds, w0, w1, w2, w3, Int.toNat_natCast, List.nil_append, List.cons_append]
  rw [startF, hw, if_pos]
  simp only [List.all_cons, List.all_nil, Bool.and_true, Bool.and_eq_true, inb_iff]
  exact ⟨ia, ib, ic, id⟩
theorem start_any {xs : List Int} {k : Nat} (hx : ∀ x ∈ xs, 0 ≤ x ∧ x < 256) (hk : k ≤ xs.length) :
    ((startF ⟨xs, k, 0⟩).2.e ≠ 0 ∧ (startF ⟨xs, k, 0⟩).1 = [0, 0, 0, 0]) ∨
    ∃ f, startF ⟨xs, k, 0⟩ = (f, ⟨xs, k + 16, 0⟩) ∧ St f ∧ k + 16 ≤ xs.length ∧ wb f = (xs.drop k).take 16 := by
  by_cases ha : (wds 4 ⟨xs, k, 0⟩).1.all Inb
  · right
    have key : ∀ n, ((wds n ⟨xs, k, 0⟩).2.e ≠ 0 ∧ ¬ (wds n ⟨xs, k, 0⟩).1.all Inb) ∨ ∃ f, wds n ⟨xs, k, 0⟩ = (f, ⟨xs, k + 4 * n, 0⟩) ∧ f.length = n ∧ k + 4 * n ≤ xs.length ∧ wb f = (xs.drop k).take (4 * n) := by
      intro n
      induction n with
      | zero => exact .inr ⟨[], rfl, rfl, hk, by simp [wb]⟩
      | succ n ih =>
        rcases ih with ⟨h1, h2⟩ | ⟨f, h1, h2, h3, h4⟩
        · left
          rw [wds, word_bad h1]
          refine ⟨h1, ?_⟩
          simp [List.all_append, Inb]
        · rcases word_any hx h3 with ⟨k', h5⟩ | ⟨m, h5, h6, h7, h8⟩
          · left
            rw [wds, h1, h5]
            refine ⟨by simp, by simp [List.all_append, Inb]⟩
          · right
            refine ⟨f ++ [m], ?_, by simp [h2], by omega, ?_⟩
            · rw [wds, h1, h5]; simp [Nat.mul_add, Nat.add_assoc]
            · simp only [wb, List.flatMap_append, List.flatMap_cons, List.flatMap_nil, List.append_nil] at h4 ⊢
              rw [h4, h8, Nat.mul_add, List.take_add, List.drop_drop]
    rcases key 4 with ⟨_, h2⟩ | ⟨f, h1, h2, h3, h4⟩
    · exact absurd ha h2
    · refine ⟨f, by rw [startF, if_pos ha, h1], ⟨h2, fun x hx => ?_⟩, h3, h4⟩
      rw [h1] at ha
      exact inb_iff.1 (List.all_eq_true.1 ha x hx)
  · left
    rw [startF, if_neg ha]
    exact ⟨fail_ne (by decide), rfl⟩
end Go.Proofs.Ytnanmenoemajfaa.Rp

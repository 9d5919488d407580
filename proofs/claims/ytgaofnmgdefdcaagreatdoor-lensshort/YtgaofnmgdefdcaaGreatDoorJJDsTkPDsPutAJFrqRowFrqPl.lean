/- Ways taken from a Reader, as plain data (desc). Names no function of the program. -/
/- Ways of bytes put behind what a Writer has (desc's Arrays.Put). -/
/- Ways taken of any bytes: what may be, and its bytes; or an error (plain data; names no function of the program). -/
/- What is put is taken: ways out of their own bytes (desc; plain data). Names no function of the program. -/
/- Ways by small numbers, as plain data: they may be, and hold nothing that doesn't belong to their kind (desc). Names no function of the program. -/
/- The statements' own ways by small numbers (Small.Ints): the two kinds that hold no entries. -/
/- Rows of numbers, whole: what lies in an array of 256; which of them is the greatest, the first of such. -/
/- Whether a table may be one. -/
/- Counts as parts of 4096, as plain data: what is left over goes to the greatest count; what is too much is lost by the greatest part, again and again. -/
import Derived.Test.YtgaofnmgdefdcaaGreatDoorJJItfWrDsPlJBitWQQlSt
import Derived.Test.YtgaofnmgdefdcaaGreatDoorJDsPutIQlCode
import Derived.Test.YtgaofnmgdefdcaaGreatDoorProg
import Derived.Test.YtgaofnmgdefdcaaGreatDoorJGenJGenHufPm
import Derived.WalkKit
import Derived.WalkSpells
import Derived.WalkLawsBesides
import Derived.Lib.Hide
import Derived.Deep.WholeRow
import Derived.Deep.CutRange
import Derived.Deep.RegionHeld3
import Derived.Deep.MidRow


namespace Go.Proofs.YtgaofnmgdefdcaaGreatDoor.Ds
open Go.RowKit Go.Proofs.YtgaofnmgdefdcaaGreatDoor.Gen Go.Proofs.YtgaofnmgdefdcaaGreatDoor.Wr Go.Proofs.YtgaofnmgdefdcaaGreatDoor.It Go.Proofs.YtgaofnmgdefdcaaGreatDoor.Ir Go.Proofs.YtgaofnmgdefdcaaGreatDoor.Ib Go.Proofs.YtgaofnmgdefdcaaGreatDoor.Tw Go.Proofs.YtgaofnmgdefdcaaGreatDoor.Hr Go.Proofs.YtgaofnmgdefdcaaGreatDoor.Hn Go.Proofs.YtgaofnmgdefdcaaGreatDoor.Hk Go.Proofs.YtgaofnmgdefdcaaGreatDoor.Ln

def D0 : D := ⟨0, 0, [], 0, 0⟩
def E0 : E := ⟨D0, 0, 0, 0⟩
def tkS (s : RS) : Nat → List Int × RS
  | 0 => ([], s)
  | j + 1 => ((tkS s j).1 ++ [sign32 (RS.int (tkS s j).2).1], (RS.int (tkS s j).2).2)
def tkZ (s : RS) : Nat → List Int × RS
  | 0 => ([], s)
  | j + 1 => ((tkZ s j).1 ++ [(RS.count (tkZ s j).2 20).1], (RS.count (tkZ s j).2 20).2)
theorem tkS_len (s : RS) : ∀ j, (tkS s j).1.length = j
  | 0 => rfl
  | j + 1 => by simp [tkS, tkS_len s j]
theorem tkZ_len (s : RS) : ∀ j, (tkZ s j).1.length = j
  | 0 => rfl
  | j + 1 => by simp [tkZ, tkZ_len s j]
def tkL (s : RS) (n : Nat) : List G × RS := ((tkS s n).1.zip (tkZ (tkS s n).2 n).1, (tkZ (tkS s n).2 n).2)
theorem tkL_len (s : RS) (n : Nat) : (tkL s n).1.length = n := by simp [tkL, tkS_len, tkZ_len]
def tkE (s : RS) : List G × RS := tkL (RS.count s 256).2 (RS.count s 256).1.toNat
def tkI (s : RS) : D × RS :=
  if (RS.count s 255).1 = 1 then (⟨1, (RS.count (RS.count s 255).2 60000).1, [], 0, 0⟩, (RS.count (RS.count s 255).2 60000).2)
  else if (RS.count s 255).1 = 3 then (⟨3, 0, (tkE (RS.count s 255).2).1, 0, 0⟩, (tkE (RS.count s 255).2).2)
  else if (RS.count s 255).1 = 6 then (⟨6, 0, [], sign32 (RS.int (RS.count s 255).2).1, (RS.count (RS.int (RS.count s 255).2).2 31).1⟩, (RS.count (RS.int (RS.count s 255).2).2 31).2)
  else (⟨(RS.count s 255).1, 0, [], 0, 0⟩, (RS.count s 255).2)
def tkA (s : RS) : E × RS :=
  if (RS.count s 255).1 = 4 then (⟨(tkI (RS.count (RS.count s 255).2 60000).2).1, 4, (RS.count (RS.count s 255).2 60000).1, 0⟩, (tkI (RS.count (RS.count s 255).2 60000).2).2)
  else if (RS.count s 255).1 = 5 then (⟨D0, 5, (RS.count (RS.count s 255).2 60000).1, (RS.count (RS.count s 255).2 60000).2.byte.1⟩, (RS.count (RS.count s 255).2 60000).2.byte.2)
  else (⟨D0, (RS.count s 255).1, (RS.count (RS.count s 255).2 60000).1, 0⟩, (RS.count (RS.count s 255).2 60000).2)
/-- A taking ends with what is wrong. -/
def ends (s : RS) (e : Int) : RS := if e ≠ 0 then s.fail e else s
def TI (s : RS) : D × RS := if (ends (tkI s).2 (chkI (tkI s).1)).e = 0 then ((tkI s).1, ends (tkI s).2 (chkI (tkI s).1)) else (D0, ends (tkI s).2 (chkI (tkI s).1))
def TA (s : RS) : E × RS := if (ends (tkA s).2 (chkA (tkA s).1)).e = 0 then ((tkA s).1, ends (tkA s).2 (chkA (tkA s).1)) else (E0, ends (tkA s).2 (chkA (tkA s).1))
theorem count_in {s : RS} (h : s.ok) {m : Int} (hm : 0 ≤ m) : 0 ≤ (RS.count s m).1 ∧ (RS.count s m).1 ≤ m := by
  have := int_in h
  unfold RS.count
  split
  · exact ⟨Int.le_refl _, hm⟩
  · omega
end Go.Proofs.YtgaofnmgdefdcaaGreatDoor.Ds

namespace Go.Proofs.YtgaofnmgdefdcaaGreatDoor.Ds
open Go.RowKit Go.Proofs.YtgaofnmgdefdcaaGreatDoor.Gen Go.Proofs.YtgaofnmgdefdcaaGreatDoor.Wr Go.Proofs.YtgaofnmgdefdcaaGreatDoor.Ww Go.Proofs.YtgaofnmgdefdcaaGreatDoor.It Go.Proofs.YtgaofnmgdefdcaaGreatDoor.Iw Go.Proofs.YtgaofnmgdefdcaaGreatDoor.Ir Go.Proofs.YtgaofnmgdefdcaaGreatDoor.Ib Go.Proofs.YtgaofnmgdefdcaaGreatDoor.Tw Go.Proofs.YtgaofnmgdefdcaaGreatDoor.Hr Go.Proofs.YtgaofnmgdefdcaaGreatDoor.Hn Go.Proofs.YtgaofnmgdefdcaaGreatDoor.Hk Go.Proofs.YtgaofnmgdefdcaaGreatDoor.Ln

theorem chkA_ok {a : E} (h : chkA a = 0) : (1 ≤ a.B ∧ a.B ≤ 60000) ∧ (a.K = 5 ∨ (a.K = 4 ∧ chkI a.d = 0)) := by
  unfold chkA at h
  split at h
  · omega
  · rename_i h1
    have hb : 1 ≤ a.B ∧ a.B ≤ 60000 := by
      unfold blkE at h1
      split at h1
      · omega
      · omega
    refine ⟨hb, ?_⟩
    split at h
    · rename_i h4
      exact .inr ⟨h4, h⟩
    · split at h
      · rename_i h5
        exact .inl h5
      · omega

end Go.Proofs.YtgaofnmgdefdcaaGreatDoor.Ds


namespace Go.Proofs.YtgaofnmgdefdcaaGreatDoor.Ds
open Go.RowKit Go.Proofs.YtgaofnmgdefdcaaGreatDoor.Gen Go.Proofs.YtgaofnmgdefdcaaGreatDoor.Wr Go.Proofs.YtgaofnmgdefdcaaGreatDoor.It Go.Proofs.YtgaofnmgdefdcaaGreatDoor.Ir Go.Proofs.YtgaofnmgdefdcaaGreatDoor.Ib Go.Proofs.YtgaofnmgdefdcaaGreatDoor.Tw Go.Proofs.YtgaofnmgdefdcaaGreatDoor.Hr Go.Proofs.YtgaofnmgdefdcaaGreatDoor.Hn Go.Proofs.YtgaofnmgdefdcaaGreatDoor.Hk Go.Proofs.YtgaofnmgdefdcaaGreatDoor.Ln

/-- From s to s1 these bytes were taken, or there is an error. -/
structure Step (s s1 : RS) (ys : List Int) : Prop where
  xs : s1.xs = s.xs
  ok : s1.ok
  good : s1.e = 0 → s.e = 0 ∧ s.k ≤ s1.k ∧ ys = (s.xs.drop s.k).take (s1.k - s.k)
theorem Step.refl {s : RS} (h : s.ok) : Step s s [] := ⟨rfl, h, fun he => ⟨he, Nat.le_refl _, by rw [Nat.sub_self]; simp⟩⟩
theorem Step.trans {s s1 s2 : RS} {ys zs : List Int} (h : Step s s1 ys) (h2 : Step s1 s2 zs) : Step s s2 (ys ++ zs) := by
  refine ⟨h2.xs.trans h.xs, h2.ok, fun he => ?_⟩
  obtain ⟨a1, a2, a3⟩ := h2.good he
  obtain ⟨b1, b2, b3⟩ := h.good a1
  refine ⟨b1, by omega, ?_⟩
  rw [b3, a3, h.xs, show s2.k - s.k = (s1.k - s.k) + (s2.k - s1.k) by omega, List.take_add, List.drop_drop, show s.k + (s1.k - s.k) = s1.k by omega]
theorem Step.bad {s s1 : RS} {ys : List Int} (hx : s1.xs = s.xs) (ho : s1.ok) (he : s1.e ≠ 0) : Step s s1 ys := ⟨hx, ho, fun h => absurd h he⟩
theorem fail_ne' {s : RS} {e : Int} (h : e ≠ 0) : (s.fail e).e ≠ 0 := by
  unfold RS.fail
  split
  · exact h
  · assumption
theorem fail_xs (s : RS) (e : Int) : (s.fail e).xs = s.xs := by
  unfold RS.fail
  split <;> rfl
theorem rs_eq {s : RS} (h : s.e = 0) : s = ⟨s.xs, s.k, 0⟩ := by
  cases s
  simp only at h
  subst h
  rfl
theorem lead_zero : lead 0 = 0 := by decide
theorem foll_zero : ¬ foll 0 < 0 := by omega
theorem int_bad {s : RS} (h : s.e ≠ 0) : RS.int s = (0, s) := by
  have hb : s.byte = (0, s) := byte_bad h
  have hn : RS.num s 4 = (0, 0, s) := by
    unfold RS.num
    rw [hb]
    simp only [lead_zero, Nat.zero_min, RS.gath]
    rfl
  unfold RS.int
  rw [hn]
  unfold five RS.needs
  simp [h]
theorem byte_end {s : RS} (h : s.e = 0) (hk : s.xs.length ≤ s.k) : s.byte = (0, ⟨s.xs, s.k, 3⟩) := by
  unfold RS.byte
  rw [if_pos h, if_neg (by omega)]
theorem int_end {s : RS} (h : s.e = 0) (hk : s.xs.length ≤ s.k) : RS.int s = (0, ⟨s.xs, s.k, 3⟩) := by
  have hb := byte_end h hk
  have hn : RS.num s 4 = (0, 0, ⟨s.xs, s.k, 3⟩) := by
    unfold RS.num
    rw [hb]
    simp only [lead_zero, Nat.zero_min, RS.gath]
    rfl
  unfold RS.int
  rw [hn]
  unfold five RS.needs
  simp
theorem int_step {s : RS} (ho : s.ok) : Step s (RS.int s).2 (encInt (RS.int s).1) := by
  by_cases he : s.e = 0
  · rcases Nat.lt_or_ge s.k s.xs.length with hk | hk
    · have h := int_any ho.2.2 hk ho.2.1
      rw [← rs_eq he] at h
      rcases h with ⟨h1, h2, h3⟩ | ⟨n, f, h1, h2, h3, h4, h5⟩
      · refine .bad h1 ⟨by rw [h1]; exact h2, by rw [h1]; exact ho.2.1, by rw [h1]; exact ho.2.2⟩ (by omega)
      · rw [h1]
        refine ⟨rfl, ⟨h2, ho.2.1, ho.2.2⟩, fun _ => ⟨he, by simp only; omega, ?_⟩⟩
        rw [h5]
        congr 1
        simp only
        omega
    · rw [int_end he hk]
      exact .bad rfl ⟨ho.1, ho.2.1, ho.2.2⟩ (by simp)
  · rw [int_bad he]
    exact .bad rfl ho he
theorem count_step {s : RS} (ho : s.ok) (m : Int) : Step s (RS.count s m).2 (encInt (RS.count s m).1) := by
  have h := int_step ho
  unfold RS.count
  split
  · exact .bad (by rw [fail_xs]; exact h.xs) (fail_ok h.ok 7) (fail_ne' (by decide))
  · exact h
theorem byte_step {s : RS} (ho : s.ok) : Step s s.byte.2 [s.byte.1] := by
  by_cases he : s.e = 0
  · rcases Nat.lt_or_ge s.k s.xs.length with hk | hk
    · have hb : s.byte = (s.xs.getD s.k 0, { s with k := s.k + 1 }) := by unfold RS.byte; rw [if_pos he, if_pos hk]
      rw [hb]
      refine ⟨rfl, ⟨hk, ho.2.1, ho.2.2⟩, fun _ => ⟨he, by simp only; omega, ?_⟩⟩
      simp only
      rw [show s.k + 1 - s.k = 1 by omega, List.drop_eq_getElem_cons hk, List.getD_eq_getElem?_getD, List.getElem?_eq_getElem hk]
      rfl
    · rw [byte_end he hk]
      exact .bad rfl ⟨ho.1, ho.2.1, ho.2.2⟩ (by simp)
  · rw [byte_bad he]
    exact .bad rfl ho he
theorem sg_sign {n : Int} (h0 : 0 ≤ n) (h1 : n < 4294967296) : sg (sign32 n) = n := by
  unfold sg sign32
  split <;> omega
theorem tkS_step {s : RS} (ho : s.ok) : ∀ j, Step s (tkS s j).2 (encs (fun n => encInt (sg n)) (tkS s j).1)
  | 0 => Step.refl ho
  | j + 1 => by
    have ih := tkS_step ho j
    have h := int_step ih.ok
    have hi := int_in ih.ok
    have := ih.trans h
    simp only [tkS]
    rw [encs_snoc, sg_sign hi.1 hi.2]
    exact this
theorem tkZ_step {s : RS} (ho : s.ok) : ∀ j, Step s (tkZ s j).2 (encs encInt (tkZ s j).1)
  | 0 => Step.refl ho
  | j + 1 => by
    have ih := tkZ_step ho j
    have := ih.trans (count_step ih.ok 20)
    simp only [tkZ]
    rw [encs_snoc]
    exact this
theorem tkL_step {s : RS} (ho : s.ok) (n : Nat) : Step s (tkL s n).2 (symB (tkL s n).1 ++ sizB (tkL s n).1) := by
  have h1 := tkS_step ho n
  have h2 := h1.trans (tkZ_step h1.ok n)
  have e1 : (tkL s n).1.map (·.1) = (tkS s n).1 := List.map_fst_zip (by rw [tkS_len, tkZ_len]; exact Nat.le_refl _)
  have e2 : (tkL s n).1.map (·.2) = (tkZ (tkS s n).2 n).1 := List.map_snd_zip (by rw [tkS_len, tkZ_len]; exact Nat.le_refl _)
  rw [symB, sizB, e1, e2]
  exact h2
theorem tkE_step {s : RS} (ho : s.ok) : Step s (tkE s).2 (entB (tkE s).1) := by
  have h1 := count_step ho 256
  have hc := (count_in ho (m := 256) (by omega)).1
  have h2 := h1.trans (tkL_step h1.ok (RS.count s 256).1.toNat)
  rw [entB]
  unfold tkE
  rw [tkL_len, Int.toNat_of_nonneg hc]
  exact h2
theorem tkI_step {s : RS} (ho : s.ok) : Step s (tkI s).2 (bytI (tkI s).1) := by
  have h1 := count_step ho 255
  unfold tkI bytI bodI
  split
  · rename_i hk
    have h2 := h1.trans (count_step h1.ok 60000)
    rw [hk] at h2
    exact h2
  · split
    · rename_i hk
      have h2 := h1.trans (tkE_step h1.ok)
      rw [hk] at h2
      exact h2
    · split
      · rename_i hk
        have h2 := int_step h1.ok
        have hi := int_in h1.ok
        have h3 := h1.trans (h2.trans (count_step h2.ok 31))
        rw [hk] at h3
        simp only
        rw [sg_sign hi.1 hi.2]
        exact h3
      · rename_i n1 n3 n6
        rw [List.append_nil]
        exact h1
theorem tkA_step {s : RS} (ho : s.ok) (hk : (tkA s).1.K = 4 ∨ (tkA s).1.K = 5) : Step s (tkA s).2 (bytA (tkA s).1) := by
  have h1 := count_step ho 255
  have h2 := h1.trans (count_step h1.ok 60000)
  unfold tkA at hk ⊢
  unfold bytA
  split
  · rename_i h4
    have h3 := h2.trans (tkI_step h2.ok)
    rw [h4, List.append_assoc] at h3
    simp only
    rw [if_neg (by decide)]
    exact h3
  · split
    · rename_i h5
      have h3 := h2.trans (byte_step h2.ok)
      rw [h5, List.append_assoc] at h3
      simp only
      rw [if_pos trivial]
      exact h3
    · rename_i n4 n5
      rw [if_neg n4, if_neg n5] at hk
      simp only at hk
      omega
theorem ends_zero {s : RS} {e : Int} (h : (ends s e).e = 0) : e = 0 ∧ ends s e = s := by
  unfold ends at h ⊢
  split at h
  · exact absurd h (fail_ne' (by assumption))
  · rename_i hn
    have : e = 0 := by omega
    exact ⟨this, by rw [if_neg hn]⟩
theorem ends_ok {s : RS} (h : s.ok) (e : Int) : (ends s e).ok ∧ (ends s e).xs = s.xs := by
  unfold ends
  split
  · exact ⟨fail_ok h e, fail_xs s e⟩
  · exact ⟨h, rfl⟩
theorem TI_any {s : RS} (ho : s.ok) : (TI s).2.ok ∧ (TI s).2.xs = s.xs ∧ ((TI s).2.e = 0 → chkI (TI s).1 = 0 ∧ s.e = 0 ∧ s.k ≤ (TI s).2.k ∧ bytI (TI s).1 = (s.xs.drop s.k).take ((TI s).2.k - s.k)) ∧ ((TI s).2.e ≠ 0 → (TI s).1 = D0) := by
  have h := tkI_step ho
  have h2 := ends_ok h.ok (chkI (tkI s).1)
  unfold TI
  split
  · rename_i he
    obtain ⟨h3, h4⟩ := ends_zero he
    refine ⟨h2.1, h2.2.trans h.xs, fun _ => ?_, fun hn => absurd he hn⟩
    simp only
    rw [h4] at he ⊢
    exact ⟨h3, h.good he⟩
  · rename_i he
    exact ⟨h2.1, h2.2.trans h.xs, fun hn => absurd hn he, fun _ => rfl⟩
theorem TA_any {s : RS} (ho : s.ok) : ((TA s).2.e = 0 → chkA (TA s).1 = 0 ∧ s.e = 0 ∧ s.k ≤ (TA s).2.k ∧ bytA (TA s).1 = (s.xs.drop s.k).take ((TA s).2.k - s.k)) ∧ ((TA s).2.e ≠ 0 → (TA s).1 = E0) := by
  unfold TA
  split
  · rename_i he
    obtain ⟨h3, h4⟩ := ends_zero he
    refine ⟨fun _ => ?_, fun hn => absurd he hn⟩
    simp only
    have hk := (chkA_ok h3).2
    have h := tkA_step ho (by rcases hk with h | h; exact .inr h; exact .inl h.1)
    rw [h4] at he ⊢
    exact ⟨h3, h.good he⟩
  · rename_i he
    exact ⟨fun hn => absurd hn he, fun _ => rfl⟩
end Go.Proofs.YtgaofnmgdefdcaaGreatDoor.Ds

namespace Go.Proofs.YtgaofnmgdefdcaaGreatDoor.Ds
open Go.RowKit Go.Proofs.YtgaofnmgdefdcaaGreatDoor.Gen Go.Proofs.YtgaofnmgdefdcaaGreatDoor.Wr Go.Proofs.YtgaofnmgdefdcaaGreatDoor.It Go.Proofs.YtgaofnmgdefdcaaGreatDoor.Ir Go.Proofs.YtgaofnmgdefdcaaGreatDoor.Ib Go.Proofs.YtgaofnmgdefdcaaGreatDoor.Tw Go.Proofs.YtgaofnmgdefdcaaGreatDoor.Hr Go.Proofs.YtgaofnmgdefdcaaGreatDoor.Hn Go.Proofs.YtgaofnmgdefdcaaGreatDoor.Hk Go.Proofs.YtgaofnmgdefdcaaGreatDoor.Ln

/-- What belongs to its kind, and no more. -/
def clI (d : D) : D := if d.K = 1 then ⟨1, d.B, [], 0, 0⟩ else if d.K = 3 then ⟨3, 0, d.L, 0, 0⟩ else if d.K = 6 then ⟨6, 0, [], d.le, d.bi⟩ else ⟨d.K, 0, [], 0, 0⟩
def clA (a : E) : E := if a.K = 4 then ⟨clI a.d, 4, a.B, 0⟩ else if a.K = 5 then ⟨D0, 5, a.B, a.S⟩ else ⟨D0, a.K, a.B, 0⟩
theorem sign_sg {n : Int} (h0 : -2147483648 ≤ n) (h1 : n ≤ 2147483647) : sign32 (sg n) = n ∧ 0 ≤ sg n ∧ sg n < 4294967296 := by
  unfold sg sign32
  split <;> omega
theorem drop_next {all xs rest : List Int} {k : Nat} (h : all.drop k = xs ++ rest) : all.drop (k + xs.length) = rest := by
  rw [← List.drop_drop, h, List.drop_left]
theorem count_back {all rest : List Int} {k : Nat} {n m : Int} (h : all.drop k = encInt n ++ rest) (h0 : 0 ≤ n) (h1 : n ≤ m) (h2 : m < 4294967296) : RS.count ⟨all, k, 0⟩ m = (n, ⟨all, k + (encInt n).length, 0⟩) := by
  unfold RS.count
  rw [int_back h h0 (by omega)]
  exact if_neg (by simp only; omega)
theorem encs_cons (e : Int → List Int) (x : Int) (zs : List Int) : encs e (x :: zs) = e x ++ encs e zs := by simp [encs]
theorem encs_split (e : Int → List Int) {zs : List Int} {j : Nat} {x : Int} (h : zs[j]? = some x) : encs e zs = encs e (zs.take j) ++ (e x ++ encs e (zs.drop (j + 1))) := by
  obtain ⟨hl, hx⟩ := List.getElem?_eq_some_iff.1 h
  have h2 : zs = zs.take j ++ x :: zs.drop (j + 1) := by
    rw [← hx, List.getElem_cons_drop, List.take_append_drop]
  conv => lhs; rw [h2]
  simp [encs]
theorem tkS_back {all rest L : List Int} {k : Nat} (h : all.drop k = encs (fun n => encInt (sg n)) L ++ rest) (hL : ∀ n ∈ L, -2147483648 ≤ n ∧ n ≤ 2147483647) :
    ∀ j, j ≤ L.length → tkS ⟨all, k, 0⟩ j = (L.take j, ⟨all, k + (encs (fun n => encInt (sg n)) (L.take j)).length, 0⟩)
  | 0, _ => by simp [tkS, encs]
  | j + 1, hj => by
    have ih := tkS_back h hL j (by omega)
    have hx : L[j]? = some L[j] := List.getElem?_eq_getElem (by omega)
    obtain ⟨s1, s2, s3⟩ := sign_sg (hL L[j] (List.getElem_mem _)).1 (hL L[j] (List.getElem_mem _)).2
    have hd : all.drop (k + (encs (fun n => encInt (sg n)) (L.take j)).length) = encInt (sg L[j]) ++ (encs (fun n => encInt (sg n)) (L.drop (j + 1)) ++ rest) := by
      apply drop_next
      rw [h, encs_split _ hx]
      simp only [List.append_assoc]
    have hi := int_back hd s2 s3
    simp only [tkS, ih, hi, s1]
    rw [encs_take hx, take_snoc hx, List.length_append, Nat.add_assoc]
theorem tkZ_back {all rest L : List Int} {k : Nat} (h : all.drop k = encs encInt L ++ rest) (hL : ∀ n ∈ L, 0 ≤ n ∧ n ≤ 20) :
    ∀ j, j ≤ L.length → tkZ ⟨all, k, 0⟩ j = (L.take j, ⟨all, k + (encs encInt (L.take j)).length, 0⟩)
  | 0, _ => by simp [tkZ, encs]
  | j + 1, hj => by
    have ih := tkZ_back h hL j (by omega)
    have hx : L[j]? = some L[j] := List.getElem?_eq_getElem (by omega)
    have hr := hL L[j] (List.getElem_mem _)
    have hd : all.drop (k + (encs encInt (L.take j)).length) = encInt L[j] ++ (encs encInt (L.drop (j + 1)) ++ rest) := by
      apply drop_next
      rw [h, encs_split _ hx]
      simp only [List.append_assoc]
    have hi := count_back hd hr.1 hr.2 (by decide)
    simp only [tkZ, ih, hi]
    rw [encs_take hx, take_snoc hx, List.length_append, Nat.add_assoc]
theorem zip_back : ∀ L : List G, (L.map (·.1)).zip (L.map (·.2)) = L
  | [] => rfl
  | x :: L => by rw [List.map_cons, List.map_cons, List.zip_cons_cons, zip_back L]
theorem tkL_back {all rest : List Int} {L : List G} {k : Nat} (h : all.drop k = symB L ++ (sizB L ++ rest)) (hL : ∀ p ∈ L, (-2147483647 ≤ p.1 ∧ p.1 ≤ 2147483647) ∧ 0 ≤ p.2 ∧ p.2 ≤ 20) :
    tkL ⟨all, k, 0⟩ L.length = (L, ⟨all, k + (symB L).length + (sizB L).length, 0⟩) := by
  have h1 := tkS_back (L := L.map (·.1)) h (fun n hn => by
    obtain ⟨p, hp, rfl⟩ := List.mem_map.1 hn
    have := hL p hp
    omega) L.length (by simp)
  rw [List.take_of_length_le (by simp)] at h1
  have h2 := tkZ_back (L := L.map (·.2)) (drop_next h) (fun n hn => by
    obtain ⟨p, hp, rfl⟩ := List.mem_map.1 hn
    exact (hL p hp).2) L.length (by simp)
  rw [List.take_of_length_le (by simp)] at h2
  unfold tkL
  rw [h1]
  simp only
  rw [show k + (encs (fun n => encInt (sg n)) (L.map (·.1))).length = k + (symB L).length from rfl, h2]
  simp only
  rw [zip_back]
  rfl
theorem tkE_back {all rest : List Int} {L : List G} {k : Nat} (h : all.drop k = entB L ++ rest) (hn : L.length ≤ 256) (hL : ∀ p ∈ L, (-2147483647 ≤ p.1 ∧ p.1 ≤ 2147483647) ∧ 0 ≤ p.2 ∧ p.2 ≤ 20) :
    tkE ⟨all, k, 0⟩ = (L, ⟨all, k + (entB L).length, 0⟩) := by
  rw [entB, List.append_assoc] at h
  have h1 := count_back (m := 256) h (by omega) (by omega) (by decide)
  have h2 := drop_next h
  rw [List.append_assoc] at h2
  unfold tkE
  rw [h1]
  simp only [Int.toNat_natCast]
  rw [tkL_back h2 hL, entB, List.length_append, List.length_append]
  simp only [Nat.add_assoc]
theorem chkI_in {d : D} (h : chkI d = 0) : (d.K = 1 ∧ 1 ≤ d.B ∧ d.B ≤ 60000) ∨ (d.K = 3 ∧ newE d.L = 0) ∨ (d.K = 6 ∧ (-2147483647 ≤ d.le ∧ d.le ≤ 2147483647) ∧ 0 ≤ d.bi ∧ d.bi ≤ 31) := by
  unfold chkI at h
  split at h
  · refine .inl ⟨by assumption, ?_⟩
    unfold blkE at h
    split at h <;> omega
  · split at h
    · exact .inr (.inl ⟨by assumption, h⟩)
    · split at h
      · refine .inr (.inr ⟨by assumption, ?_⟩)
        unfold fixE at h
        split at h <;> omega
      · omega
theorem chkI_cl (d : D) : chkI (clI d) = chkI d := by
  unfold clI
  split
  · rename_i hk
    simp [chkI, hk]
  · split
    · rename_i hk
      simp [chkI, hk]
    · split
      · rename_i hk
        simp [chkI, hk]
      · rename_i n1 n3 n6
        simp [chkI, n1, n3, n6]
theorem tkI_back {all rest : List Int} {d : D} {k : Nat} (h : all.drop k = bytI d ++ rest) (hc : chkI d = 0) : tkI ⟨all, k, 0⟩ = (clI d, ⟨all, k + (bytI d).length, 0⟩) := by
  rcases chkI_in hc with ⟨hk, hb⟩ | ⟨hk, hb⟩ | ⟨hk, hb⟩
  · have e1 : bytI d = encInt 1 ++ encInt d.B := by simp [bytI, bodI, hk]
    rw [e1, List.append_assoc] at h
    have h1 := count_back (m := 255) h (by decide) (by decide) (by decide)
    have h2 := count_back (m := 60000) (drop_next h) (by omega) (by omega) (by decide)
    unfold tkI
    rw [h1]
    simp only
    rw [if_pos trivial, h2, e1, List.length_append, clI, if_pos hk, Nat.add_assoc]
  · have e1 : bytI d = encInt 3 ++ entB d.L := by simp [bytI, bodI, hk]
    rw [e1, List.append_assoc] at h
    have h1 := count_back (m := 255) h (by decide) (by decide) (by decide)
    have h2 := tkE_back (drop_next h) (newE_zero hb).1.2 (newE_in hb)
    unfold tkI
    rw [h1]
    simp only
    rw [if_neg (by decide), if_pos trivial, h2, e1, List.length_append, clI, if_neg (by omega), if_pos hk, Nat.add_assoc]
  · have e1 : bytI d = encInt 6 ++ (encInt (sg d.le) ++ encInt d.bi) := by simp [bytI, bodI, hk]
    rw [e1, List.append_assoc, List.append_assoc] at h
    obtain ⟨s1, s2, s3⟩ := sign_sg (n := d.le) (by omega) (by omega)
    have h1 := count_back (m := 255) h (by decide) (by decide) (by decide)
    have h2 := int_back (drop_next h) s2 s3
    have h3 := count_back (m := 31) (drop_next (drop_next h)) hb.2.1 hb.2.2 (by decide)
    unfold tkI
    rw [h1]
    simp only
    rw [if_neg (by decide), if_neg (by decide), if_pos trivial, h2]
    simp only
    rw [h3, s1, e1, List.length_append, List.length_append, clI, if_neg (by omega), if_neg (by omega), if_pos hk]
    simp only [Nat.add_assoc]
theorem TI_back {all rest : List Int} {d : D} {k : Nat} (h : all.drop k = bytI d ++ rest) (hc : chkI d = 0) : TI ⟨all, k, 0⟩ = (clI d, ⟨all, k + (bytI d).length, 0⟩) := by
  unfold TI
  rw [tkI_back h hc]
  simp only
  rw [chkI_cl, hc]
  rfl
theorem TA_back {all rest : List Int} {a : E} {k : Nat} (h : all.drop k = bytA a ++ rest) (hc : chkA a = 0) : TA ⟨all, k, 0⟩ = (clA a, ⟨all, k + (bytA a).length, 0⟩) := by
  obtain ⟨hb, hk⟩ := chkA_ok hc
  have hcl : chkA (clA a) = 0 := by
    have hz : blkE a.B = 0 := by unfold blkE; rw [if_neg (by omega)]
    rcases hk with hk | ⟨hk, hd⟩
    · simp [clA, chkA, hk, hz]
    · simp [clA, chkA, hk, hz, chkI_cl, hd]
  have ht : tkA ⟨all, k, 0⟩ = (clA a, ⟨all, k + (bytA a).length, 0⟩) := by
    rcases hk with hk | ⟨hk, hd⟩
    · have e1 : bytA a = encInt 5 ++ (encInt a.B ++ [a.S]) := by simp [bytA, hk]
      rw [e1, List.append_assoc, List.append_assoc] at h
      have h1 := count_back (m := 255) h (by decide) (by decide) (by decide)
      have h2 := count_back (m := 60000) (drop_next h) (by omega) (by omega) (by decide)
      have h3 := drop_next (drop_next h)
      have hx : all[k + (encInt 5).length + (encInt a.B).length]? = some a.S := by
        have := at_drop h3 0
        rwa [Nat.add_zero] at this
      obtain ⟨hl, hx2⟩ := List.getElem?_eq_some_iff.1 hx
      have h4 : RS.byte ⟨all, k + (encInt 5).length + (encInt a.B).length, 0⟩ = (a.S, ⟨all, k + (encInt 5).length + (encInt a.B).length + 1, 0⟩) := by
        unfold RS.byte
        rw [if_pos rfl, if_pos hl]
        simp only
        rw [List.getD_eq_getElem?_getD, hx]
        rfl
      unfold tkA
      rw [h1]
      simp only
      rw [if_neg (by decide), if_pos trivial, h2]
      simp only
      rw [h4, e1, List.length_append, List.length_append, clA, if_neg (by omega), if_pos hk]
      simp only [Nat.add_assoc, List.length_singleton]
    · have e1 : bytA a = encInt 4 ++ (encInt a.B ++ bytI a.d) := by simp [bytA, hk]
      rw [e1, List.append_assoc, List.append_assoc] at h
      have h1 := count_back (m := 255) h (by decide) (by decide) (by decide)
      have h2 := count_back (m := 60000) (drop_next h) (by omega) (by omega) (by decide)
      have h3 := tkI_back (drop_next (drop_next h)) hd
      unfold tkA
      rw [h1]
      simp only
      rw [if_pos trivial, h2]
      simp only
      rw [h3, e1, List.length_append, List.length_append, clA, if_pos hk]
      simp only [Nat.add_assoc]
  unfold TA
  rw [ht]
  simp only
  rw [hcl]
  rfl
end Go.Proofs.YtgaofnmgdefdcaaGreatDoor.Ds


namespace Go.Proofs.YtgaofnmgdefdcaaGreatDoor.Ds
open Go.RowKit Go.Proofs.YtgaofnmgdefdcaaGreatDoor.Gen Go.Proofs.YtgaofnmgdefdcaaGreatDoor.Wr Go.Proofs.YtgaofnmgdefdcaaGreatDoor.It Go.Proofs.YtgaofnmgdefdcaaGreatDoor.Ir Go.Proofs.YtgaofnmgdefdcaaGreatDoor.Ib Go.Proofs.YtgaofnmgdefdcaaGreatDoor.Tw Go.Proofs.YtgaofnmgdefdcaaGreatDoor.Hr Go.Proofs.YtgaofnmgdefdcaaGreatDoor.Hn Go.Proofs.YtgaofnmgdefdcaaGreatDoor.Hk Go.Proofs.YtgaofnmgdefdcaaGreatDoor.Ln

/-- The least number whose power of two is no less than n (n at most 32). -/
def up2 (n : Nat) : Nat := if n ≤ 1 then 0 else if n ≤ 2 then 1 else if n ≤ 4 then 2 else if n ≤ 8 then 3 else if n ≤ 16 then 4 else 5
def smZ (n : Nat) (ev : Bool) (i : Nat) : Nat := if 1 < n ∧ ev = true then min (i + 1) (n - 1) else up2 (max n 1)
def smL (n : Nat) (ev : Bool) (le : Int) (m : Nat) : List G := (List.range m).map fun (i : Nat) => (le + 3 * (i : Int), (smZ n ev i : Int))
theorem smL_len (n : Nat) (ev : Bool) (le : Int) (m : Nat) : (smL n ev le m).length = m := by simp [smL]
theorem smL_snoc (n : Nat) (ev : Bool) (le : Int) (m : Nat) : smL n ev le (m + 1) = smL n ev le m ++ [(le + 3 * (m : Int), (smZ n ev m : Int))] := by simp [smL, List.range_succ]
theorem smZ_fin : ∀ (n : Fin 21) (ev : Bool) (i : Fin 20), smZ n.val ev i.val ≤ 20 ∧ (smZ n.val ev i.val = 0 → n.val ≤ 1) := by decide +kernel
theorem pos_fin : ∀ (n : Fin 21) (ev : Bool), ((List.range (max n.val 1)).map fun i => 2 ^ (20 - smZ n.val ev i)).sum ≤ 1048576 := by decide +kernel
theorem smL_pos (n : Nat) (ev : Bool) (le : Int) (m : Nat) : posOf (nats' (smL n ev le m)) = ((List.range m).map fun i => 2 ^ (20 - smZ n ev i)).sum := by
  simp only [posOf, nats', smL, List.map_map]
  rfl
theorem smL_get {n : Nat} {ev : Bool} {le : Int} {m i : Nat} (h : i < m) : (smL n ev le m).getD i (0, 0) = (le + 3 * (i : Int), (smZ n ev i : Int)) := by
  rw [List.getD_eq_getElem?_getD, smL, List.getElem?_map, List.getElem?_range h]
  rfl
theorem smL_new {n : Nat} (ev : Bool) {le : Int} (hn : n ≤ 20) (h0 : -32768 ≤ le) (h1 : le ≤ 32767) : newE (smL n ev le (max n 1)) = 0 := by
  unfold newE
  rw [smL_len, if_neg (by omega)]
  have hz : (List.range (max n 1)).find? (fun i => decide (errAt (smL n ev le (max n 1)) i ≠ 0)) = none := by
    rw [List.find?_eq_none]
    intro i hi
    rw [List.mem_range] at hi
    have hs := smZ_fin ⟨n, by omega⟩ ev ⟨i, by omega⟩
    simp only at hs
    have he : errAt (smL n ev le (max n 1)) i = 0 := by
      unfold errAt entErr
      rw [smL_len, smL_get hi, smL_get (show i - 1 < max n 1 by omega)]
      simp only
      rw [if_neg (by omega), if_neg (by omega), if_neg (by omega)]
    simp [he]
  rw [hz]
  simp only
  have hp := pos_fin ⟨n, by omega⟩ ev
  rw [smL_pos]
  exact if_neg (by simp only at hp; omega)

/-- A way by small numbers. -/
structure Sm where
  K : Int
  bi : Int
  B : Int
  le : Int
  n : Nat
  S : Int
  stop : Bool
structure Sm.ok (s : Sm) : Prop where
  K : 0 ≤ s.K ∧ s.K < 256
  bi : 0 ≤ s.bi ∧ s.bi < 256
  B : 0 ≤ s.B ∧ s.B < 65536
  le : -32768 ≤ s.le ∧ s.le ≤ 32767
  S : 0 ≤ s.S ∧ s.S < 256
def Sm.ent (s : Sm) : List G := smL (min s.n 20) (decide (s.bi % 2 = 0)) s.le (max (min s.n 20) 1)
def Sm.I (s : Sm) : D := if s.K % 3 = 0 then ⟨1, 1 + s.B % 60000, [], 0, 0⟩ else if s.K % 3 = 1 then ⟨6, 0, [], s.le, s.bi % 32⟩ else ⟨3, 0, s.ent, 0, 0⟩
def Sm.A (s : Sm) : E := if s.stop = true then ⟨D0, 5, 1 + s.B % 60000, s.S⟩ else ⟨s.I, 4, 1 + s.B % 60000, 0⟩
theorem Sm.I_ok {s : Sm} (h : s.ok) : chkI s.I = 0 ∧ clI s.I = s.I ∧ s.I.L.length ≤ 20 := by
  unfold Sm.I
  split
  · refine ⟨?_, by simp [clI], by simp⟩
    simp only [chkI, blkE]
    rw [if_pos trivial, if_neg (by omega)]
  · split
    · refine ⟨?_, by simp [clI], by simp⟩
      have := h.le
      simp only [chkI, fixE]
      rw [if_neg (by decide), if_neg (by decide), if_pos trivial, if_neg (by omega)]
    · refine ⟨?_, by simp [clI], by simp only [Sm.ent, smL_len]; omega⟩
      simp only [chkI]
      rw [if_neg (by decide), if_pos trivial]
      exact smL_new _ (by omega) h.le.1 h.le.2
theorem Sm.A_ok {s : Sm} (h : s.ok) : chkA s.A = 0 ∧ clA s.A = s.A ∧ s.A.d.L.length ≤ 20 := by
  obtain ⟨h1, h2, h3⟩ := Sm.I_ok h
  have hz : blkE (1 + s.B % 60000) = 0 := by unfold blkE; rw [if_neg (by omega)]
  unfold Sm.A
  split
  · exact ⟨by simp [chkA, hz], by simp [clA], by simp [D0]⟩
  · exact ⟨by simp [chkA, hz, h1], by simp [clA, h2], h3⟩
/-- Ways that hold nothing else are the same if their bytes are. -/
theorem byt_inj {a b : D} (ha : chkI a = 0) (hb : chkI b = 0) (ca : clI a = a) (cb : clI b = b) : bytI a = bytI b ↔ a = b := by
  refine ⟨fun h => ?_, fun h => by rw [h]⟩
  have h1 := tkI_back (all := bytI a) (k := 0) (rest := []) (d := a) (by simp) ha
  have h2 := tkI_back (all := bytI a) (k := 0) (rest := []) (d := b) (by simp [h]) hb
  rw [h1] at h2
  have := congrArg Prod.fst h2
  simp only at this
  rw [ca, cb] at this
  exact this
theorem bytA_inj {a b : E} (ha : chkA a = 0) (hb : chkA b = 0) (ca : clA a = a) (cb : clA b = b) : bytA a = bytA b ↔ a = b := by
  refine ⟨fun h => ?_, fun h => by rw [h]⟩
  have h1 := TA_back (all := bytA a) (k := 0) (rest := []) (a := a) (by simp) ha
  have h2 := TA_back (all := bytA a) (k := 0) (rest := []) (a := b) (by simp [h]) hb
  rw [h1] at h2
  have := congrArg Prod.fst h2
  simp only at this
  rw [ca, cb] at this
  exact this
end Go.Proofs.YtgaofnmgdefdcaaGreatDoor.Ds

namespace Go.Proofs.YtgaofnmgdefdcaaGreatDoor.Ds
open Go.RowKit Go.Proofs.YtgaofnmgdefdcaaGreatDoor.Gen Go.Proofs.YtgaofnmgdefdcaaGreatDoor.Wr Go.Proofs.YtgaofnmgdefdcaaGreatDoor.It Go.Proofs.YtgaofnmgdefdcaaGreatDoor.Ir Go.Proofs.YtgaofnmgdefdcaaGreatDoor.Ib Go.Proofs.YtgaofnmgdefdcaaGreatDoor.Tw Go.Proofs.YtgaofnmgdefdcaaGreatDoor.Hr Go.Proofs.YtgaofnmgdefdcaaGreatDoor.Hn Go.Proofs.YtgaofnmgdefdcaaGreatDoor.Hk Go.Proofs.YtgaofnmgdefdcaaGreatDoor.Ln

/-- Small's value. -/
def Sm.v (s : Sm) (A : Option Addr) (c : Nat) : Array Value := #[.int .u8 s.K, .int .u8 s.bi, .int .u16 s.B, .int .i16 s.le, .slice A s.n c, .int .u8 s.S, .bool s.stop]
/-- A way that a call has made: its entries lie in new memory. -/
def MadeI (d : D) (w : World) (r : Ending) (w' : World) : Prop :=
  ∃ A n c, r = .returned (.agg (dv A n c d)) ∧ Ents w' A n d.L ∧ (∀ b o, A = some ⟨b, o, none⟩ → w.heap.size ≤ b) ∧ Keeps (fun _ => False) w w'

set_option maxHeartbeats 8000000 in
set_option maxRecDepth 100000 in
theorem ints_0 (s : Sm) (A : Option Addr) (c : Nat) (w : World) (h : s.ok) (h3 : s.K % 3 = 0) : Calls Tryz.prog 13 #[.agg (s.v A c)] w (MadeI s.I w) := by
  obtain ⟨K, bi, B, le, n, S, stop⟩ := s
  have hK := h.K
  have hB := h.B
  simp only at hK hB h3
  have HI : Hid (Sm.I ⟨K, bi, B, le, n, S, stop⟩ = ⟨1, 1 + B % 60000, [], 0, 0⟩) := by show _ = _; simp [Sm.I, h3]
  have hm : K.tmod 3 = 0 := by rw [Int.tmod_eq_emod_of_nonneg hK.1]; exact h3
  have hb : B.tmod 60000 = B % 60000 := Int.tmod_eq_emod_of_nonneg hB.1
  have hr : 0 ≤ B % 60000 ∧ B % 60000 < 60000 := by omega
  clear h
  unfold Sm.v
  simp only
  go_enter Tryz.func13, Tryz.ntmps13
  go_wp2
  refine bodyPost_ret (v := .agg #[.int .u8 1, .int .i64 (1 + B % 60000), .slice none 0 0, .int .i64 0, .int .i64 0]) (by simp [results, Tryz.results13, go_sem]) rfl ?_
  · rw [HI.out]
    exact ⟨none, 0, 0, rfl, ⟨.inl rfl, rfl, by omega⟩, by simp, ((Keeps.refl _ _).alloc _).alloc _⟩

set_option maxHeartbeats 8000000 in
set_option maxRecDepth 100000 in
theorem ints_1 (s : Sm) (A : Option Addr) (c : Nat) (w : World) (h : s.ok) (h3 : s.K % 3 = 1) : Calls Tryz.prog 13 #[.agg (s.v A c)] w (MadeI s.I w) := by
  obtain ⟨K, bi, B, le, n, S, stop⟩ := s
  have hK := h.K
  have hB := h.bi
  have hl := h.le
  simp only at hK hB h3 hl
  have HI : Hid (Sm.I ⟨K, bi, B, le, n, S, stop⟩ = ⟨6, 0, [], le, bi % 32⟩) := by show _ = _; simp [Sm.I, h3]
  have hm : K.tmod 3 = 1 := by rw [Int.tmod_eq_emod_of_nonneg hK.1]; exact h3
  have hb : bi.tmod 32 = bi % 32 := Int.tmod_eq_emod_of_nonneg hB.1
  have hr : 0 ≤ bi % 32 ∧ bi % 32 < 32 := by omega
  clear h
  unfold Sm.v
  simp only
  go_enter Tryz.func13, Tryz.ntmps13
  go_wp2
  refine bodyPost_ret (v := .agg #[.int .u8 6, .int .i64 0, .slice none 0 0, .int .i64 le, .int .i64 (bi % 32)]) (by simp [results, Tryz.results13, go_sem]) rfl ?_
  · rw [HI.out]
    exact ⟨none, 0, 0, rfl, ⟨.inl rfl, rfl, by omega⟩, by simp, ((Keeps.refl _ _).alloc _).alloc _⟩
end Go.Proofs.YtgaofnmgdefdcaaGreatDoor.Ds


namespace Go.Proofs.YtgaofnmgdefdcaaGreatDoor.Fq
open Go.RowKit Go.Proofs.YtgaofnmgdefdcaaGreatDoor.Gen
set_option maxRecDepth 100000

/-- Numbers as cells. -/
def vs (l : List Int) : Array Value := (l.map (Value.int .i64)).toArray
theorem vs_size (l : List Int) : (vs l).size = l.length := by simp [vs]
theorem vs_get {l : List Int} {j : Nat} (h : j < l.length) : (vs l)[j]? = some (.int .i64 (l.getD j 0)) := by
  simp [vs, List.getElem?_eq_getElem h, List.getD]
theorem vs_set (l : List Int) (j : Nat) (x : Int) : (vs l).setIfInBounds j (.int .i64 x) = vs (l.set j x) := by
  simp [vs, List.map_set]
theorem vs_one (l : List Int) : (vs l).all (·.oneCell') = true := by
  simp [vs, Value.oneCell']
theorem vs_inj {a b : List Int} (h : vs a = vs b) : a = b := by
  have h1 : a.map (Value.int .i64) = b.map (Value.int .i64) := by
    have := congrArg Array.toList h
    simpa [vs] using this
  exact List.map_inj_right (fun x y hxy => by injection hxy) |>.1 h1
theorem vs_rep (n : Nat) : Array.replicate n (Value.int .i64 0) = vs (List.replicate n 0) := by
  simp [vs]
/-- A whole row is loaded; stored. -/
theorem ld_row {ops : Array Oper} {rest : List Oper} {dst : Option Tmp} {ty ty' e : TypeId} {n : Nat} {x : Operand} {pos : String} {after : Array Edge} {a : Act} {w : World} {Q : Exit → Act → World → Prop} {g : Nat} {t : TypeId} {cs : Array Value}
    (hb : Blk w g t cs) (hu : Tryz.prog.underlying ty = some (.array n e)) (hi : (Tryz.prog.info? ty).map (·.size) = some cs.size)
    (hx : a.eval x = .pointer (some ⟨g, 0, none⟩)) (h : wpList Tryz.prog ops Q rest (a.put dst (.agg cs)) w) :
    wpList Tryz.prog ops Q ({ dst := dst, op := .load ty x, type := ty', pos := pos, after := after, guard := none } :: rest) a w :=
  wpList_load_row rfl ty x rfl g hx t cs (0, 0) _ hb hu rfl hi h
theorem ld_row_g {ops : Array Oper} {rest : List Oper} {dst : Option Tmp} {ty ty' e : TypeId} {n : Nat} {x : Operand} {pos : String} {after : Array Edge} {gd : Option (Nat × Bool)} {a : Act} {w : World} {Q : Exit → Act → World → Prop} {g : Nat} {t : TypeId} {cs : Array Value}
    (hb : Blk w g t cs) (hu : Tryz.prog.underlying ty = some (.array n e)) (hi : (Tryz.prog.info? ty).map (·.size) = some cs.size)
    (hw : Region.wanted { dst := dst, op := .load ty x, type := ty', pos := pos, after := after, guard := gd } (yielded ops a.tmps) = true)
    (hx : a.eval x = .pointer (some ⟨g, 0, none⟩)) (h : wpList Tryz.prog ops Q rest (a.put dst (.agg cs)) w) :
    wpList Tryz.prog ops Q ({ dst := dst, op := .load ty x, type := ty', pos := pos, after := after, guard := gd } :: rest) a w :=
  wpList_step fun _ hK => by
    rw [if_pos hw]
    exact wp_load_row ty x rfl g hx t cs (0, 0) _ hb hu rfl hi (hK _ _ h)
theorem st_row {ops : Array Oper} {rest : List Oper} {dst : Option Tmp} {ty ty' : TypeId} {x y : Operand} {pos : String} {after : Array Edge} {a : Act} {w : World} {Q : Exit → Act → World → Prop} {g : Nat} {t : TypeId} {old cs : Array Value}
    (hb : Blk w g t old) (hi : (Tryz.prog.info? ty).map (·.size) = some cs.size) (ho : old.size = cs.size) (h1 : cs.all (·.oneCell') = true)
    (hx : a.eval x = .pointer (some ⟨g, 0, none⟩)) (hy : a.eval y = .agg cs) (h : wpList Tryz.prog ops Q rest (a.put dst undef) (w.setRow g cs)) :
    wpList Tryz.prog ops Q ({ dst := dst, op := .store ty x y, type := ty', pos := pos, after := after, guard := none } :: rest) a w :=
  wpList_store_row rfl ty x y rfl g cs hx hy t old hb hi ho h1 h

theorem run_idx (t : TypeId) (n : Nat) (ht : Tryz.prog.underlying t = some (.array n 3)) (cs : Array Value) (k : IntKind) (j : Nat) (v : Value) (hj : j < n) (hv : cs[j]? = some v) (w : World) :
    (Instr.index t (.agg cs) (.int k (j : Int))).run Tryz.prog w = .ok v w := by
  have h1 : (0 : Int) ≤ (j : Int) ∧ (j : Int) < (n : Int) := ⟨by omega, by omega⟩
  have hag : (isAgg 3).run Tryz.prog w = .ok false w := by simp [isAgg, Tryz.underlying3, go_sem]
  have hsz : (sizeOf 3).run Tryz.prog w = .ok 1 w := by simp [go_sem]
  simp [Instr.index, asIntOf, run_underlying ht, h1.1, h1.2, part, hag, hsz, hv, Result.andThen]
  intro h; omega

/-- The greatest of the first d, the first of such. -/
def gre (l : List Int) : Nat → Nat
  | 0 => 0
  | d + 1 => if l.getD (gre l d) 0 < l.getD d 0 then d else gre l d
theorem gre_lt (l : List Int) : ∀ {d : Nat}, 0 < d → gre l d < d
  | 0, h => by omega
  | d + 1, _ => by
    unfold gre
    split
    · omega
    · rcases Nat.eq_zero_or_pos d with rfl | hd
      · simp [gre]
      · have := gre_lt l hd
        omega
end Go.Proofs.YtgaofnmgdefdcaaGreatDoor.Fq

namespace Go.Proofs.YtgaofnmgdefdcaaGreatDoor.Fq
open Go.RowKit Go.Proofs.YtgaofnmgdefdcaaGreatDoor.Gen

/-- No part out of range. -/
def Fine (l : List Int) : Prop := ∀ x ∈ l, 0 ≤ x ∧ x ≤ 4096
instance (l : List Int) : Decidable (Fine l) := List.decidableBAll _ l
def chk (l : List Int) : Int := if Fine l then (if l.sum = 4096 then 0 else 8) else 2
theorem take_next {l : List Int} {d : Nat} (h : d < l.length) : l.take (d + 1) = l.take d ++ [l.getD d 0] := by
  rw [List.take_add_one, List.getElem?_eq_getElem h, List.getD, List.getElem?_eq_getElem h]
  simp
theorem sum_snoc (l : List Int) (x : Int) : (l ++ [x]).sum = l.sum + x := by simp
theorem sum_next {l : List Int} {d : Nat} (h : d < l.length) : (l.take (d + 1)).sum = (l.take d).sum + l.getD d 0 := by rw [take_next h, sum_snoc]
theorem Fine.next {l : List Int} {d : Nat} (h : d < l.length) (hf : Fine (l.take d)) (hx : 0 ≤ l.getD d 0 ∧ l.getD d 0 ≤ 4096) : Fine (l.take (d + 1)) := by
  rw [take_next h]
  intro x hm
  rcases List.mem_append.1 hm with hm | hm
  · exact hf x hm
  · simp only [List.mem_singleton] at hm; rw [hm]; exact hx
theorem Fine.sum : ∀ {l : List Int}, Fine l → 0 ≤ l.sum ∧ l.sum ≤ 4096 * l.length
  | [], _ => by simp
  | a :: r, h => by
    have h1 := h a (by simp)
    have h2 := Fine.sum (l := r) fun x hx => h x (by simp [hx])
    simp only [List.sum_cons, List.length_cons]
    omega
theorem not_fine {l : List Int} {d : Nat} (h : d < l.length) (hx : ¬ (0 ≤ l.getD d 0 ∧ l.getD d 0 ≤ 4096)) : ¬ Fine l := by
  intro hf
  apply hx
  rw [List.getD, List.getElem?_eq_getElem h]
  exact hf _ (List.getElem_mem h)

end Go.Proofs.YtgaofnmgdefdcaaGreatDoor.Fq

namespace Go.Proofs.YtgaofnmgdefdcaaGreatDoor.Fq

/-- One count's parts. -/
def part1 (sum n : Int) : Int := if 0 < n then max (n * 4096 / sum) 1 else 0
/-- Counts that may be. -/
def InR (l : List Int) : Prop := ∀ x ∈ l, 0 ≤ x ∧ x ≤ 2147483647
instance (l : List Int) : Decidable (InR l) := List.decidableBAll _ l
def dec1 (l : List Int) : List Int := l.set (gre l 256) (l.getD (gre l 256) 0 - 1)
def lose (l : List Int) : Nat → List Int
  | 0 => l
  | j + 1 => dec1 (lose l j)
def pts (c : List Int) : List Int := c.map (part1 c.sum)
def scal (c : List Int) : List Int :=
  if 0 < 4096 - (pts c).sum then (pts c).set (gre c 256) ((pts c).getD (gre c 256) 0 + (4096 - (pts c).sum)) else lose (pts c) ((pts c).sum - 4096).toNat

theorem InR.next {l : List Int} {d : Nat} (h : d < l.length) (hf : InR (l.take d)) (hx : 0 ≤ l.getD d 0 ∧ l.getD d 0 ≤ 2147483647) : InR (l.take (d + 1)) := by
  rw [take_next h]
  intro x hm
  rcases List.mem_append.1 hm with hm | hm
  · exact hf x hm
  · simp only [List.mem_singleton] at hm; rw [hm]; exact hx
theorem InR.sum : ∀ {l : List Int}, InR l → 0 ≤ l.sum ∧ l.sum ≤ 2147483647 * l.length
  | [], _ => by simp
  | a :: r, h => by
    have h1 := h a (by simp)
    have h2 := InR.sum (l := r) fun x hx => h x (by simp [hx])
    simp only [List.sum_cons, List.length_cons]
    omega
theorem InR.mem_le : ∀ {l : List Int}, InR l → ∀ x ∈ l, x ≤ l.sum
  | [], _, x, hx => by simp at hx
  | a :: r, h, x, hx => by
    have h1 := h a (by simp)
    have hr : InR r := fun x hx => h x (by simp [hx])
    have h2 := hr.sum
    simp only [List.sum_cons]
    rcases List.mem_cons.1 hx with rfl | hx
    · omega
    · have := InR.mem_le hr x hx; omega
theorem not_inR {l : List Int} {d : Nat} (h : d < l.length) (hx : ¬ (0 ≤ l.getD d 0 ∧ l.getD d 0 ≤ 2147483647)) : ¬ InR l := by
  intro hf
  apply hx
  rw [List.getD, List.getElem?_eq_getElem h]
  exact hf _ (List.getElem_mem h)
theorem getD_mem {l : List Int} {d : Nat} (h : d < l.length) : l.getD d 0 ∈ l := by
  rw [List.getD, List.getElem?_eq_getElem h]; exact List.getElem_mem h
theorem part1_in {s n : Int} (hn : n ≤ s) : 0 ≤ part1 s n ∧ part1 s n ≤ 4096 := by
  unfold part1
  split
  · have h1 : 0 ≤ n * 4096 / s := Int.ediv_nonneg (by omega) (by omega)
    have h2 : n * 4096 / s ≤ 4096 := by
      apply Int.ediv_le_of_le_mul (by omega)
      omega
    omega
  · omega
theorem pts_len (c : List Int) : (pts c).length = c.length := by simp [pts]
theorem pts_get (c : List Int) {d : Nat} (h : d < c.length) : (pts c).getD d 0 = part1 c.sum (c.getD d 0) := by
  simp [pts, List.getD, List.getElem?_eq_getElem h]
theorem pts_fine {c : List Int} (h : InR c) : Fine (pts c) := by
  intro x hx
  simp only [pts, List.mem_map] at hx
  obtain ⟨n, hn, rfl⟩ := hx
  exact part1_in (h.mem_le n hn)
/-- When d of them are laid. -/
def laid (p : List Int) (d : Nat) : List Int := p.take d ++ List.replicate (256 - d) 0
theorem laid_len {p : List Int} {d : Nat} (hp : p.length = 256) (hd : d ≤ 256) : (laid p d).length = 256 := by simp [laid, hp]; omega
theorem laid_zero (p : List Int) : laid p 0 = List.replicate 256 0 := by rw [laid, List.take_zero, List.nil_append, Nat.sub_zero]
theorem laid_all {p : List Int} (hp : p.length = 256) : laid p 256 = p := by rw [laid, List.take_of_length_le (Nat.le_of_eq hp), Nat.sub_self, List.replicate_zero, List.append_nil]
theorem laid_at {p : List Int} {d : Nat} (hp : p.length = 256) (hd : d < 256) : (laid p d).getD d 0 = 0 := by
  have hlen : (p.take d).length = d := by simp; omega
  rw [laid, List.getD, List.getElem?_append_right (by omega), hlen, Nat.sub_self, List.getElem?_replicate, if_pos (by omega)]
  rfl
theorem laid_set {p : List Int} {d : Nat} (hp : p.length = 256) (hd : d < 256) : (laid p d).set d (p.getD d 0) = laid p (d + 1) := by
  have hlen : (p.take d).length = d := by simp; omega
  rw [laid, laid, take_next (by omega), List.set_append_right _ _ (by omega), hlen, Nat.sub_self, show 256 - d = (256 - (d + 1)) + 1 by omega, List.replicate_succ, List.set_cons_zero, List.append_assoc]
  rfl
theorem laid_same {p : List Int} {d : Nat} (hp : p.length = 256) (hd : d < 256) (h0 : p.getD d 0 = 0) : laid p d = laid p (d + 1) := by
  have hlen : (p.take d).length = d := by simp; omega
  rw [laid, laid, take_next (by omega), h0, show 256 - d = (256 - (d + 1)) + 1 by omega, List.replicate_succ, List.append_assoc]
  rfl

theorem gre_max (l : List Int) : ∀ (d j : Nat), j < d → l.getD j 0 ≤ l.getD (gre l d) 0
  | 0, j, h => by omega
  | d + 1, j, h => by
    unfold gre
    by_cases hj : j = d
    · subst hj
      split <;> omega
    · have := gre_max l d j (by omega)
      split <;> omega
theorem sum_set : ∀ (l : List Int) (j : Nat) (x : Int), j < l.length → (l.set j x).sum = l.sum - l.getD j 0 + x
  | [], j, x, h => by simp at h
  | a :: r, 0, x, h => by simp; omega
  | a :: r, j + 1, x, h => by
    have := sum_set r j x (by simpa using h)
    simp only [List.set_cons_succ, List.sum_cons, this, List.getD_cons_succ]
    omega
theorem sum_le : ∀ {l : List Int} {m : Int}, (∀ x ∈ l, x ≤ m) → l.sum ≤ m * l.length
  | [], m, _ => by simp
  | a :: r, m, h => by
    have h1 := h a (by simp)
    have h2 := sum_le (l := r) (m := m) fun x hx => h x (by simp [hx])
    simp only [List.sum_cons, List.length_cons]
    push_cast
    rw [Int.mul_add]
    omega
theorem gre_pos {l : List Int} (hl : l.length = 256) (h : 0 < l.sum) : 0 < l.getD (gre l 256) 0 := by
  rcases Int.lt_or_le 0 (l.getD (gre l 256) 0) with h1 | h1
  · exact h1
  · exfalso
    have := sum_le (l := l) (m := 0) (fun x hx => by
      obtain ⟨j, hj, rfl⟩ := List.getElem_of_mem hx
      have h2 := gre_max l 256 j (by omega)
      rw [List.getD, List.getElem?_eq_getElem hj] at h2
      simp only [Option.getD_some] at h2
      omega)
    omega
theorem mem_set {l : List Int} {j : Nat} {x y : Int} (h : y ∈ l.set j x) : y ∈ l ∨ y = x := List.mem_or_eq_of_mem_set h
theorem dec1_ok {l : List Int} (hl : l.length = 256) (hf : Fine l) (h : 0 < l.sum) : (dec1 l).length = 256 ∧ Fine (dec1 l) ∧ (dec1 l).sum = l.sum - 1 := by
  have hg : gre l 256 < 256 := gre_lt l (by omega)
  have hp := gre_pos hl h
  have hm := hf _ (getD_mem (l := l) (d := gre l 256) (by omega))
  refine ⟨by simp [dec1, hl], fun x hx => ?_, ?_⟩
  · rcases mem_set hx with hx | rfl
    · exact hf x hx
    · omega
  · rw [dec1, sum_set _ _ _ (by omega)]
    omega
theorem lose_ok {l : List Int} (hl : l.length = 256) (hf : Fine l) : ∀ {j : Nat}, (j : Int) ≤ l.sum - 4096 → (lose l j).length = 256 ∧ Fine (lose l j) ∧ (lose l j).sum = l.sum - j
  | 0, _ => ⟨hl, hf, by simp [lose]⟩
  | j + 1, h => by
    obtain ⟨h1, h2, h3⟩ := lose_ok hl hf (j := j) (by omega)
    obtain ⟨h4, h5, h6⟩ := dec1_ok h1 h2 (by omega)
    exact ⟨h4, h5, by rw [lose, h6, h3]; omega⟩
theorem fine_of {l : List Int} (h0 : ∀ x ∈ l, 0 ≤ x) (hs : l.sum = 4096) : Fine l := by
  have hle : ∀ (l : List Int), (∀ x ∈ l, 0 ≤ x) → 0 ≤ l.sum ∧ ∀ x ∈ l, x ≤ l.sum := by
    intro l
    induction l with
    | nil => intro _; simp
    | cons a r ih =>
      intro h
      obtain ⟨h1, h2⟩ := ih fun x hx => h x (by simp [hx])
      have ha := h a (by simp)
      simp only [List.sum_cons]
      refine ⟨by omega, fun x hx => ?_⟩
      rcases List.mem_cons.1 hx with rfl | hx
      · omega
      · have := h2 x hx; omega
  intro x hx
  have := (hle l h0).2 x hx
  exact ⟨h0 x hx, by omega⟩
/-- What the parts are in all. -/
theorem scal_ok {c : List Int} (hc : c.length = 256) (hr : InR c) : (scal c).length = 256 ∧ Fine (scal c) ∧ (scal c).sum = 4096 := by
  have hl : (pts c).length = 256 := by rw [pts_len, hc]
  have hf := pts_fine hr
  unfold scal
  split
  · next h =>
    have hg : gre c 256 < 256 := gre_lt c (by omega)
    have hs : ((pts c).set (gre c 256) ((pts c).getD (gre c 256) 0 + (4096 - (pts c).sum))).sum = 4096 := by
      rw [sum_set _ _ _ (by omega)]; omega
    refine ⟨by simp [hl], fine_of (fun x hx => ?_) hs, hs⟩
    rcases mem_set hx with hx | rfl
    · exact (hf x hx).1
    · have := hf _ (getD_mem (l := pts c) (d := gre c 256) (by omega)); omega
  · next h =>
    obtain ⟨h1, h2, h3⟩ := lose_ok hl hf (j := ((pts c).sum - 4096).toNat) (by omega)
    exact ⟨h1, h2, by rw [h3]; omega⟩
end Go.Proofs.YtgaofnmgdefdcaaGreatDoor.Fq

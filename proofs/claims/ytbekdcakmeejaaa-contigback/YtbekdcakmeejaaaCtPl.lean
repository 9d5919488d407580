/- Contigs as plain data: names and letters, a text's lines, what is wrong with them. Names no function of the program. No conditions. -/
import Derived.Test.YtbekdcakmeejaaaGen
import Derived.Lib.Bytes
import Derived.Lib.AppendStr
namespace Go.Proofs.Ytbekdcakmeejaaa.Ct
open Go.RowKit Go.Proofs.Ytbekdcakmeejaaa.Gen

def Byt (xs : List Int) : Prop := ∀ x ∈ xs, 0 ≤ x ∧ x < 256
theorem Byt.app {xs ys : List Int} (h : Byt xs) (k : Byt ys) : Byt (xs ++ ys) := fun x hx => by
  rcases List.mem_append.1 hx with h1 | h1
  · exact h x h1
  · exact k x h1
theorem Byt.drop {xs : List Int} (h : Byt xs) (n : Nat) : Byt (xs.drop n) := fun x hx => h x (List.mem_of_mem_drop hx)
theorem Byt.take {xs : List Int} (h : Byt xs) (n : Nat) : Byt (xs.take n) := fun x hx => h x (List.mem_of_mem_take hx)
theorem Byt.nil : Byt [] := fun x hx => by cases hx

/-! ### strings as numbers -/
def numsOf (s : ByteArray) : List Int := s.data.toList.map fun b => (b.toNat : Int)
theorem nums_byt (s : ByteArray) : Byt (numsOf s) := by
  intro x hx
  simp only [numsOf, List.mem_map] at hx
  obtain ⟨b, _, rfl⟩ := hx
  have := b.toNat_lt
  omega
theorem nums_len (s : ByteArray) : (numsOf s).length = s.size := by
  rw [numsOf, List.length_map, Array.length_toList]
  rfl
theorem str_nums (s : ByteArray) : strOfNums (numsOf s) = s := by
  apply ByteArray.ext
  apply Array.ext'
  rw [strOfNums_data, numsOf, List.map_map]
  conv => rhs; rw [← List.map_id s.data.toList]
  refine List.map_congr_left fun b _ => ?_
  simp
theorem nums_str {xs : List Int} (h : Byt xs) : numsOf (strOfNums xs) = xs := by
  rw [numsOf, strOfNums_data, List.map_map]
  conv => rhs; rw [← List.map_id xs]
  refine List.map_congr_left fun x hx => ?_
  have := h x hx
  simp only [Function.comp_def, id, UInt8.toNat_ofNat']
  rw [Nat.mod_eq_of_lt (by omega)]
  omega
theorem str_inj {xs ys : List Int} (hx : Byt xs) (hy : Byt ys) (h : strOfNums xs = strOfNums ys) : xs = ys := by
  rw [← nums_str hx, ← nums_str hy, h]
theorem str_eq {xs ys : List Int} (hx : Byt xs) (hy : Byt ys) : ((strOfNums xs).toList == (strOfNums ys).toList) = decide (xs = ys) := by
  rw [ByteArray.toList_eq, ByteArray.toList_eq, Bool.eq_iff_iff, beq_iff_eq, decide_eq_true_iff]
  constructor
  · intro h
    refine str_inj hx hy (ByteArray.ext (Array.ext' h))
  · rintro rfl
    rfl
theorem strCells_nums {xs : List Int} (h : Byt xs) : Lib.strCells (strOfNums xs) = bv xs := by
  rw [Lib.strCells, strOfNums_data, List.map_map, bv]
  refine List.map_congr_left fun x hx => ?_
  have := h x hx
  simp only [Function.comp_def, UInt8.toNat_ofNat']
  rw [Nat.mod_eq_of_lt (by omega)]
  congr 1
  omega
theorem strCells_of (s : ByteArray) : Lib.strCells s = bv (numsOf s) := by
  rw [Lib.strCells, numsOf, bv, List.map_map]
  rfl

/-! ### names, letters -/
def okc (x : Int) : Bool := decide (33 ≤ x) && decide (x ≤ 126) && (x != 61) && (x != 42)
def named (n : List Int) : Bool := !n.isEmpty && decide (n.length ≤ 254) && n.all okc
def ltr (x : Int) : Bool := x == 65 || x == 67 || x == 71 || x == 84 || x == 78

/-! ### contigs -/
abbrev Pr := List Int × List Int
/-- A contig: its name, where its letters lie, its letters. -/
structure Ct where
  nm : List Int
  A : Option Addr
  c : Nat
  sq : List Int
def Ct.p (e : Ct) : Pr := (e.nm, e.sq)
def pairs (es : List Ct) : List Pr := es.map Ct.p
def find (n : List Int) : List Pr → Nat
  | [] => 0
  | p :: ps => if p.1 = n then 0 else find n ps + 1
theorem find_le (n : List Int) : ∀ ps : List Pr, find n ps ≤ ps.length
  | [] => Nat.le_refl _
  | p :: ps => by
    simp only [find, List.length_cons]
    have := find_le n ps
    split <;> omega
theorem find_lt (n : List Int) : ∀ ps : List Pr, find n ps < ps.length ↔ n ∈ ps.map Prod.fst
  | [] => by simp [find]
  | p :: ps => by
    have := find_lt n ps
    simp only [find, List.length_cons, List.map_cons, List.mem_cons]
    by_cases h : p.1 = n
    · rw [if_pos h]
      exact ⟨fun _ => .inl h.symm, fun _ => by omega⟩
    · rw [if_neg h]
      constructor
      · intro h1
        exact .inr (this.1 (by omega))
      · rintro (h1 | h1)
        · exact absurd h1.symm h
        · have := this.2 h1
          omega
/-- The first of that name, by what lies ahead of it. -/
theorem find_at (n : List Int) : ∀ (ps : List Pr) (k : Nat) (p : Pr), ps[k]? = some p → p.1 = n → (∀ j, j < k → ∀ q, ps[j]? = some q → q.1 ≠ n) → find n ps = k
  | [], k, p, h, _, _ => by simp at h
  | q :: ps, 0, p, h, hp, _ => by
    simp at h
    subst h
    simp [find, hp]
  | q :: ps, k + 1, p, h, hp, hn => by
    have h0 := hn 0 (by omega) q rfl
    simp only [find, if_neg h0]
    rw [find_at n ps k p (by simpa using h) hp (fun j hj r hr => hn (j + 1) (by omega) r (by simpa using hr))]
theorem find_none (n : List Int) : ∀ (ps : List Pr), (∀ (j : Nat) (q : Pr), ps[j]? = some q → q.1 ≠ n) → find n ps = ps.length
  | [], _ => rfl
  | q :: ps, hn => by
    have h0 := hn 0 q rfl
    simp only [find, if_neg h0, List.length_cons]
    rw [find_none n ps (fun j r hr => hn (j + 1) r (by simpa using hr))]
theorem find_app_mem (n : List Int) : ∀ (as bs : List Pr), n ∈ as.map Prod.fst → find n (as ++ bs) = find n as
  | [], bs, h => by simp at h
  | a :: as, bs, h => by
    simp only [List.cons_append, find]
    by_cases ha : a.1 = n
    · rw [if_pos ha, if_pos ha]
    · rw [if_neg ha, if_neg ha, find_app_mem n as bs]
      simp only [List.map_cons, List.mem_cons] at h
      exact h.resolve_left fun e => ha e.symm
theorem find_app_not (n : List Int) : ∀ (as bs : List Pr), n ∉ as.map Prod.fst → find n (as ++ bs) = as.length + find n bs
  | [], bs, _ => by simp
  | a :: as, bs, h => by
    simp only [List.map_cons, List.mem_cons, not_or] at h
    simp only [List.cons_append, find, if_neg (fun e : a.1 = n => h.1 e.symm), List.length_cons]
    rw [find_app_not n as bs h.2]
    omega
/-- What is wrong with a contig behind these. -/
def err1 (seen : List Pr) (tot : Nat) (p : Pr) : Int :=
  if named p.1 = false then 14 else if p.1 ∈ seen.map Prod.fst then 12 else if p.2 = [] ∨ 1048576 < tot + p.2.length then 6 else if p.2.all ltr = false then 16 else 0
def chkL (seen : List Pr) (tot : Nat) : List Pr → Int
  | [] => 0
  | p :: ps => if err1 seen tot p = 0 then chkL (seen ++ [p]) (tot + p.2.length) ps else err1 seen tot p
def chk (ps : List Pr) : Int := if 100 < ps.length then 7 else chkL [] 0 ps
/-- Where a name stands first in a row that holds it at place j: at j just where it isn't ahead. -/
theorem find_self (as : List Pr) (p : Pr) (bs : List Pr) : (find p.1 (as ++ p :: bs) = as.length) ↔ p.1 ∉ as.map Prod.fst := by
  constructor
  · intro h hm
    have h1 := (find_lt p.1 as).2 hm
    rw [find_app_mem _ _ _ hm] at h
    omega
  · intro h
    rw [find_app_not _ _ _ h]
    simp [find]

/-! ### texts -/
def line (p : Pr) : List Int := 62 :: p.1 ++ 10 :: p.2 ++ [10]
def text (ps : List Pr) : List Int := ps.flatMap line
theorem text_app (ps qs : List Pr) : text (ps ++ qs) = text ps ++ text qs := by simp [text]
theorem text_one (p : Pr) : text [p] = line p := by simp [text]
theorem line_len (p : Pr) : (line p).length = p.1.length + p.2.length + 3 := by simp [line]; omega
def upTo (xs : List Int) : List Int := xs.takeWhile (· != 10)
def past (xs : List Int) : List Int := (xs.dropWhile (· != 10)).drop 1
def has (xs : List Int) : Bool := xs.contains 10
/-- The first two lines: a name, letters, what is behind; none: they aren't such. -/
def lines (xs : List Int) : Option (List Int × List Int × List Int) :=
  if has (past xs) = true ∧ (upTo xs).head? = some 62 then some ((upTo xs).drop 1, upTo (past xs), past (past xs)) else none
theorem cut_eq : ∀ xs : List Int, has xs = true → xs = upTo xs ++ 10 :: past xs
  | [], h => by simp [has] at h
  | x :: xs, h => by
    by_cases hx : x = 10
    · subst hx
      simp [upTo, past]
    · have ih := cut_eq xs (by simpa [has, Ne.symm hx] using h)
      have e1 : upTo (x :: xs) = x :: upTo xs := by simp [upTo, hx]
      have e2 : past (x :: xs) = past xs := by simp [past, hx]
      rw [e1, e2, List.cons_append, ← ih]
theorem cut_none : ∀ xs : List Int, has xs = false → upTo xs = xs ∧ past xs = []
  | [], _ => ⟨rfl, rfl⟩
  | x :: xs, h => by
    simp [has] at h
    have ih := cut_none xs (by simpa [has] using h.2)
    have hx : x ≠ 10 := fun e => h.1 e.symm
    have e1 : upTo (x :: xs) = x :: upTo xs := by simp [upTo, hx]
    have e2 : past (x :: xs) = past xs := by simp [past, hx]
    exact ⟨by rw [e1, ih.1], by rw [e2, ih.2]⟩
theorem up_not : ∀ xs : List Int, 10 ∉ upTo xs
  | [] => by simp [upTo]
  | x :: xs => by
    by_cases hx : x = 10
    · subst hx
      simp [upTo]
    · have e1 : upTo (x :: xs) = x :: upTo xs := by simp [upTo, hx]
      rw [e1]
      simp only [List.mem_cons, not_or]
      exact ⟨Ne.symm hx, up_not xs⟩
theorem cut_of (a b : List Int) (h : 10 ∉ a) : upTo (a ++ 10 :: b) = a ∧ past (a ++ 10 :: b) = b ∧ has (a ++ 10 :: b) = true := by
  induction a with
  | nil => simp [upTo, past, has]
  | cons x a ih =>
    simp only [List.mem_cons, not_or] at h
    have hx : x ≠ 10 := fun e => h.1 e.symm
    obtain ⟨i1, i2, i3⟩ := ih h.2
    refine ⟨?_, ?_, by simp [has]⟩
    · show upTo (x :: (a ++ 10 :: b)) = _
      simp only [upTo, List.takeWhile_cons, hx] at i1 ⊢
      simpa [hx] using i1
    · show past (x :: (a ++ 10 :: b)) = _
      simp only [past, List.dropWhile_cons] at i2 ⊢
      simpa [hx] using i2
theorem lines_eq {xs a b r : List Int} (h : lines xs = some (a, b, r)) : xs = line (a, b) ++ r ∧ 10 ∉ a ∧ 10 ∉ b := by
  unfold lines at h
  split at h
  next hc =>
    injection h with h
    injection h with h1 h2
    injection h2 with h2 h3
    subst h1 h2 h3
    have hx : has xs = true := by
      cases hh : has xs with
      | true => rfl
      | false =>
        rw [(cut_none xs hh).2] at hc
        simp [has] at hc
    have e1 := cut_eq xs hx
    have e2 := cut_eq (past xs) hc.1
    obtain ⟨t, ht⟩ : ∃ t, upTo xs = 62 :: t := by
      cases hu : upTo xs with
      | nil => rw [hu] at hc; simp at hc
      | cons y t => rw [hu] at hc; simp at hc; exact ⟨t, by rw [hc.2]⟩
    have hn := up_not xs
    rw [ht] at hn
    refine ⟨?_, ?_, up_not _⟩
    · rw [ht, line]
      simp only [List.drop_one, List.tail_cons]
      conv => lhs; rw [e1, e2, ht]
      simp
    · rw [ht]
      simpa using hn
  · cases h
theorem lines_of (p : Pr) (r : List Int) (h1 : 10 ∉ p.1) (h2 : 10 ∉ p.2) : lines (line p ++ r) = some (p.1, p.2, r) := by
  have e : line p ++ r = (62 :: p.1) ++ 10 :: (p.2 ++ 10 :: r) := by simp [line]
  obtain ⟨c1, c2, c3⟩ := cut_of (62 :: p.1) (p.2 ++ 10 :: r) (by simpa using h1)
  obtain ⟨d1, d2, d3⟩ := cut_of p.2 r h2
  rw [e, lines, c1, c2, d1, d2, d3]
  simp
theorem lines_short {xs a b r : List Int} (h : lines xs = some (a, b, r)) : r.length < xs.length := by
  rw [(lines_eq h).1]
  simp [line]
  omega
def forms : Nat → List Int → Option (List Pr)
  | 0, _ => none
  | f + 1, xs => if xs = [] then some [] else match lines xs with
    | none => none
    | some (a, b, r) => (forms f r).map ((a, b) :: ·)
theorem forms_text : ∀ (f : Nat) (xs : List Int) (ps : List Pr), forms f xs = some ps → text ps = xs
  | 0, _, _, h => by simp [forms] at h
  | f + 1, xs, ps, h => by
    unfold forms at h
    split at h
    next hx => injection h with h; subst h; rw [hx]; rfl
    next hx =>
      split at h
      · cases h
      next a b r hl =>
        simp only [Option.map_eq_some_iff] at h
        obtain ⟨qs, hq, rfl⟩ := h
        rw [text, List.flatMap_cons]
        have := forms_text f r qs hq
        rw [text] at this
        rw [this, ← (lines_eq hl).1]
theorem forms_of : ∀ (f : Nat) (ps : List Pr), ps.length < f → (∀ p ∈ ps, 10 ∉ p.1 ∧ 10 ∉ p.2) → forms f (text ps) = some ps
  | 0, _, h, _ => by omega
  | f + 1, [], _, _ => by simp [forms, text]
  | f + 1, p :: ps, h, hp => by
    have e : text (p :: ps) = line p ++ text ps := by simp [text]
    have hne : text (p :: ps) ≠ [] := by rw [e]; simp [line]
    rw [forms, if_neg hne, e, lines_of p _ (hp p (by simp)).1 (hp p (by simp)).2]
    simp only
    rw [forms_of f ps (by simpa using h) (fun q hq => hp q (by simp [hq]))]
    rfl
theorem text_long (ps : List Pr) : ps.length ≤ (text ps).length := by
  induction ps with
  | nil => simp [text]
  | cons p ps ih =>
    simp only [text, List.flatMap_cons, List.length_append, List.length_cons] at ih ⊢
    have := line_len p
    omega
/-- What Parse tells: none, with what is wrong; or contigs. -/
def parse (xs : List Int) : Except Int (List Pr) :=
  if 2097152 < xs.length then .error 6 else match forms (xs.length + 1) xs with
    | none => .error 4
    | some ps => if chk ps = 0 then .ok ps else .error (chk ps)
theorem parse_ok {xs : List Int} {ps : List Pr} (h : parse xs = .ok ps) : text ps = xs ∧ chk ps = 0 := by
  unfold parse at h
  split at h
  · cases h
  · split at h
    · cases h
    next qs hq =>
      split at h
      next hc =>
        injection h with h
        subst h
        exact ⟨forms_text _ _ _ hq, hc⟩
      · cases h
theorem parse_err {xs : List Int} {e : Int} (h : parse xs = .error e) : e ≠ 0 := by
  unfold parse at h
  split at h
  · injection h with h; omega
  · split at h
    · injection h with h; omega
    next qs hq =>
      split at h
      · cases h
      next hc => injection h with h; omega
theorem parse_text (ps : List Pr) (hl : (text ps).length ≤ 2097152) (hp : ∀ p ∈ ps, 10 ∉ p.1 ∧ 10 ∉ p.2) : parse (text ps) = if chk ps = 0 then .ok ps else .error (chk ps) := by
  rw [parse, if_neg (by omega), forms_of _ _ (by have := text_long ps; omega) hp]
end Go.Proofs.Ytbekdcakmeejaaa.Ct

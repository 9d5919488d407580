/- What contigs are in memory (IsRef); Find, Len, At: any name, any numbers. -/
import Derived.Test.YtbekdcakmeejaaaCtRd
import Derived.Deep.RegionHeld3
namespace Go.Proofs.Ytbekdcakmeejaaa.Ct
open Go.RowKit Go.Proofs.Ytbekdcakmeejaaa.Gen

def Ct.v (e : Ct) : Value := .slice e.A e.sq.length e.c
def cvs (es : List Ct) : List Value := es.flatMap fun e => [.string (strOfNums e.nm), e.v]
theorem cvs_len (es : List Ct) : (cvs es).length = es.length * 2 := by
  induction es with
  | nil => rfl
  | cons a l ih => simp only [cvs, List.flatMap_cons, List.length_append, List.length_cons] at ih ⊢; rw [ih]; simp; omega
theorem cvs_app (xs ys : List Ct) : cvs (xs ++ ys) = cvs xs ++ cvs ys := by simp [cvs]
theorem cvs_get : ∀ (es : List Ct) (j : Nat) (e : Ct), es[j]? = some e → (cvs es)[j * 2]? = some (.string (strOfNums e.nm)) ∧ (cvs es)[j * 2 + 1]? = some e.v
  | [], j, e, h => by simp at h
  | a :: l, 0, e, h => by
    simp at h
    subst h
    simp [cvs]
  | a :: l, j + 1, e, h => by
    have := cvs_get l j e (by simpa using h)
    simp only [cvs, List.flatMap_cons] at this ⊢
    rw [show (j + 1) * 2 = j * 2 + 1 + 1 by omega]
    simpa using this
theorem cvs_one (es : List Ct) : ∀ u ∈ cvs es, u.oneCell' = true := by
  intro u hu
  simp only [cvs, List.mem_flatMap] at hu
  obtain ⟨p, _, hp⟩ := hu
  simp at hp
  rcases hp with rfl | rfl <;> rfl
/-- A contig's letters lie there; its numbers are bytes; no more than may be. -/
structure Good (w : World) (e : Ct) : Prop where
  lies : Lies w e.A e.sq
  bs : Byt e.sq
  bn : Byt e.nm
  ls : e.sq.length ≤ 3000000
  ln : e.nm.length ≤ 3000000
def IsRef (w : World) (A : Option Addr) (n : Nat) (es : List Ct) : Prop :=
  es.length = n ∧ n ≤ 3000000 ∧ (es = [] ∨ ∃ b o, A = some ⟨b, o, none⟩ ∧ b < w.heap.size ∧ ∀ j, j < (cvs es).length → w.cell? ⟨b, o + j, none⟩ = (cvs es)[j]?) ∧ ∀ e ∈ es, Good w e
theorem Good.more {S : Nat → Prop} {w w1 : World} {e : Ct} (h : Good w e) (k : Keeps S w w1) (hn : ∀ b o, e.A = some ⟨b, o, none⟩ → ¬ S b) : Good w1 e := ⟨h.lies.keeps k hn, h.bs, h.bn, h.ls, h.ln⟩
theorem IsRef.more {w w1 : World} {A : Option Addr} {n : Nat} {es : List Ct} (h : IsRef w A n es) (k : Keeps (fun _ => False) w w1) : IsRef w1 A n es := by
  refine ⟨h.1, h.2.1, ?_, fun e he => (h.2.2.2 e he).more k (fun _ _ _ => id)⟩
  rcases h.2.2.1 with h1 | ⟨b, o, rfl, hb, hc⟩
  · exact .inl h1
  · exact .inr ⟨b, o, rfl, Nat.lt_of_lt_of_le hb k.size, fun j hj => (k.cell (p := ⟨b, o + j, none⟩) hb id).trans (hc j hj)⟩
theorem IsRef.item {w : World} {A : Option Addr} {n : Nat} {es : List Ct} (h : IsRef w A n es) {j : Nat} (hj : j < n) :
    ∃ b o e, A = some ⟨b, o, none⟩ ∧ b < w.heap.size ∧ es[j]? = some e ∧ Good w e ∧ w.cell? ⟨b, o + j * 2, none⟩ = some (.string (strOfNums e.nm)) ∧ w.cell? ⟨b, o + j * 2 + 1, none⟩ = some (.slice e.A e.sq.length e.c) := by
  obtain ⟨hn, _, hr, hg⟩ := h
  have hl := cvs_len es
  have hj' : j < es.length := by omega
  have he : es[j]? = some es[j] := List.getElem?_eq_getElem hj'
  obtain ⟨g0, g1⟩ := cvs_get es j _ he
  rcases hr with h1 | ⟨b, o, rfl, hb, hc⟩
  · subst h1
    simp at hn
    omega
  · refine ⟨b, o, es[j], rfl, hb, he, hg _ (List.getElem_mem hj'), ?_, ?_⟩
    · rw [hc _ (by omega), g0]
    · rw [Nat.add_assoc, hc _ (by omega), g1]
      rfl
theorem pairs_get {es : List Ct} {j : Nat} {e : Ct} (h : es[j]? = some e) : (pairs es)[j]? = some e.p := by simp [pairs, h]
theorem pairs_len (es : List Ct) : (pairs es).length = es.length := by simp [pairs]
theorem pairs_at {es : List Ct} {j : Nat} {p : Pr} (h : (pairs es)[j]? = some p) : ∃ e, es[j]? = some e ∧ p = e.p := by
  simp only [pairs, List.getElem?_map, Option.map_eq_some_iff] at h
  obtain ⟨e, h1, h2⟩ := h
  exact ⟨e, h1, h2.symm⟩

/-- Which number Find tells, and whether. -/
def fnd (n : List Int) (ps : List Pr) : Nat := if find n ps < ps.length then find n ps else 0
def fnb (n : List Int) (ps : List Pr) : Bool := decide (find n ps < ps.length)
def FindR (n : List Int) (ps : List Pr) (w : World) (r : Ending) (w' : World) : Prop := r = .returned (.tuple #[.int .i64 (fnd n ps : Int), .bool (fnb n ps)]) ∧ Keeps (fun _ => False) w w'

set_option maxHeartbeats 4000000 in
set_option maxRecDepth 100000 in
theorem find_ (A : Option Addr) (n c : Nat) (es : List Ct) (nm : List Int) (w : World) (h : IsRef w A n es) (hb : Byt nm) :
    Calls Try.prog 14 #[.agg #[.slice A n c], .string (strOfNums nm)] w (FindR nm (pairs es) w) := by
  have HR := Lib.hid h
  have HB := Lib.hid hb
  have hn : n ≤ 3000000 := h.2.1
  have HP := Lib.hid ((pairs_len es).trans h.1)
  clear h hb
  obtain ⟨S, hS⟩ : ∃ S, strOfNums nm = S := ⟨_, rfl⟩
  rw [hS]
  have HS := Lib.hid hS
  clear hS
  go_enter Try.func14, Try.ntmps14
  go_wp2
  go_loopw [6, 7, 11] (fun _ _ i wr => ∃ j : Nat, i = .int .i64 (j : Int) ∧ j ≤ n ∧ Hid (Keeps (fun _ => False) w wr ∧ ∀ k q, k < j → (pairs es)[k]? = some q → q.1 ≠ nm)) (fun _ _ i _ => n - (intOf i).toNat)
  case atStart => exact ⟨0, rfl, by omega, Lib.hid ⟨(Keeps.refl _ _).alloc _, fun k q hk => by omega⟩⟩
  case round =>
    obtain ⟨j, rfl, hj, HI⟩ := hrel
    by_cases hlt : j < n
    · obtain ⟨b, o, e, rfl, hb, he, hg, h0, h1⟩ := (HR.out.more HI.out.1).item hlt
      have HG := Lib.hid hg
      have HE := Lib.hid he
      have hj0 : (j : Int) < (n : Int) := by omega
      have hjw : IntKind.i64.wrap ((j : Int) + 1) = (j : Int) + 1 := IntWalk.i64_in _ (by omega)
      obtain ⟨T, hT⟩ : ∃ T, strOfNums e.nm = T := ⟨_, rfl⟩
      rw [hT] at h0
      have HT := Lib.hid hT
      have HQ : Hid ((T.toList == S.toList) = decide (e.nm = nm)) := by
        show _ = _
        rw [← HT.out, ← HS.out]
        exact str_eq hg.bn HB.out
      obtain ⟨eA, en, ec, hev⟩ : ∃ eA en ec, (.slice e.A e.sq.length e.c : Value) = .slice eA en ec := ⟨_, _, _, rfl⟩
      rw [hev] at h1
      clear hev he hg hT hlt
      by_cases hq : e.nm = nm
      · have hd : (T.toList == S.toList) = true := by rw [HQ.out]; simpa using hq
        have HF : Hid (find nm (pairs es) = j) := by
          show _ = _
          exact find_at nm _ j e.p (pairs_get HE.out) hq (fun k hk q hq' => HI.out.2 k q hk hq')
        clear hq
        go_wp2
        go_ret2
        have hk := HI.out.1.alloc (.cells #[.string T, .slice eA en ec] 33)
        refine ⟨?_, hk⟩
        have h3 : find nm (pairs es) < (pairs es).length := by rw [HF.out, HP.out]; omega
        rw [fnd, fnb, decide_eq_true h3, if_pos h3, HF.out]
        rfl
      · have hd : (T.toList == S.toList) = false := by rw [HQ.out]; simpa using hq
        have HQN := Lib.hid hq
        clear hq
        go_wp2
        go_roundw
        case rel =>
          refine ⟨j + 1, by go_num, by omega, Lib.hid ⟨HI.out.1.alloc _, fun k q hk hq' => ?_⟩⟩
          by_cases ek : k = j
          · subst ek
            have := pairs_get HE.out
            rw [this] at hq'
            injection hq' with hq'
            rw [← hq']
            exact HQN.out
          · exact HI.out.2 k q (by omega) hq'
        case measure => simp [intOf]; omega
    · have HEE : Hid (j = n) := by show _ = _; omega
      go_wp2
      go_ret2
      refine ⟨?_, HI.out.1⟩
      have h3 : find nm (pairs es) = (pairs es).length := find_none nm _ (fun k q hq => HI.out.2 k q (by
        have := (List.getElem?_eq_some_iff.1 hq).1
        rw [HP.out] at this
        rw [HEE.out]
        exact this) hq)
      simp [fnd, fnb, h3]

/-- How many letters a contig has. -/
def lenOf (es : List Ct) (i : Int) : Int := if 0 ≤ i ∧ i < es.length then ((es.getD i.toNat ⟨[], none, 0, []⟩).sq.length : Int) else 0
/-- A contig's letter. -/
def atOf (es : List Ct) (i p : Int) : Int := if 1 ≤ p ∧ p ≤ lenOf es i then (es.getD i.toNat ⟨[], none, 0, []⟩).sq.getD (p - 1).toNat 0 else 0

set_option maxHeartbeats 4000000 in
set_option maxRecDepth 100000 in
theorem len_ (A : Option Addr) (n c : Nat) (es : List Ct) (i : Int) (w : World) (h : IsRef w A n es) :
    Calls Try.prog 15 #[.agg #[.slice A n c], .int .i64 i] w fun r w' => r = .returned (.int .i64 (lenOf es i)) ∧ Keeps (fun _ => False) w w' := by
  have HK := Lib.hid ((Keeps.refl (fun _ => False) w).alloc (.cells #[.slice A n c] 29))
  have HL := Lib.hid h.1
  by_cases h1 : i < 0
  · have d1 : decide (i < 0) = true := by simpa using h1
    have HZ : Hid (lenOf es i = 0) := by show _ = _; rw [lenOf, if_neg (by omega)]
    clear h
    go_enter Try.func15, Try.ntmps15
    go_wp2
    go_ret
    exact ⟨by rw [HZ.out]; rfl, HK.out⟩
  · have d1 : decide (i < 0) = false := by simpa using h1
    by_cases h2 : (n : Int) ≤ i
    · have d2 : decide ((n : Int) ≤ i) = true := by simpa using h2
      have HZ : Hid (lenOf es i = 0) := by show _ = _; rw [lenOf, if_neg (by have := h.1; omega)]
      clear h
      go_enter Try.func15, Try.ntmps15
      go_wp2
      go_ret
      exact ⟨by rw [HZ.out]; rfl, HK.out⟩
    · have d2 : decide ((n : Int) ≤ i) = false := by simpa using h2
      obtain ⟨k, rfl⟩ : ∃ k : Nat, i = (k : Int) := ⟨i.toNat, by omega⟩
      have hkn : k < n := by omega
      obtain ⟨b, o, e, rfl, hb, he, hg, c0, c1⟩ := (h.more HK.out).item hkn
      have HZ : Hid (lenOf es k = (e.sq.length : Int)) := by
        show _ = _
        have := h.1
        rw [lenOf, if_pos (by omega)]
        simp [List.getD_eq_getElem?_getD, he]
      obtain ⟨m, hm⟩ : ∃ m, e.sq.length = m := ⟨_, rfl⟩
      rw [hm] at c1 HZ
      have hkn' : (k : Int) < (n : Int) := by omega
      clear h hm hg he
      go_enter Try.func15, Try.ntmps15
      go_wp2
      go_ret
      exact ⟨by rw [HZ.out]; rfl, HK.out⟩

set_option maxHeartbeats 4000000 in
set_option maxRecDepth 100000 in
theorem at_ (A : Option Addr) (n c : Nat) (es : List Ct) (i p : Int) (w : World) (h : IsRef w A n es) :
    Calls Try.prog 16 #[.agg #[.slice A n c], .int .i64 i, .int .i64 p] w fun r w' => r = .returned (.int .u8 (atOf es i p)) ∧ Keeps (fun _ => False) w w' := by
  have hk := (Keeps.refl (fun _ => False) w).alloc (.cells #[.slice A n c] 29)
  have HK := Lib.hid hk
  have HL := Lib.hid h.1
  have hr := h.more hk
  by_cases h1 : p < 1
  · have d1 : decide (p < 1) = true := by simpa using h1
    have HZ : Hid (atOf es i p = 0) := by show _ = _; rw [atOf, if_neg (by omega)]
    clear h hr hk
    go_enter Try.func16, Try.ntmps16
    go_wp2
    go_ret
    exact ⟨by rw [HZ.out]; rfl, HK.out⟩
  · have d1 : decide (p < 1) = false := by simpa using h1
    obtain ⟨m, hm⟩ : ∃ m, lenOf es i = m := ⟨_, rfl⟩
    have HN : Hid (∀ w1, IsRef w1 A n es → Calls Try.prog 15 #[.agg #[.slice A n c], .int .i64 i] w1 fun r w' => r = .returned (.int .i64 m) ∧ Keeps (fun _ => False) w1 w') := Lib.hid (fun w1 h1 => by rw [← hm]; exact len_ A n c es i w1 h1)
    have HRR := Lib.hid hr
    have HM := Lib.hid hm
    by_cases h2 : m < p
    · have d2 : decide (m < p) = true := by simpa using h2
      have HZ : Hid (atOf es i p = 0) := by show _ = _; rw [atOf, if_neg (by omega)]
      clear h hr hk hm
      go_enter Try.func16, Try.ntmps16
      go_wp2_with (refine (HN.out _ HRR.out).mono ?_; rintro e w1 ⟨rfl, hk1⟩; have HK1 := Lib.hid (HK.out.trans hk1); clear hk1)
      go_ret
      exact ⟨by rw [HZ.out]; rfl, HK1.out⟩
    · have d2 : decide (m < p) = false := by simpa using h2
      have hin : 0 ≤ i ∧ i < (n : Int) := by
        have := h.1
        unfold lenOf at hm
        split at hm
        · omega
        · omega
      obtain ⟨k, rfl⟩ : ∃ k : Nat, i = (k : Int) := ⟨i.toNat, by omega⟩
      obtain ⟨q, rfl⟩ : ∃ q : Nat, p = (q : Int) + 1 := ⟨(p - 1).toNat, by omega⟩
      have hkn : k < n := by omega
      obtain ⟨b, o, e, rfl, hb, he, hg, c0, c1⟩ := hr.item hkn
      have hme : m = (e.sq.length : Int) := by
        have := h.1
        rw [← hm, lenOf, if_pos (by omega)]
        simp [List.getD_eq_getElem?_getD, he]
      have hql : q < e.sq.length := by omega
      obtain ⟨b', o', hA', hb', c2⟩ := lies_at hg.lies hql
      rw [hA'] at c1
      have hq1 : (q : Int) + 1 - 1 = (q : Int) := by omega
      have hq2 : IntKind.i64.wrap (q : Int) = (q : Int) := IntWalk.i64_in _ (by have := hg.ls; omega)
      have HZ : Hid (atOf es k ((q : Int) + 1) = e.sq.getD q 0) := by
        show _ = _
        rw [atOf, if_pos (by omega), hq1]
        simp [List.getD_eq_getElem?_getD, he]
      obtain ⟨x, hx⟩ : ∃ x, e.sq.getD q 0 = x := ⟨_, rfl⟩
      rw [hx] at c2 HZ
      obtain ⟨el, hel⟩ : ∃ el, e.sq.length = el := ⟨_, rfl⟩
      rw [hel] at c1 hql
      have hkn' : (k : Int) < (n : Int) := by omega
      have hql' : (q : Int) < (el : Int) := by omega
      have HC0 := Lib.hid c0
      have HC1 := Lib.hid c1
      have HC2 := Lib.hid c2
      have hbox : (w.alloc (.cells #[.slice (some ⟨b, o, none⟩) n c] 29)).cell? ⟨w.heap.size, 0, none⟩ = some (.slice (some ⟨b, o, none⟩) n c) := (Blk.new w 29 #[.slice (some ⟨b, o, none⟩) n c]).cell 0
      have HBX := Lib.hid hbox
      have hlt0 : w.heap.size < (w.alloc (.cells #[.slice (some ⟨b, o, none⟩) n c] 29)).heap.size := by simp
      clear h hr hk hm hg he hme c0 c1 c2 hx hel hA' hbox
      go_enter Try.func16, Try.ntmps16
      go_wp2_with (
        refine (HN.out _ HRR.out).mono ?_
        rintro e w1 ⟨rfl, hk1⟩
        have g0 := (hk1.cell (p := ⟨b, o + k * 2 + 1, none⟩) hb id).trans HC1.out
        have g1 := (hk1.cell (p := ⟨b', o' + q, none⟩) hb' id).trans HC2.out
        have g2 := (hk1.cell (p := ⟨w.heap.size, 0, none⟩) hlt0 id).trans HBX.out
        have HK1 := Lib.hid (HK.out.trans hk1)
        clear hk1)
      go_ret
      exact ⟨by rw [HZ.out]; rfl, HK1.out⟩
end Go.Proofs.Ytbekdcakmeejaaa.Ct

/- Bytes by four states, there and back; whose a part is: plain data. -/
import Derived.Test.YtnanmenoemajfaaRnPl
namespace Go.Proofs.Ytnanmenoemajfaa.Rp
open Go.Proofs.Ytnanmenoemajfaa.Gen Go.Proofs.Ytnanmenoemajfaa.Wr Go.Proofs.Ytnanmenoemajfaa.It Go.Proofs.Ytnanmenoemajfaa.Ir Go.Proofs.Ytnanmenoemajfaa.Ib Go.Proofs.Ytnanmenoemajfaa.Fq Go.Proofs.Ytnanmenoemajfaa.Fb

/-- Where a byte's parts begin; how many it has. -/
def stt (t : List Int) (c : Int) : Nat := ((t.take c.toNat).sum).toNat
def prt (t : List Int) (c : Int) : Nat := (t.getD c.toNat 0).toNat
/-- Of each part the byte that has it: of the first d bytes. -/
def ow (t : List Int) : Nat → List Int
  | 0 => []
  | d + 1 => ow t d ++ List.replicate (t.getD d 0).toNat (d : Int)
def own (t : List Int) (x : Nat) : Int := (ow t 256).getD x 0
structure Tb (t : List Int) : Prop where
  len : t.length = 256
  fine : Fine t
  sum : t.sum = 4096
theorem ow_len {t : List Int} (h : Fine t) (hl : t.length = 256) : ∀ {d : Nat}, d ≤ 256 → (((ow t d).length : Nat) : Int) = (t.take d).sum
  | 0, _ => by simp [ow]
  | d + 1, hd => by
    have ih := ow_len h hl (d := d) (by omega)
    have hf := h _ (getD_mem (l := t) (d := d) (by omega))
    rw [ow, sum_next (by omega), List.length_append, List.length_replicate, ← ih]
    omega
theorem ow_pre (t : List Int) {d : Nat} : ∀ {e : Nat}, d ≤ e → ∃ R, ow t e = ow t d ++ R
  | 0, h => ⟨[], by obtain rfl : d = 0 := by omega
                    simp⟩
  | e + 1, h => by
    by_cases hd : d = e + 1
    · exact ⟨[], by rw [hd]; simp⟩
    · obtain ⟨R, hR⟩ := ow_pre t (d := d) (e := e) (by omega)
      exact ⟨R ++ List.replicate (t.getD e 0).toNat (e : Int), by rw [ow, hR, List.append_assoc]⟩
/-- The byte whose part it is. -/
theorem own_of {t : List Int} (h : Tb t) {c x : Nat} (hc : c < 256) (h0 : (t.take c).sum ≤ (x : Int)) (h1 : (x : Int) < (t.take c).sum + t.getD c 0) : own t x = (c : Int) := by
  have hl := ow_len h.fine h.len (d := c) (by omega)
  obtain ⟨R, hR⟩ := ow_pre t (d := c + 1) (e := 256) (by omega)
  have hf := h.fine _ (getD_mem (l := t) (d := c) (by have := h.len; omega))
  unfold own
  rw [hR, ow, List.getD, List.append_assoc, List.getElem?_append_right (by omega), List.getElem?_append_left (by rw [List.length_replicate]; omega), List.getElem?_replicate, if_pos (by omega)]
  rfl
theorem owner {t : List Int} (h : Tb t) {x : Nat} (hx : x < 4096) : ∃ c : Nat, own t x = (c : Int) ∧ c < 256 ∧ 1 ≤ prt t c ∧ stt t c + prt t c ≤ 4096 ∧ stt t c ≤ x ∧ x < stt t c + prt t c := by
  have hs : (t.take 256).sum = 4096 := by rw [List.take_of_length_le (by have := h.len; omega), h.sum]
  obtain ⟨c, hc, h0, h1⟩ := place h.fine (p := (x : Int)) (by omega) 256 (by have := h.len; omega) (by rw [hs]; omega)
  have hf := h.fine _ (getD_mem (l := t) (d := c) (by have := h.len; omega))
  have hn := sum_next (l := t) (d := c) (by have := h.len; omega)
  have hm := sum_mono h.fine (a := c + 1) (b := 256) (by omega) (by have := h.len; omega)
  have h00 := (sum_bound h.fine h.len c).1
  refine ⟨c, own_of h hc h0 h1, hc, ?_⟩
  simp only [stt, prt, Int.toNat_natCast]
  omega
/-- A byte that has parts. -/
def Has (t : List Int) (c : Int) : Prop := 0 ≤ c ∧ c < 256 ∧ 0 < t.getD c.toNat 0
theorem has_part {t : List Int} (h : Tb t) {c : Int} (hc : Has t c) : 1 ≤ prt t c ∧ stt t c + prt t c ≤ 4096 ∧ ∀ x, stt t c ≤ x → x < stt t c + prt t c → own t x = c := by
  obtain ⟨h1, h2, h3⟩ := hc
  have hs : (t.take 256).sum = 4096 := by rw [List.take_of_length_le (by have := h.len; omega), h.sum]
  have hn := sum_next (l := t) (d := c.toNat) (by have := h.len; omega)
  have hm := sum_mono h.fine (a := c.toNat + 1) (b := 256) (by omega) (by have := h.len; omega)
  have h00 := (sum_bound h.fine h.len c.toNat).1
  refine ⟨by unfold prt; omega, by unfold stt prt; omega, fun x h4 h5 => ?_⟩
  unfold stt at h4
  unfold stt prt at h5
  rw [own_of h (c := c.toNat) (by omega) (by omega) (by omega)]
  omega
/-- Four states. -/
def St (f : List Nat) : Prop := f.length = 4 ∧ ∀ x ∈ f, In x
theorem St.at_ {f : List Nat} (h : St f) (i : Nat) : In (f.getD (i % 4) 0) := by
  have hl : i % 4 < f.length := by rw [h.1]; omega
  rw [List.getD, List.getElem?_eq_getElem hl]
  exact h.2 _ (List.getElem_mem hl)
theorem St.set {f : List Nat} (h : St f) (i : Nat) {x : Nat} (hx : In x) : St (f.set i x) :=
  ⟨by rw [List.length_set]; exact h.1, fun y hy => by rcases List.mem_or_eq_of_mem_set hy with hy | rfl; exact h.2 y hy; exact hx⟩
/-- Bytes, by their table, from the last to the first: the states, and what went out, the last first. -/
def enc (t : List Int) (F : List Nat) : Nat → List Int → List Nat × List Int
  | _, [] => (F, [])
  | i, c :: cs => ((enc t F (i + 1) cs).1.set (i % 4) (push (stt t c) (prt t c) ((enc t F (i + 1) cs).1.getD (i % 4) 0)), (gone (prt t c) ((enc t F (i + 1) cs).1.getD (i % 4) 0)).reverse ++ (enc t F (i + 1) cs).2)
theorem enc_in {t : List Int} (h : Tb t) {F : List Nat} (hF : St F) : ∀ (cs : List Int) (i : Nat), (∀ c ∈ cs, Has t c) → St (enc t F i cs).1 ∧ (enc t F i cs).2.length ≤ 2 * cs.length ∧ ∀ x ∈ (enc t F i cs).2, 0 ≤ x ∧ x < 256
  | [], i, _ => ⟨hF, by simp [enc], by simp [enc]⟩
  | c :: cs, i, hc => by
    obtain ⟨h1, h2, h3⟩ := enc_in h hF cs (i + 1) fun x hx => hc x (by simp [hx])
    obtain ⟨h4, h5, h6⟩ := has_part h (hc c (by simp))
    refine ⟨h1.set _ (push_in (h1.at_ i) h4 h5).1, ?_, ?_⟩
    · have := gone_len (p := prt t c) (h1.at_ i) h4
      simp only [enc, List.length_append, List.length_reverse, List.length_cons]
      omega
    · intro x hx
      simp only [enc, List.mem_append, List.mem_reverse] at hx
      rcases hx with hx | hx
      · exact gone_byte (h1.at_ i) h4 x hx
      · exact h3 x hx
/-- Bytes taken by their table. -/
def unp (t : List Int) : Nat → Nat → List Nat → RS → List Int × List Nat × RS
  | 0, _, f, r => ([], f, r)
  | n + 1, i, f, r =>
    if r.e ≠ 0 then ([], f, r) else
    (own t (f.getD (i % 4) 0 % 4096) :: (unp t n (i + 1) (f.set (i % 4) (takeS (stt t (own t (f.getD (i % 4) 0 % 4096))) (prt t (own t (f.getD (i % 4) 0 % 4096))) (f.getD (i % 4) 0) r).1) (takeS (stt t (own t (f.getD (i % 4) 0 % 4096))) (prt t (own t (f.getD (i % 4) 0 % 4096))) (f.getD (i % 4) 0) r).2).1,
     (unp t n (i + 1) (f.set (i % 4) (takeS (stt t (own t (f.getD (i % 4) 0 % 4096))) (prt t (own t (f.getD (i % 4) 0 % 4096))) (f.getD (i % 4) 0) r).1) (takeS (stt t (own t (f.getD (i % 4) 0 % 4096))) (prt t (own t (f.getD (i % 4) 0 % 4096))) (f.getD (i % 4) 0) r).2).2)
theorem unp_bad {t : List Int} {i : Nat} {f : List Nat} {r : RS} (h : r.e ≠ 0) : ∀ n, unp t n i f r = ([], f, r)
  | 0 => rfl
  | n + 1 => by rw [unp, if_pos h]
theorem unp_next {t : List Int} {n i : Nat} {f : List Nat} {r s : RS} {x y : Nat} {c : Int} (h : r.e = 0) (hx : f.getD (i % 4) 0 = x) (hc : own t (x % 4096) = c) (hy : takeS (stt t c) (prt t c) x r = (y, s)) :
    unp t (n + 1) i f r = (c :: (unp t n (i + 1) (f.set (i % 4) y) s).1, (unp t n (i + 1) (f.set (i % 4) y) s).2) := by
  rw [unp, if_neg (by simpa using h), hx, hc, hy]
theorem set_back {f : List Nat} {i : Nat} (h : f.length = 4) (y : Nat) : (f.set (i % 4) y).getD (i % 4) 0 = y := by
  rw [List.getD, List.getElem?_set_self (by omega)]
  rfl
theorem set_same {f : List Nat} {i : Nat} (h : f.length = 4) (y : Nat) : (f.set (i % 4) y).set (i % 4) (f.getD (i % 4) 0) = f := by
  rw [List.set_set, List.getD, List.getElem?_eq_getElem (by omega)]
  simp
/-- What was put is taken. -/
theorem unp_back {t : List Int} (h : Tb t) {F : List Nat} (hF : St F) {xs : List Int} : ∀ (cs : List Int) (i k : Nat) (R : List Int), (∀ c ∈ cs, Has t c) → xs.drop k = (enc t F i cs).2 ++ R →
    unp t cs.length i (enc t F i cs).1 ⟨xs, k, 0⟩ = (cs, F, ⟨xs, k + (enc t F i cs).2.length, 0⟩)
  | [], i, k, R, _, _ => by simp [unp, enc]
  | c :: cs, i, k, R, hc, hd => by
    obtain ⟨h1, _, _⟩ := enc_in h hF cs (i + 1) fun x hx => hc x (by simp [hx])
    obtain ⟨h4, h5, h6⟩ := has_part h (hc c (by simp))
    have hI := h1.at_ i
    obtain ⟨s, hs⟩ : ∃ s, (enc t F (i + 1) cs).1.getD (i % 4) 0 = s := ⟨_, rfl⟩
    rw [hs] at hI
    obtain ⟨p1, p2, p3⟩ := push_in hI h4 h5
    have e1 : (enc t F i (c :: cs)).1 = (enc t F (i + 1) cs).1.set (i % 4) (push (stt t c) (prt t c) s) := by rw [enc, hs]
    have e2 : (enc t F i (c :: cs)).2 = (gone (prt t c) s).reverse ++ (enc t F (i + 1) cs).2 := by rw [enc, hs]
    rw [e2, List.append_assoc] at hd
    have hst := step_back hI h4 h5 hd
    have ih := unp_back h hF (xs := xs) cs (i + 1) (k + (gone (prt t c) s).length) R (fun x hx => hc x (by simp [hx])) (by rw [← List.drop_drop, hd, show (gone (prt t c) s).length = (gone (prt t c) s).reverse.length by simp, List.drop_left])
    have hm : kept (prt t c) s % prt t c < prt t c := Nat.mod_lt _ h4
    have hown : own t (push (stt t c) (prt t c) s % 4096) = c := h6 _ (by omega) (by omega)
    rw [e1, e2, List.length_cons, unp_next rfl (set_back h1.1 _) hown hst, List.set_set]
    have e3 : (enc t F (i + 1) cs).1.set (i % 4) s = (enc t F (i + 1) cs).1 := by
      have := set_same (i := i) h1.1 0
      rw [List.set_set, hs] at this
      exact this
    rw [e3, ih]
    simp [Nat.add_assoc, Nat.add_comm, Nat.add_left_comm]
/-- Of any bytes: what is taken is put so. -/
theorem unp_any {t : List Int} (h : Tb t) {xs : List Int} (hb : ∀ z ∈ xs, 0 ≤ z ∧ z < 256) : ∀ (n i k : Nat) (f : List Nat), k ≤ xs.length → St f → (unp t n i f ⟨xs, k, 0⟩).2.2.e = 0 →
    (unp t n i f ⟨xs, k, 0⟩).1.length = n ∧ St (unp t n i f ⟨xs, k, 0⟩).2.1 ∧ (∀ c ∈ (unp t n i f ⟨xs, k, 0⟩).1, Has t c) ∧ ∃ j, (unp t n i f ⟨xs, k, 0⟩).2.2 = ⟨xs, k + j, 0⟩ ∧ k + j ≤ xs.length ∧ enc t (unp t n i f ⟨xs, k, 0⟩).2.1 i (unp t n i f ⟨xs, k, 0⟩).1 = (f, (xs.drop k).take j)
  | 0, i, k, f, hk, hf, _ => ⟨rfl, hf, by simp [unp], 0, rfl, hk, by simp [unp, enc]⟩
  | n + 1, i, k, f, hk, hf, he => by
    obtain ⟨x, hx⟩ : ∃ x, f.getD (i % 4) 0 = x := ⟨_, rfl⟩
    have hI := hf.at_ i
    rw [hx] at hI
    obtain ⟨c, hc, hc1, hc2, hc3, hc4, hc5⟩ := owner h (x := x % 4096) (by omega)
    obtain ⟨⟨y, s⟩, hy⟩ : ∃ y, takeS (stt t c) (prt t c) x ⟨xs, k, 0⟩ = y := ⟨_, rfl⟩
    rw [unp_next rfl hx hc hy] at he ⊢
    simp only at he ⊢
    by_cases hs : s.e = 0
    · have hsa := step_any hb hk hI hc2 hc3 hc4 hc5 (by rw [hy]; exact hs)
      rw [hy] at hsa
      obtain ⟨hy1, j, hj, hjl, hg, hp⟩ := hsa
      simp only at hy1 hj hg hp
      subst hj
      obtain ⟨i1, i2, i3, j2, i4, i5, i6⟩ := unp_any h hb n (i + 1) (k + j) (f.set (i % 4) y) hjl (hf.set _ hy1) he
      have hHas : Has t (c : Int) := ⟨by omega, by omega, by simp only [prt, Int.toNat_natCast] at hc2 ⊢; omega⟩
      refine ⟨by simp [i1], i2, ?_, j + j2, by rw [i4, Nat.add_assoc], by omega, ?_⟩
      · intro d hd
        rcases List.mem_cons.1 hd with rfl | hd
        · exact hHas
        · exact i3 d hd
      · rw [enc, i6]
        simp only
        rw [set_back hf.1, hp, hg, ← hx, set_same hf.1, List.take_add, List.drop_drop]
    · rw [unp_bad hs] at he
      exact absurd he hs
end Go.Proofs.Ytnanmenoemajfaa.Rp

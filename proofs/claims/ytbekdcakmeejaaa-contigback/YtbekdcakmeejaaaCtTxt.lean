/- Contigs as a text (Ref.Text): any contigs whose text isn't too long. -/
import Derived.Test.YtbekdcakmeejaaaCtRef
import Derived.Test.YtbekdcakmeejaaaCtApp
namespace Go.Proofs.Ytbekdcakmeejaaa.Ct
open Go.RowKit Go.Proofs.Ytbekdcakmeejaaa.Gen Go.Proofs.Ytbekdcakmeejaaa.Ca

theorem lies_lit (w : World) (xs : List Int) (f : Nat × Nat) : Lies (w.alloc (.cells (bv xs).toArray 5 f)) (some ⟨w.heap.size, 0, none⟩) xs := by
  refine .inr ⟨_, _, rfl, by simp, ?_⟩
  intro i hi
  rw [cell_of_row _ _ (0 + i) _ 5 f (heap_alloc_new w _)]
  simpa using bv_at hi
theorem lies_lit1 (w : World) (x : Int) : Lies (w.alloc (.cells #[.int .u8 x] 5)) (some ⟨w.heap.size, 0, none⟩) [x] := lies_lit w [x] (0, 0)
theorem lies_at1 (w : World) (x : Int) (B : Nat) (hB : w.heap.size = B) : Lies (w.alloc (.cells #[.int .u8 x] 5)) (some ⟨B, 0, none⟩) [x] := by
  subst hB
  exact lies_lit1 w x
/-- While a text grows: the row of one's own, the variable of the round. -/
structure TxS (base E : Nat) (bx : Array Value) (acc : List Int) (v : Value) (n : Nat) (w w' : World) : Prop where
  own : w'.ownsRow base 5 1 v n (bv acc)
  box : Blk w' E 33 bx
  keeps : Keeps (fun _ => False) w w'
  base_ : base ≤ w'.heap.size
theorem TxS.alloc {base E n : Nat} {bx : Array Value} {acc : List Int} {v : Value} {w w' : World} (h : TxS base E bx acc v n w w') (o : Obj) : TxS base E bx acc v n w (w'.alloc o) :=
  ⟨own_keeps (S := fun _ => False) h.own ((Keeps.refl _ _).alloc _) (fun _ _ => id), h.box.alloc _, h.keeps.alloc _, by have := h.base_; simp; omega⟩
theorem TxS.app {base E n m : Nat} {bx : Array Value} {acc xs : List Int} {v v1 : Value} {w w' w1 : World} (h : TxS base E bx acc v n w w') (hb : w.heap.size ≤ base) (h1 : w1.ownsRow base 5 1 v1 (n + m) (bv (acc ++ xs))) (h2 : w'.grownBy w1 v.ownBlock) :
    TxS base E bx (acc ++ xs) v1 (n + m) w w1 := by
  refine ⟨h1, h.box.grown h2 (own_ne h.own h.box (by decide)), h.keeps.grown h2 (fun k hk => .inr ?_), Nat.le_trans h.base_ h2.size⟩
  have := (h.own.lt k hk).1
  omega
theorem text_take {ps : List Pr} {j : Nat} {p : Pr} (h : ps[j]? = some p) : text (ps.take (j + 1)) = text (ps.take j) ++ line p := by
  obtain ⟨hj, rfl⟩ := List.getElem?_eq_some_iff.1 h
  rw [List.take_succ_eq_append_getElem hj, text_app, text_one]
theorem text_take_le (ps : List Pr) (j : Nat) : (text (ps.take j)).length ≤ (text ps).length := by
  conv => rhs; rw [← List.take_append_drop j ps, text_app, List.length_append]
  omega
theorem line_eq (p : Pr) (acc : List Int) : acc ++ [62] ++ p.1 ++ [10] ++ p.2 ++ [10] = acc ++ line p := by simp [line]
/-- Bytes in a row of one's own. -/
def OwnR (xs : List Int) (n : Nat) (w : World) (r : Ending) (w' : World) : Prop :=
  ∃ A c, r = .returned (.slice A n c) ∧ w'.ownsRow w.heap.size 5 1 (.slice A n c) n (bv xs) ∧ Keeps (fun _ => False) w w'

set_option maxHeartbeats 16000000 in
set_option maxRecDepth 100000 in
theorem text_ (A : Option Addr) (n c : Nat) (es : List Ct) (w : World) (h : IsRef w A n es) (hN : (text (pairs es)).length ≤ 9000000) :
    Calls Try.prog 11 #[.agg #[.slice A n c]] w (OwnR (text (pairs es)) (text (pairs es)).length w) := by
  have HR := Lib.hid h
  have hn : n ≤ 3000000 := h.2.1
  have HP := Lib.hid ((pairs_len es).trans h.1)
  have HN := Lib.hid hN
  clear h hN
  have HK0 := Lib.hid ((Keeps.refl (fun _ => False) w).alloc (.cells #[.slice A n c] 29))
  go_enter Try.func11, Try.ntmps11
  go_wp2
  go_loopw [3, 5, 9] (fun ov _ iv wr => ∃ (j m : Nat) (A' : Option Addr) (c' : Nat), ov = .slice A' m c' ∧ iv = .int .i64 (j : Int) ∧ j ≤ n ∧ Hid ((text ((pairs es).take j)).length = m ∧ wr.ownsRow (w.heap.size + 1) 5 1 (.slice A' m c') m (bv (text ((pairs es).take j))) ∧ Keeps (fun _ => False) w wr ∧ w.heap.size < wr.heap.size)) (fun _ _ iv _ => n - (intOf iv).toNat)
  case atStart => exact ⟨0, 0, none, 0, rfl, rfl, by omega, Lib.hid ⟨rfl, World.ownsRow_nil _ _ _ _, HK0.out, by simp⟩⟩
  case round =>
    obtain ⟨j, m, A', c', rfl, rfl, hj, HI⟩ := hrel
    by_cases hlt : j < n
    · obtain ⟨b, o, e, rfl, hb, he, hg, h0, h1⟩ := (HR.out.more HI.out.2.2.1).item hlt
      have hj0 : (j : Int) < (n : Int) := by omega
      have hjw : IntKind.i64.wrap ((j : Int) + 1) = (j : Int) + 1 := IntWalk.i64_in _ (by omega)
      have HPE := Lib.hid (pairs_get he)
      have HG := Lib.hid hg
      obtain ⟨l, hl⟩ : ∃ l, e.sq.length = l := ⟨_, rfl⟩
      obtain ⟨k, hk⟩ : ∃ k, e.nm.length = k := ⟨_, rfl⟩
      have HLL := Lib.hid hl
      have HLK := Lib.hid hk
      have HTT : Hid (m + 1 + k + 1 + l + 1 ≤ 9000000) := by
        have h1 := text_take_le (pairs es) (j + 1)
        rw [text_take (pairs_get he), List.length_append, line_len] at h1
        simp only [Ct.p] at h1
        have h2 := HN.out
        have h3 := HI.out.1
        show _ ≤ _
        omega
      rw [hl] at h1
      obtain ⟨eA, hea⟩ : ∃ eA, e.A = eA := ⟨_, rfl⟩
      obtain ⟨ec, hec⟩ : ∃ ec, e.c = ec := ⟨_, rfl⟩
      rw [hea, hec] at h1
      have HLE : Hid (Lies w eA e.sq) := by rw [← hea]; exact (HR.out.2.2.2 e (List.mem_of_getElem? he)).lies
      have HBN := Lib.hid hg.bn
      clear hg he hl hk hea hec hlt
      have HT : Hid (TxS (w.heap.size + 1) wr.heap.size #[.string (strOfNums e.nm), .slice eA l ec] (text ((pairs es).take j)) (.slice A' m c') m w (wr.alloc (.cells #[.string (strOfNums e.nm), .slice eA l ec] 33))) :=
        ⟨own_keeps (S := fun _ => False) HI.out.2.1 ((Keeps.refl _ _).alloc _) (fun _ _ => id), Blk.new _ _ _, HI.out.2.2.1.alloc _, by have := HI.out.2.2.2; simp; omega⟩
      have HWR := Lib.hid ((Keeps.refl (fun _ => False) wr).alloc (.cells #[.string (strOfNums e.nm), .slice eA l ec] 33))
      go_wp2_with (at_builtin; first
        | (refine wpList_app rfl (.tmp 13) (.tmp 14) rfl (w.heap.size + 1) m 1 1 (.slice A' m c') (text ((pairs es).take j)) [62] _ (by rfl) (by exact (HT.out.alloc _).own) (by rfl) (lies_at1 _ _ _ (by simp)) rfl (by have := HTT.out; omega) (HT.out.alloc _).base_ ?_
           intro v1 w1 g1 g2 _
           have HT1 := Lib.hid ((HT.out.alloc _).app (by omega) g1 g2)
           obtain ⟨A1, c1, rfl, _⟩ := own_form g1
           have b10 := HT1.out.box.cell 0
           have b11 := HT1.out.box.cell 1
           simp only [List.getElem?_toArray, List.getElem?_cons_zero, List.getElem?_cons_succ] at b10 b11
           clear g1 g2)
        | (refine wpList_apps rfl (.tmp 16) (.tmp 18) rfl (w.heap.size + 1) (m + 1) k (.slice A1 (m + 1) c1) _ e.nm (by rfl) (by exact HT1.out.own) (by rfl) HBN.out HLK.out (by have := HTT.out; omega) HT1.out.base_ ?_
           intro v2 w2 g1 g2
           have HT2 := Lib.hid (HT1.out.app (by omega) g1 g2)
           obtain ⟨A2, c2, rfl, _⟩ := own_form g1
           clear g1 g2)
        | (refine wpList_app rfl (.tmp 20) (.tmp 21) rfl (w.heap.size + 1) (m + 1 + k) 1 1 (.slice A2 (m + 1 + k) c2) _ [10] _ (by rfl) (by exact (HT2.out.alloc _).own) (by rfl) (lies_at1 _ _ _ (by simp)) rfl (by have := HTT.out; omega) (HT2.out.alloc _).base_ ?_
           intro v3 w3 g1 g2 _
           have HT3 := Lib.hid ((HT2.out.alloc _).app (by omega) g1 g2)
           obtain ⟨A3, c3, rfl, _⟩ := own_form g1
           have b30 := HT3.out.box.cell 0
           have b31 := HT3.out.box.cell 1
           simp only [List.getElem?_toArray, List.getElem?_cons_zero, List.getElem?_cons_succ] at b30 b31
           clear g1 g2)
        | (refine wpList_app rfl (.tmp 23) (.tmp 25) rfl (w.heap.size + 1) (m + 1 + k + 1) l ec (.slice A3 (m + 1 + k + 1) c3) _ e.sq eA (by rfl) (by exact HT3.out.own) (by rfl) (HLE.out.keeps HT3.out.keeps (fun _ _ _ => id)) HLL.out (by have := HTT.out; omega) HT3.out.base_ ?_
           intro v4 w4 g1 g2 _
           have HT4 := Lib.hid (HT3.out.app (by omega) g1 g2)
           obtain ⟨A4, c4, rfl, _⟩ := own_form g1
           clear g1 g2)
        | (refine wpList_app rfl (.tmp 27) (.tmp 28) rfl (w.heap.size + 1) (m + 1 + k + 1 + l) 1 1 (.slice A4 (m + 1 + k + 1 + l) c4) _ [10] _ (by rfl) (by exact (HT4.out.alloc _).own) (by rfl) (lies_at1 _ _ _ (by simp)) rfl (by have := HTT.out; omega) (HT4.out.alloc _).base_ ?_
           intro v5 w5 g1 g2 _
           have HT5 := Lib.hid ((HT4.out.alloc _).app (by omega) g1 g2)
           obtain ⟨A5, c5, rfl, _⟩ := own_form g1
           clear g1 g2))
      go_roundw
      case rel =>
        have hh := HT5.out
        have e1 := line_eq e.p (text ((pairs es).take j))
        simp only [Ct.p] at e1
        have e2 := text_take HPE.out
        simp only [Ct.p] at e2
        refine ⟨j + 1, m + 1 + k + 1 + l + 1, A5, c5, rfl, by go_num, by omega, Lib.hid ⟨?_, ?_, hh.keeps, hh.base_⟩⟩
        · rw [e2, ← e1]
          simp only [List.length_append, HI.out.1, HLL.out, HLK.out, List.length_singleton]
        · rw [e2, ← e1]
          exact hh.own
      case measure => simp [intOf]; omega
    · have HEE : Hid (j = n) := by show _ = _; omega
      go_wp2
      go_ret
      have ht : (pairs es).take j = pairs es := List.take_of_length_le (by rw [HP.out, HEE.out]; exact Nat.le_refl _)
      obtain ⟨h1, h2, h3, _⟩ := HI.out
      rw [ht] at h1 h2
      refine ⟨A', c', by rw [h1]; rfl, ?_, h3⟩
      rw [h1]
      exact own_base h2 (by omega)
end Go.Proofs.Ytbekdcakmeejaaa.Ct

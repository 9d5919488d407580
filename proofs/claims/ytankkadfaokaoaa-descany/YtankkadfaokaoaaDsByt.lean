/- Bytes of ways are bytes; two ways and the variable that they came of, through what makes memory (desc). -/
import Derived.Test.YtankkadfaokaoaaJDsAnyDsBack
import Derived.Test.YtankkadfaokaoaaDsSameA
import Derived.Test.YtankkadfaokaoaaDsSm
namespace Go.Proofs.Ytankkadfaokaoaa.Ds
open Go.RowKit Go.Proofs.Ytankkadfaokaoaa.Gen Go.Proofs.Ytankkadfaokaoaa.Wr Go.Proofs.Ytankkadfaokaoaa.Ww Go.Proofs.Ytankkadfaokaoaa.It Go.Proofs.Ytankkadfaokaoaa.Ir Go.Proofs.Ytankkadfaokaoaa.Ib Go.Proofs.Ytankkadfaokaoaa.Tw Go.Proofs.Ytankkadfaokaoaa.Hr Go.Proofs.Ytankkadfaokaoaa.Hn Go.Proofs.Ytankkadfaokaoaa.Hk Go.Proofs.Ytankkadfaokaoaa.Ln

theorem byte_app {xs ys : List Int} (h1 : ∀ x ∈ xs, 0 ≤ x ∧ x < 256) (h2 : ∀ x ∈ ys, 0 ≤ x ∧ x < 256) : ∀ x ∈ xs ++ ys, 0 ≤ x ∧ x < 256 := by
  intro x hx
  rcases List.mem_append.1 hx with h | h
  · exact h1 x h
  · exact h2 x h
theorem sg_in (n : Int) : 0 ≤ sg n ∧ sg n < 4294967296 := by unfold sg; omega
theorem entB_byte {L : List G} (h : newE L = 0) : ∀ x ∈ entB L, 0 ≤ x ∧ x < 256 := by
  have hl := (newE_zero h).1.2
  refine byte_app (encInt_byte (by omega) (by omega)) (byte_app (encs_byte fun n _ => encInt_byte (sg_in n).1 (sg_in n).2) (encs_byte fun n hn => ?_))
  obtain ⟨p, hp, rfl⟩ := List.mem_map.1 hn
  have := newE_in h p hp
  exact encInt_byte (by omega) (by omega)
theorem bytI_byte {d : D} (h : chkI d = 0) : ∀ x ∈ bytI d, 0 ≤ x ∧ x < 256 := by
  rcases chkI_in h with ⟨hk, hb⟩ | ⟨hk, hb⟩ | ⟨hk, hb⟩
  · have e1 : bytI d = encInt 1 ++ encInt d.B := by simp [bytI, bodI, hk]
    rw [e1]
    exact byte_app (encInt_byte (by omega) (by omega)) (encInt_byte (by omega) (by omega))
  · have e1 : bytI d = encInt 3 ++ entB d.L := by simp [bytI, bodI, hk]
    rw [e1]
    exact byte_app (encInt_byte (by omega) (by omega)) (entB_byte hb)
  · have e1 : bytI d = encInt 6 ++ (encInt (sg d.le) ++ encInt d.bi) := by simp [bytI, bodI, hk]
    rw [e1]
    exact byte_app (encInt_byte (by omega) (by omega)) (byte_app (encInt_byte (sg_in _).1 (sg_in _).2) (encInt_byte (by omega) (by omega)))
theorem bytA_byte {a : E} (h : chkA a = 0) (hS : 0 ≤ a.S ∧ a.S < 256) : ∀ x ∈ bytA a, 0 ≤ x ∧ x < 256 := by
  obtain ⟨hb, hk⟩ := chkA_ok h
  rcases hk with hk | ⟨hk, hd⟩
  · have e1 : bytA a = encInt 5 ++ (encInt a.B ++ [a.S]) := by simp [bytA, hk]
    rw [e1]
    refine byte_app (encInt_byte (by omega) (by omega)) (byte_app (encInt_byte (by omega) (by omega)) ?_)
    intro x hx
    rw [List.mem_singleton.1 hx]
    exact hS
  · have e1 : bytA a = encInt 4 ++ (encInt a.B ++ bytI a.d) := by simp [bytA, hk]
    rw [e1]
    exact byte_app (encInt_byte (by omega) (by omega)) (byte_app (encInt_byte (by omega) (by omega)) (bytI_byte hd))
theorem sameI_self (d : D) : sameI d d = true := by simp [sameI]
theorem sameA_self (a : E) : sameA a a = true := by simp [sameA, sameI_self]
/-- What is put is taken, and nothing is left. -/
theorem TI_whole {d : D} (h : chkI d = 0) (hc : clI d = d) : TI ⟨bytI d, 0, 0⟩ = (d, ⟨bytI d, (bytI d).length, 0⟩) := by
  have := TI_back (all := bytI d) (k := 0) (rest := []) (d := d) (by simp) h
  rw [hc] at this
  simpa using this
theorem TA_whole {a : E} (h : chkA a = 0) (hc : clA a = a) : TA ⟨bytA a, 0, 0⟩ = (a, ⟨bytA a, (bytA a).length, 0⟩) := by
  have := TA_back (all := bytA a) (k := 0) (rest := []) (a := a) (by simp) h
  rw [hc] at this
  simpa using this
theorem fin_whole (xs : List Int) : RS.fin ⟨xs, xs.length, 0⟩ = 0 := by simp [RS.fin, RS.left]
theorem keeps_high {w w1 w2 : World} {p : Nat} (h : Keeps (fun _ => False) w w1) (k : Keeps (· = p) w1 w2) (hp : w.heap.size ≤ p) : Keeps (fun _ => False) w w2 :=
  ⟨k.os.trans h.os, k.tape.trans h.tape, k.output.trans h.output, Nat.le_trans h.size k.size, fun x hx hn => (k.block x (Nat.lt_of_lt_of_le hx h.size) (by omega)).trans (h.block x hx hn)⟩
theorem ents_far {w : World} {A : Option Addr} {n g : Nat} {L : List G} (h : Ents w A n L) (hg : w.heap.size ≤ g) : 0 < n → ∀ b o, A = some ⟨b, o, none⟩ → ¬ Its g (.slice none 0 0) b := by
  rintro h0 b o rfl (e | e)
  · have := h.lt h0
    omega
  · cases e
theorem lies_one (w : World) (x : Int) : Lies (w.alloc (.cells #[.int .u8 x] 5)) (some ⟨w.heap.size, 0, none⟩) [x] := by
  refine .inr ⟨w.heap.size, 0, rfl, by simp, fun i hi => ?_⟩
  have : i = 0 := by simpa using hi
  subst this
  rw [(Blk.new w 5 #[.int .u8 x]).cell]
  rfl
/-- Two ways in their variables, beside the variable that they came of. -/
structure Bk (P Q b : Nat) (sv : Array Value) (A6 : Option Addr) (n6 c6 : Nat) (A7 : Option Addr) (n7 c7 : Nat) (d : D) (a : E) (w : World) : Prop where
  sm : Blk w b 26 sv
  i : Blk w P 31 (dv A6 n6 c6 d)
  e : Blk w Q 34 (av A7 n7 c7 a)
  ei : Ents w A6 n6 d.L
  ee : Ents w A7 n7 a.d.L
theorem Bk.more {P Q b : Nat} {sv : Array Value} {A6 : Option Addr} {n6 c6 : Nat} {A7 : Option Addr} {n7 c7 : Nat} {d : D} {a : E} {w w1 : World} (h : Bk P Q b sv A6 n6 c6 A7 n7 c7 d a w) (k : Keeps (fun _ => False) w w1) : Bk P Q b sv A6 n6 c6 A7 n7 c7 d a w1 :=
  ⟨h.sm.keeps k id, h.i.keeps k id, h.e.keeps k id, h.ei.more k, h.ee.more k⟩
end Go.Proofs.Ytankkadfaokaoaa.Ds

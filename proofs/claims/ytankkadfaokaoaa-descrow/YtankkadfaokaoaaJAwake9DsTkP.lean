/- Awake, the fixed fact of layer 9's statements, answers true; nothing that was there turns. No conditions. -/
/- Ways taken from a Reader, as plain data (desc). Names no function of the program. -/
import Derived.Test.YtankkadfaokaoaaDsPutA
import Derived.Test.YtankkadfaokaoaaJItfTwoDsPl

namespace Go.Proofs.Ytankkadfaokaoaa.Ds
open Go.RowKit Go.Proofs.Ytankkadfaokaoaa.Gen Go.Proofs.Ytankkadfaokaoaa.Wr Go.Proofs.Ytankkadfaokaoaa.Ww Go.Proofs.Ytankkadfaokaoaa.It Go.Proofs.Ytankkadfaokaoaa.Iw Go.Proofs.Ytankkadfaokaoaa.Ir Go.Proofs.Ytankkadfaokaoaa.Ib Go.Proofs.Ytankkadfaokaoaa.Tw Go.Proofs.Ytankkadfaokaoaa.Hr Go.Proofs.Ytankkadfaokaoaa.Hn Go.Proofs.Ytankkadfaokaoaa.Hk Go.Proofs.Ytankkadfaokaoaa.Ln

theorem byt17 : ([] : List Int) ++ bytI ⟨1, 7, [], 0, 0⟩ = [1, 7] := by decide
theorem Wro.all {base g : Nat} {v : Value} {ys : List Int} {w wr : World} (h : Wro base g v ys w wr) (hb : base ≤ g) (hv : v.ownBlock = none) : (∃ v1, IsWr base g v1 ys wr) ∧ Keeps (· = g) w wr := by
  obtain ⟨v1, h1, h2, _⟩ := h
  refine ⟨⟨v1, h1⟩, h2.mono fun k _ hk => ?_⟩
  rcases hk with e | e
  · exact e
  · rw [hv] at e
    cases e
set_option maxHeartbeats 4000000 in
set_option maxRecDepth 100000 in
theorem awake (w : World) : Calls Try.prog 8 #[] w fun r w' => r = .returned (.bool true) ∧ Keeps (fun _ => False) w w' := by
  have HP := Lib.hid (put_i w.heap.size w.heap.size (.slice none 0 0) [] none 0 0 ⟨1, 7, [], 0, 0⟩ _ (new_of 40 (by decide) w) ⟨.inl rfl, rfl, by omega⟩ (fun h => absurd h (by omega)) (by simp) (by decide))
  unfold dv at HP
  simp only at HP
  rw [byt17] at HP
  go_enter Try.func8, Try.ntmps8
  go_wp2_with (first
    | (go_at_call 13
       refine HP.out.mono ?_
       rintro e w1 ⟨rfl, hw1⟩
       obtain ⟨⟨v1, hv1⟩, hk1⟩ := hw1.all (Nat.le_refl _) rfl
       have HV := Lib.hid hv1
       have HK : Hid (Keeps (fun _ => False) w w1) := Lib.hid ((Keeps.refl _ w).trans ⟨hk1.os, hk1.tape, hk1.output, Nat.le_trans (by simp) hk1.size, fun k hk _ => (hk1.block k (by simp; omega) (by omega)).trans (Below.heap_alloc _ _ _ hk)⟩)
       clear hw1 hv1 hk1)
    | (go_at_call 16
       refine (bytes_n _ _ v1 [1, 7] 2 _ rfl HV.out).mono ?_
       rintro e w2 ⟨A, c, rfl, hv, hk⟩
       have hc := (Lies.of_own hv).str_n (P := Try.prog) 2 rfl 24 9 5 c Try.underlying24 Try.underlying5 Try.underlying9
       rw [show strOfNums [1, 7] = ⟨#[1, 7]⟩ from rfl] at hc
       have HK2 := Lib.hid hk
       clear hv hk))
  go_ret
  exact ⟨rfl, HK.out.trans HK2.out⟩
end Go.Proofs.Ytankkadfaokaoaa.Ds

namespace Go.Proofs.Ytankkadfaokaoaa.Ds
open Go.RowKit Go.Proofs.Ytankkadfaokaoaa.Gen Go.Proofs.Ytankkadfaokaoaa.Wr Go.Proofs.Ytankkadfaokaoaa.It Go.Proofs.Ytankkadfaokaoaa.Ir Go.Proofs.Ytankkadfaokaoaa.Ib Go.Proofs.Ytankkadfaokaoaa.Tw Go.Proofs.Ytankkadfaokaoaa.Hr Go.Proofs.Ytankkadfaokaoaa.Hn Go.Proofs.Ytankkadfaokaoaa.Hk Go.Proofs.Ytankkadfaokaoaa.Ln

def D0 : D := ⟨0, 0, [], 0, 0⟩
def E0 : E := ⟨D0, 0, 0, 0⟩
def tkS (s : RS) : Nat → List Int × RS
  | 0 => ([], s)
  | j + 1 => ((tkS s j).1 ++ [sign32 (RS.int (tkS s j).2).1], (RS.int (tkS s j).2).2)
def tkZ (s : RS) : Nat → List Int × RS
  | 0 => ([], s)
  | j + 1 => ((tkZ s j).1 ++ [(RS.count (tkZ s j).2 20).1], (RS.count (tkZ s j).2 20).2)
theorem tkS_len (s : RS) : ∀ j, (tkS s j).1.length = j
  | 0 => rfl
  | j + 1 => by simp [tkS, tkS_len s j]
theorem tkZ_len (s : RS) : ∀ j, (tkZ s j).1.length = j
  | 0 => rfl
  | j + 1 => by simp [tkZ, tkZ_len s j]
def tkL (s : RS) (n : Nat) : List G × RS := ((tkS s n).1.zip (tkZ (tkS s n).2 n).1, (tkZ (tkS s n).2 n).2)
theorem tkL_len (s : RS) (n : Nat) : (tkL s n).1.length = n := by simp [tkL, tkS_len, tkZ_len]
def tkE (s : RS) : List G × RS := tkL (RS.count s 256).2 (RS.count s 256).1.toNat
def tkI (s : RS) : D × RS :=
  if (RS.count s 255).1 = 1 then (⟨1, (RS.count (RS.count s 255).2 60000).1, [], 0, 0⟩, (RS.count (RS.count s 255).2 60000).2)
  else if (RS.count s 255).1 = 3 then (⟨3, 0, (tkE (RS.count s 255).2).1, 0, 0⟩, (tkE (RS.count s 255).2).2)
  else if (RS.count s 255).1 = 6 then (⟨6, 0, [], sign32 (RS.int (RS.count s 255).2).1, (RS.count (RS.int (RS.count s 255).2).2 31).1⟩, (RS.count (RS.int (RS.count s 255).2).2 31).2)
  else (⟨(RS.count s 255).1, 0, [], 0, 0⟩, (RS.count s 255).2)
def tkA (s : RS) : E × RS :=
  if (RS.count s 255).1 = 4 then (⟨(tkI (RS.count (RS.count s 255).2 60000).2).1, 4, (RS.count (RS.count s 255).2 60000).1, 0⟩, (tkI (RS.count (RS.count s 255).2 60000).2).2)
  else if (RS.count s 255).1 = 5 then (⟨D0, 5, (RS.count (RS.count s 255).2 60000).1, (RS.count (RS.count s 255).2 60000).2.byte.1⟩, (RS.count (RS.count s 255).2 60000).2.byte.2)
  else (⟨D0, (RS.count s 255).1, (RS.count (RS.count s 255).2 60000).1, 0⟩, (RS.count (RS.count s 255).2 60000).2)
/-- A taking ends with what is wrong. -/
def ends (s : RS) (e : Int) : RS := if e ≠ 0 then s.fail e else s
def TI (s : RS) : D × RS := if (ends (tkI s).2 (chkI (tkI s).1)).e = 0 then ((tkI s).1, ends (tkI s).2 (chkI (tkI s).1)) else (D0, ends (tkI s).2 (chkI (tkI s).1))
def TA (s : RS) : E × RS := if (ends (tkA s).2 (chkA (tkA s).1)).e = 0 then ((tkA s).1, ends (tkA s).2 (chkA (tkA s).1)) else (E0, ends (tkA s).2 (chkA (tkA s).1))
theorem count_in {s : RS} (h : s.ok) {m : Int} (hm : 0 ≤ m) : 0 ≤ (RS.count s m).1 ∧ (RS.count s m).1 ≤ m := by
  have := int_in h
  unfold RS.count
  split
  · exact ⟨Int.le_refl _, hm⟩
  · omega
end Go.Proofs.Ytankkadfaokaoaa.Ds

/- Ways taken from a Reader, as plain data (desc). Names no function of the program. -/
/- Ways of bytes put behind what a Writer has (desc's Arrays.Put). -/
import Derived.Test.YtgaofnmgdefdcaaGreatDoorJItfWrDsPl
import Derived.Test.YtgaofnmgdefdcaaGreatDoorDsPutI

namespace Go.Proofs.YtgaofnmgdefdcaaGreatDoor.Ds
open Go.RowKit Go.Proofs.YtgaofnmgdefdcaaGreatDoor.Gen Go.Proofs.YtgaofnmgdefdcaaGreatDoor.Wr Go.Proofs.YtgaofnmgdefdcaaGreatDoor.It Go.Proofs.YtgaofnmgdefdcaaGreatDoor.Ir Go.Proofs.YtgaofnmgdefdcaaGreatDoor.Ib Go.Proofs.YtgaofnmgdefdcaaGreatDoor.Tw Go.Proofs.YtgaofnmgdefdcaaGreatDoor.Hr Go.Proofs.YtgaofnmgdefdcaaGreatDoor.Hn Go.Proofs.YtgaofnmgdefdcaaGreatDoor.Hk Go.Proofs.YtgaofnmgdefdcaaGreatDoor.Ln

def D0 : D := ⟨0, 0, [], 0, 0⟩
def E0 : E := ⟨D0, 0, 0, 0⟩
def tkS (s : RS) : Nat → List Int × RS
  | 0 => ([], s)
  | j + 1 => ((tkS s j).1 ++ [sign32 (RS.int (tkS s j).2).1], (RS.int (tkS s j).2).2)
def tkZ (s : RS) : Nat → List Int × RS
  | 0 => ([], s)
  | j + 1 => ((tkZ s j).1 ++ [(RS.count (tkZ s j).2 20).1], (RS.count (tkZ s j).2 20).2)
theorem tkS_len (s : RS) : ∀ j, (tkS s j).1.length = j
  | 0 => rfl
  | j + 1 => by simp [tkS, tkS_len s j]
theorem tkZ_len (s : RS) : ∀ j, (tkZ s j).1.length = j
  | 0 => rfl
  | j + 1 => by simp [tkZ, tkZ_len s j]
def tkL (s : RS) (n : Nat) : List G × RS := ((tkS s n).1.zip (tkZ (tkS s n).2 n).1, (tkZ (tkS s n).2 n).2)
theorem tkL_len (s : RS) (n : Nat) : (tkL s n).1.length = n := by simp [tkL, tkS_len, tkZ_len]
def tkE (s : RS) : List G × RS := tkL (RS.count s 256).2 (RS.count s 256).1.toNat
def tkI (s : RS) : D × RS :=
  if (RS.count s 255).1 = 1 then (⟨1, (RS.count (RS.count s 255).2 60000).1, [], 0, 0⟩, (RS.count (RS.count s 255).2 60000).2)
  else if (RS.count s 255).1 = 3 then (⟨3, 0, (tkE (RS.count s 255).2).1, 0, 0⟩, (tkE (RS.count s 255).2).2)
  else if (RS.count s 255).1 = 6 then (⟨6, 0, [], sign32 (RS.int (RS.count s 255).2).1, (RS.count (RS.int (RS.count s 255).2).2 31).1⟩, (RS.count (RS.int (RS.count s 255).2).2 31).2)
  else (⟨(RS.count s 255).1, 0, [], 0, 0⟩, (RS.count s 255).2)
def tkA (s : RS) : E × RS :=
  if (RS.count s 255).1 = 4 then (⟨(tkI (RS.count (RS.count s 255).2 60000).2).1, 4, (RS.count (RS.count s 255).2 60000).1, 0⟩, (tkI (RS.count (RS.count s 255).2 60000).2).2)
  else if (RS.count s 255).1 = 5 then (⟨D0, 5, (RS.count (RS.count s 255).2 60000).1, (RS.count (RS.count s 255).2 60000).2.byte.1⟩, (RS.count (RS.count s 255).2 60000).2.byte.2)
  else (⟨D0, (RS.count s 255).1, (RS.count (RS.count s 255).2 60000).1, 0⟩, (RS.count (RS.count s 255).2 60000).2)
/-- A taking ends with what is wrong. -/
def ends (s : RS) (e : Int) : RS := if e ≠ 0 then s.fail e else s
def TI (s : RS) : D × RS := if (ends (tkI s).2 (chkI (tkI s).1)).e = 0 then ((tkI s).1, ends (tkI s).2 (chkI (tkI s).1)) else (D0, ends (tkI s).2 (chkI (tkI s).1))
def TA (s : RS) : E × RS := if (ends (tkA s).2 (chkA (tkA s).1)).e = 0 then ((tkA s).1, ends (tkA s).2 (chkA (tkA s).1)) else (E0, ends (tkA s).2 (chkA (tkA s).1))
theorem count_in {s : RS} (h : s.ok) {m : Int} (hm : 0 ≤ m) : 0 ≤ (RS.count s m).1 ∧ (RS.count s m).1 ≤ m := by
  have := int_in h
  unfold RS.count
  split
  · exact ⟨Int.le_refl _, hm⟩
  · omega
end Go.Proofs.YtgaofnmgdefdcaaGreatDoor.Ds

namespace Go.Proofs.YtgaofnmgdefdcaaGreatDoor.Ds
open Go.RowKit Go.Proofs.YtgaofnmgdefdcaaGreatDoor.Gen Go.Proofs.YtgaofnmgdefdcaaGreatDoor.Wr Go.Proofs.YtgaofnmgdefdcaaGreatDoor.Ww Go.Proofs.YtgaofnmgdefdcaaGreatDoor.It Go.Proofs.YtgaofnmgdefdcaaGreatDoor.Iw Go.Proofs.YtgaofnmgdefdcaaGreatDoor.Ir Go.Proofs.YtgaofnmgdefdcaaGreatDoor.Ib Go.Proofs.YtgaofnmgdefdcaaGreatDoor.Tw Go.Proofs.YtgaofnmgdefdcaaGreatDoor.Hr Go.Proofs.YtgaofnmgdefdcaaGreatDoor.Hn Go.Proofs.YtgaofnmgdefdcaaGreatDoor.Hk Go.Proofs.YtgaofnmgdefdcaaGreatDoor.Ln

theorem chkA_ok {a : E} (h : chkA a = 0) : (1 ≤ a.B ∧ a.B ≤ 60000) ∧ (a.K = 5 ∨ (a.K = 4 ∧ chkI a.d = 0)) := by
  unfold chkA at h
  split at h
  · omega
  · rename_i h1
    have hb : 1 ≤ a.B ∧ a.B ≤ 60000 := by
      unfold blkE at h1
      split at h1
      · omega
      · omega
    refine ⟨hb, ?_⟩
    split at h
    · rename_i h4
      exact .inr ⟨h4, h⟩
    · split at h
      · rename_i h5
        exact .inl h5
      · omega

end Go.Proofs.YtgaofnmgdefdcaaGreatDoor.Ds

/- Ways of bytes taken from a Reader (desc's takeArrays): any bytes. -/
import Derived.Test.YtgaofnmgdefdcaaDoorDsTkI
namespace Go.Proofs.YtgaofnmgdefdcaaDoor.Ds
open Go.RowKit Go.Proofs.YtgaofnmgdefdcaaDoor.Gen Go.Proofs.YtgaofnmgdefdcaaDoor.Wr Go.Proofs.YtgaofnmgdefdcaaDoor.It Go.Proofs.YtgaofnmgdefdcaaDoor.Ir Go.Proofs.YtgaofnmgdefdcaaDoor.Ib Go.Proofs.YtgaofnmgdefdcaaDoor.Tw Go.Proofs.YtgaofnmgdefdcaaDoor.Hr Go.Proofs.YtgaofnmgdefdcaaDoor.Hz Go.Proofs.YtgaofnmgdefdcaaDoor.Hn Go.Proofs.YtgaofnmgdefdcaaDoor.Hk Go.Proofs.YtgaofnmgdefdcaaDoor.Ln

theorem keeps8 (w : World) (g : Nat) (a0 a1 a2 a3 a4 a5 a6 a7 : Value) : Keeps (· = g) w ((((((((w.setCell ⟨g, 0, none⟩ a0).setCell ⟨g, 1, none⟩ a1).setCell ⟨g, 2, none⟩ a2).setCell ⟨g, 3, none⟩ a3).setCell ⟨g, 4, none⟩ a4).setCell ⟨g, 5, none⟩ a5).setCell ⟨g, 6, none⟩ a6).setCell ⟨g, 7, none⟩ a7) :=
  ((((((((Keeps.refl _ _).setOwn 0 a0).setOwn 1 a1).setOwn 2 a2).setOwn 3 a3).setOwn 4 a4).setOwn 5 a5).setOwn 6 a6).setOwn 7 a7
theorem put8 {w : World} {g : Nat} {t : TypeId} {u0 u1 u2 u3 u4 u5 u6 u7 : Value} (h : Blk w g t #[u0, u1, u2, u3, u4, u5, u6, u7]) (a0 a1 a2 a3 a4 a5 a6 a7 : Value) : Blk ((((((((w.setCell ⟨g, 0, none⟩ a0).setCell ⟨g, 1, none⟩ a1).setCell ⟨g, 2, none⟩ a2).setCell ⟨g, 3, none⟩ a3).setCell ⟨g, 4, none⟩ a4).setCell ⟨g, 5, none⟩ a5).setCell ⟨g, 6, none⟩ a6).setCell ⟨g, 7, none⟩ a7) g t #[a0, a1, a2, a3, a4, a5, a6, a7] := by
  simpa using (((((((h.setCell 0 a0).setCell 1 a1).setCell 2 a2).setCell 3 a3).setCell 4 a4).setCell 5 a5).setCell 6 a6).setCell 7 a7

end Go.Proofs.YtgaofnmgdefdcaaDoor.Ds

/- Ways of numbers taken from a Reader (desc's takeInts, ends, TakeInts): any bytes. -/
import Derived.Test.YtgaofnmgdefdcaaDoorDsTk
import Derived.Test.YtgaofnmgdefdcaaDoorFrqSc
namespace Go.Proofs.YtgaofnmgdefdcaaDoor.Ds
open Go.RowKit Go.Proofs.YtgaofnmgdefdcaaDoor.Gen Go.Proofs.YtgaofnmgdefdcaaDoor.Wr Go.Proofs.YtgaofnmgdefdcaaDoor.It Go.Proofs.YtgaofnmgdefdcaaDoor.Ir Go.Proofs.YtgaofnmgdefdcaaDoor.Ib Go.Proofs.YtgaofnmgdefdcaaDoor.Tw Go.Proofs.YtgaofnmgdefdcaaDoor.Hr Go.Proofs.YtgaofnmgdefdcaaDoor.Hz Go.Proofs.YtgaofnmgdefdcaaDoor.Hn Go.Proofs.YtgaofnmgdefdcaaDoor.Hk Go.Proofs.YtgaofnmgdefdcaaDoor.Ln

def zi : Array Value := #[.int .u8 0, .int .i64 0, .slice none 0 0, .int .i64 0, .int .i64 0]
theorem dv_get (A : Option Addr) (n c : Nat) (d : D) : (dv A n c d)[0]? = some (.int .u8 d.K) ∧ (dv A n c d)[1]? = some (.int .i64 d.B) ∧ (dv A n c d)[2]? = some (.slice A n c) ∧ (dv A n c d)[3]? = some (.int .i64 d.le) ∧ (dv A n c d)[4]? = some (.int .i64 d.bi) := ⟨rfl, rfl, rfl, rfl, rfl⟩
theorem keeps5 (w : World) (g : Nat) (a b c d e : Value) : Keeps (· = g) w (((((w.setCell ⟨g, 0, none⟩ a).setCell ⟨g, 1, none⟩ b).setCell ⟨g, 2, none⟩ c).setCell ⟨g, 3, none⟩ d).setCell ⟨g, 4, none⟩ e) :=
  (((((Keeps.refl _ _).setOwn 0 a).setOwn 1 b).setOwn 2 c).setOwn 3 d).setOwn 4 e
theorem put5 {w : World} {g : Nat} {t : TypeId} {u0 u1 u2 u3 u4 : Value} (h : Blk w g t #[u0, u1, u2, u3, u4]) (a b c d e : Value) : Blk (((((w.setCell ⟨g, 0, none⟩ a).setCell ⟨g, 1, none⟩ b).setCell ⟨g, 2, none⟩ c).setCell ⟨g, 3, none⟩ d).setCell ⟨g, 4, none⟩ e) g t #[a, b, c, d, e] := by
  simpa using ((((h.setCell 0 a).setCell 1 b).setCell 2 c).setCell 3 d).setCell 4 e

end Go.Proofs.YtgaofnmgdefdcaaDoor.Ds

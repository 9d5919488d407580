/- What is taken of a way for bytes leaves the Reader its bytes (desc; plain data). Names no function of the program. -/
import Derived.Test.YtankkadfaokaoaaJDsAnyDsBack
namespace Go.Proofs.Ytankkadfaokaoaa.Ds
open Go.RowKit Go.Proofs.Ytankkadfaokaoaa.Gen Go.Proofs.Ytankkadfaokaoaa.Wr Go.Proofs.Ytankkadfaokaoaa.It Go.Proofs.Ytankkadfaokaoaa.Ir Go.Proofs.Ytankkadfaokaoaa.Ib Go.Proofs.Ytankkadfaokaoaa.Tw Go.Proofs.Ytankkadfaokaoaa.Hr Go.Proofs.Ytankkadfaokaoaa.Hn Go.Proofs.Ytankkadfaokaoaa.Hk Go.Proofs.Ytankkadfaokaoaa.Ln
theorem TA_xs {s : RS} (ho : s.ok) (he : (TA s).2.e = 0) : (TA s).2.xs = s.xs := by
  unfold TA at he ⊢
  split
  · rename_i h0
    obtain ⟨h3, h4⟩ := ends_zero h0
    have hk := (chkA_ok h3).2
    have h := tkA_step ho (by rcases hk with h | h; exact .inr h; exact .inl h.1)
    simp only
    rw [h4]
    exact h.xs
  · rename_i h0
    rw [if_neg h0] at he
    exact absurd he h0
end Go.Proofs.Ytankkadfaokaoaa.Ds

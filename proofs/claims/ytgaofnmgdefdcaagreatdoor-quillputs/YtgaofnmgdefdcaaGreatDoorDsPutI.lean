/- Ways put behind what a Writer has (desc's Put): their bytes, or the error and nothing. -/
import Derived.Test.YtgaofnmgdefdcaaGreatDoorJDsChkDsPut
namespace Go.Proofs.YtgaofnmgdefdcaaGreatDoor.Ds
open Go.RowKit Go.Proofs.YtgaofnmgdefdcaaGreatDoor.Gen Go.Proofs.YtgaofnmgdefdcaaGreatDoor.Wr Go.Proofs.YtgaofnmgdefdcaaGreatDoor.Ww Go.Proofs.YtgaofnmgdefdcaaGreatDoor.It Go.Proofs.YtgaofnmgdefdcaaGreatDoor.Iw Go.Proofs.YtgaofnmgdefdcaaGreatDoor.Ir Go.Proofs.YtgaofnmgdefdcaaGreatDoor.Ib Go.Proofs.YtgaofnmgdefdcaaGreatDoor.Tw Go.Proofs.YtgaofnmgdefdcaaGreatDoor.Hr Go.Proofs.YtgaofnmgdefdcaaGreatDoor.Hn Go.Proofs.YtgaofnmgdefdcaaGreatDoor.Hk Go.Proofs.YtgaofnmgdefdcaaGreatDoor.Ln

theorem newE_zero {L : List G} (h : newE L = 0) : (1 ≤ L.length ∧ L.length ≤ 256) ∧ (∀ i, i < L.length → errAt L i = 0) ∧ posOf (nats' L) ≤ 2 ^ 20 := by
  unfold newE at h
  split at h
  · omega
  · rename_i h1
    split at h
    · rename_i i hf
      rw [List.find?_range_eq_some] at hf
      exact absurd h (by simpa using hf.1)
    · rename_i hf
      refine ⟨by omega, fun i hi => ?_, ?_⟩
      · rw [List.find?_eq_none] at hf
        have := hf i (by simpa using hi)
        simpa using this
      · split at h
        · omega
        · omega
theorem newE_in {L : List G} (h : newE L = 0) : ∀ p ∈ L, (-2147483647 ≤ p.1 ∧ p.1 ≤ 2147483647) ∧ 0 ≤ p.2 ∧ p.2 ≤ 20 := by
  intro p hp
  obtain ⟨i, hi, rfl⟩ := List.getElem_of_mem hp
  have := (newE_zero h).2.1 i hi
  unfold errAt entErr at this
  rw [List.getD_eq_getElem?_getD, List.getElem?_eq_getElem hi] at this
  simp only [Option.getD_some] at this
  split at this
  · omega
  · omega

end Go.Proofs.YtgaofnmgdefdcaaGreatDoor.Ds

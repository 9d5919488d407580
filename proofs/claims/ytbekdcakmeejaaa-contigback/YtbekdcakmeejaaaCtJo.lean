/- Contigs by small numbers are right; what is wrong with one more behind them. Names no function of the program. No conditions. -/
import Derived.Test.YtbekdcakmeejaaaCtSm
namespace Go.Proofs.Ytbekdcakmeejaaa.Ct
open Go.RowKit Go.Proofs.Ytbekdcakmeejaaa.Gen

def tot : List Pr → Nat
  | [] => 0
  | p :: ps => p.2.length + tot ps
theorem tot_app (ps qs : List Pr) : tot (ps ++ qs) = tot ps + tot qs := by
  induction ps with
  | nil => simp [tot]
  | cons p ps ih => simp [tot, ih]; omega
theorem chkL_app (q : Pr) : ∀ (ps seen : List Pr) (t : Nat), chkL seen t ps = 0 → chkL seen t (ps ++ [q]) = err1 (seen ++ ps) (t + tot ps) q
  | [], seen, t, _ => by
    simp only [List.nil_append, List.append_nil, tot, Nat.add_zero, chkL]
    split
    next h => exact h.symm
    · rfl
  | p :: ps, seen, t, h => by
    simp only [List.cons_append, chkL] at h ⊢
    split at h
    next h0 =>
      rw [if_pos h0, chkL_app q ps _ _ h, tot]
      simp only [List.append_assoc, List.singleton_append]
      congr 1
      omega
    next h0 => exact absurd h h0
theorem ps_tot (s : Sml) : ∀ k, tot (s.ps k) ≤ k * 119
  | 0 => by simp [Sml.ps, tot]
  | k + 1 => by
    have ih := ps_tot s k
    have h := len_le s k
    rw [ps_succ, tot_app]
    simp only [tot, letters_len]
    omega
theorem ps_names (s : Sml) (k : Nat) : (s.ps k).map Prod.fst = (List.range k).map nmOf := by simp [Sml.ps]
theorem nm_named : ∀ k : Fin 4, named (nmOf k.val) = true := by decide
theorem nm_new : ∀ k : Fin 4, nmOf k.val ∉ (List.range k.val).map nmOf := by decide
theorem ps_chkL (s : Sml) : ∀ k, k ≤ 4 → chkL [] 0 (s.ps k) = 0
  | 0, _ => rfl
  | k + 1, hk => by
    have ih := ps_chkL s k (by omega)
    have h1 := ps_tot s k
    have h2 := len_le s k
    rw [ps_succ, chkL_app _ _ _ _ ih, List.nil_append, Nat.zero_add, err1, nm_named ⟨k, by omega⟩, ps_names]
    have h3 := nm_new ⟨k, by omega⟩
    have h4 : letters (s.st k) (s.len k) ≠ [] := fun e => by have := congrArg List.length e; rw [letters_len] at this; simp at this; omega
    have h5 : ¬ 1048576 < tot (s.ps k) + (letters (s.st k) (s.len k)).length := by rw [letters_len]; omega
    simp only at h3
    rw [if_neg (by simp), if_neg h3, if_neg (by simp only; intro h; rcases h with h | h; exact h4 h; exact h5 h), letters_all]
    rfl
theorem ps_chk (s : Sml) (k : Nat) (hk : k ≤ 4) : chk (s.ps k) = 0 := by
  rw [chk, if_neg (by rw [ps_len]; omega), ps_chkL s k hk]
/-- One more behind contigs that are right. -/
theorem chk_more {ps : List Pr} {q : Pr} (h : chkL [] 0 ps = 0) (hn : ps.length < 100) : chk (ps ++ [q]) = err1 ps (tot ps) q := by
  rw [chk, if_neg (by simp; omega), chkL_app _ _ _ _ h, List.nil_append, Nat.zero_add]
theorem ps_no10 (s : Sml) (k : Nat) : ∀ p ∈ s.ps k, 10 ∉ p.1 ∧ 10 ∉ p.2 := by
  intro p hp
  simp only [Sml.ps, List.mem_map, List.mem_range] at hp
  obtain ⟨i, _, rfl⟩ := hp
  refine ⟨fun h => ?_, fun h => ?_⟩
  · unfold nmOf at h
    split at h <;> simp at h
  · have := letters_all (s.st i) (s.len i)
    rw [List.all_eq_true] at this
    have := this _ h
    simp [ltr] at this
end Go.Proofs.Ytbekdcakmeejaaa.Ct

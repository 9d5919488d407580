/- huff.Key's text: it is another one for other entries. -/
import Derived.Test.YtaamnbminmcbpaaDoorHufKey
namespace Go.Proofs.YtaamnbminmcbpaaDoor.Ky
open Go.RowKit Go.Proofs.YtaamnbminmcbpaaDoor.Gen Go.Proofs.YtaamnbminmcbpaaDoor.Hr Go.Proofs.YtaamnbminmcbpaaDoor.Hn

theorem dig_nat {k : Nat} (h : k < 10) : (UInt8.ofNat (48 + k)).toNat = 48 + k := by simp; omega
theorem dec_dig (u : Nat) : ∀ c ∈ Lib.decDigits u, 48 ≤ c.toNat ∧ c.toNat < 58 := by
  induction u using Nat.strongRecOn with
  | _ u ih =>
    intro c hc
    rw [Lib.decDigits] at hc
    split at hc
    · rename_i h
      rw [List.mem_singleton.1 hc, dig_nat h]
      omega
    · rcases List.mem_append.1 hc with hc | hc
      · exact ih _ (by omega) c hc
      · rw [List.mem_singleton.1 hc, dig_nat (Nat.mod_lt _ (by decide))]
        omega
theorem dec_pos (u : Nat) : Lib.decDigits u ≠ [] := by
  rw [Lib.decDigits]
  split <;> simp
theorem dec_inj (u v : Nat) (h : Lib.decDigits u = Lib.decDigits v) : u = v := by
  induction u using Nat.strongRecOn generalizing v with
  | _ u ih =>
    rw [Lib.decDigits.eq_def u, Lib.decDigits.eq_def v] at h
    split at h <;> split at h
    · rename_i h1 h2
      have := congrArg (fun l => l.map UInt8.toNat) h
      simp only [List.map_cons, List.map_nil, dig_nat h1, dig_nat h2, List.cons.injEq] at this
      omega
    · have h1 := congrArg List.length h
      have h2 := List.length_pos_iff.2 (dec_pos (v / 10))
      rw [List.length_append] at h1
      simp only [List.length_cons, List.length_nil] at h1
      omega
    · have h1 := congrArg List.length h
      have h2 := List.length_pos_iff.2 (dec_pos (u / 10))
      rw [List.length_append] at h1
      simp only [List.length_cons, List.length_nil] at h1
      omega
    · obtain ⟨h1, h2⟩ := List.append_inj' h rfl
      have h3 := ih (u / 10) (by omega) (v / 10) h1
      have := congrArg (fun l => l.map UInt8.toNat) h2
      simp only [List.map_cons, List.map_nil, dig_nat (Nat.mod_lt u (by decide)), dig_nat (Nat.mod_lt v (by decide)), List.cons.injEq] at this
      omega
theorem itoa_dig (x : Int) : ∀ c ∈ Lib.itoa x, c.toNat ≠ 58 ∧ c.toNat ≠ 32 := by
  intro c hc
  unfold Lib.itoa at hc
  split at hc
  · rcases List.mem_cons.1 hc with rfl | hc
    · decide
    · have := dec_dig _ c hc
      omega
  · have := dec_dig _ c hc
    omega
theorem itoa_inj {x y : Int} (h : Lib.itoa x = Lib.itoa y) : x = y := by
  have no : ∀ u v : Nat, (45 : UInt8) :: Lib.decDigits u ≠ Lib.decDigits v := by
    intro u v e
    have := dec_dig v 45 (by rw [← e]; exact List.mem_cons_self)
    revert this
    decide
  unfold Lib.itoa at h
  split at h <;> split at h
  · have := dec_inj _ _ (List.cons.inj h).2
    omega
  · exact absurd h (no _ _)
  · exact absurd h.symm (no _ _)
  · have := dec_inj _ _ h
    omega
/-- Behind what holds no c, the first c parts two texts alike. -/
theorem part_at {c : UInt8} : ∀ {a b s t : List UInt8}, (∀ x ∈ a, x ≠ c) → (∀ x ∈ b, x ≠ c) → a ++ c :: s = b ++ c :: t → a = b ∧ s = t
  | [], [], _, _, _, _, h => ⟨rfl, (List.cons.inj h).2⟩
  | [], y :: b, _, _, _, hb, h => absurd (List.cons.inj h).1.symm (hb y List.mem_cons_self)
  | x :: a, [], _, _, ha, _, h => absurd (List.cons.inj h).1 (ha x List.mem_cons_self)
  | x :: a, y :: b, s, t, ha, hb, h => by
    obtain ⟨h1, h2⟩ := List.cons.inj h
    obtain ⟨h3, h4⟩ := part_at (fun z hz => ha z (List.mem_cons_of_mem _ hz)) (fun z hz => hb z (List.mem_cons_of_mem _ hz)) h2
    exact ⟨by rw [h1, h3], h4⟩
theorem no58 (x : Int) : ∀ c ∈ Lib.itoa x, c ≠ 58 := fun c hc e => (itoa_dig x c hc).1 (by rw [e]; rfl)
theorem no32 (x : Int) : ∀ c ∈ Lib.itoa x, c ≠ 32 := fun c hc e => (itoa_dig x c hc).2 (by rw [e]; rfl)
theorem key_inj : ∀ {L M : List G}, keyT L = keyT M → L = M
  | [], [], _ => rfl
  | [], y :: M, h => by
    have := congrArg List.length h
    simp [keyT, ent1] at this
  | x :: L, [], h => by
    have := congrArg List.length h
    simp [keyT, ent1] at this
  | (x, s) :: L, (y, t) :: M, h => by
    have h0 : Lib.itoa x ++ 58 :: (Lib.itoa s ++ 32 :: keyT L) = Lib.itoa y ++ 58 :: (Lib.itoa t ++ 32 :: keyT M) := by
      simpa [keyT, ent1] using h
    obtain ⟨h1, h2⟩ := part_at (no58 x) (no58 y) h0
    obtain ⟨h3, h4⟩ := part_at (no32 s) (no32 t) h2
    rw [itoa_inj h1, itoa_inj h3, key_inj h4]
theorem key_str {L M : List G} : ((⟨(keyT L).toArray⟩ : ByteArray) = ⟨(keyT M).toArray⟩) ↔ L = M := by
  constructor
  · intro h
    injection h with h
    injection h with h
    exact key_inj h
  · rintro rfl
    rfl
end Go.Proofs.YtaamnbminmcbpaaDoor.Ky

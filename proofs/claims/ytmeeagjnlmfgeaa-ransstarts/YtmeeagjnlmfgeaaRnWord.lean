/- The document's own answer for a word's bytes (Word of the package of answers); words that are read again, whatever they are. -/
import Derived.Test.YtmeeagjnlmfgeaaRnAll
namespace Go.Proofs.Ytmeeagjnlmfgeaa.Rs
open Go.RowKit Go.Proofs.Ytmeeagjnlmfgeaa.Gen Go.Proofs.Ytmeeagjnlmfgeaa.Wr Go.Proofs.Ytmeeagjnlmfgeaa.Ww Go.Proofs.Ytmeeagjnlmfgeaa.It Go.Proofs.Ytmeeagjnlmfgeaa.Rp

theorem own_new (w : World) (xs : List Int) (cs : Array Value) (n : Nat) (hc : cs = (bv xs).toArray) (hn : xs.length = n) (hm : n ≤ 1000000) : (w.alloc (.cells cs 5)).ownsRow w.heap.size 5 1 (.slice (some ⟨w.heap.size, 0, none⟩) n n) n (bv xs) := by
  subst hc
  refine ⟨by rw [bv_len]; omega, .inr ⟨w.heap.size, n, _, rfl, Nat.le_refl _, heap_alloc_new w _, Nat.le_refl _, by simp only [maxLen]; omega, ?_, ?_⟩⟩
  · simp [bv_len, hn]
  · simp
    exact List.take_of_length_le (by rw [bv_len]; omega)
theorem rword (n : Nat) (w : World) (hn : n < 4294967296) : Calls Try.prog 16 #[.int .u32 (n : Int)] w (Own w.heap.size 4 (lows (n : Int) 4) w) := by
  obtain ⟨b0, h0⟩ : ∃ b0 : Nat, n % 256 = b0 := ⟨_, rfl⟩
  obtain ⟨q1, g1⟩ : ∃ q1 : Nat, n / 256 = q1 := ⟨_, rfl⟩
  obtain ⟨b1, h1⟩ : ∃ b1 : Nat, q1 % 256 = b1 := ⟨_, rfl⟩
  obtain ⟨q2, g2⟩ : ∃ q2 : Nat, n / 65536 = q2 := ⟨_, rfl⟩
  obtain ⟨b2, h2⟩ : ∃ b2 : Nat, q2 % 256 = b2 := ⟨_, rfl⟩
  obtain ⟨b3, h3⟩ : ∃ b3 : Nat, n / 16777216 = b3 := ⟨_, rfl⟩
  have HE : Hid ((bv (lows (n : Int) 4)).toArray = #[.int .u8 (b0 : Int), .int .u8 (b1 : Int), .int .u8 (b2 : Int), .int .u8 (b3 : Int)]) := by
    show _ = _
    rw [lows4, show (n : Int) % 256 = (b0 : Int) by omega, show (n : Int) / 256 % 256 = (b1 : Int) by omega, show (n : Int) / 65536 % 256 = (b2 : Int) by omega, show (n : Int) / 16777216 % 256 = (b3 : Int) by omega]
    rfl
  have m0 : (n : Int) % 256 = (b0 : Int) := by omega
  have m1 : (n : Int) / 256 = (q1 : Int) := by omega
  have m2 : (q1 : Int) % 256 = (b1 : Int) := by omega
  have m3 : (n : Int) / 65536 = (q2 : Int) := by omega
  have m4 : (q2 : Int) % 256 = (b2 : Int) := by omega
  have m5 : (n : Int) / 16777216 = (b3 : Int) := by omega
  have k0 : IntKind.u32.wrap (b0 : Int) = (b0 : Int) := IntWalk.u32_in _ (by omega)
  have k1 : IntKind.u32.wrap (q1 : Int) = (q1 : Int) := IntWalk.u32_in _ (by omega)
  have k2 : IntKind.u32.wrap (b1 : Int) = (b1 : Int) := IntWalk.u32_in _ (by omega)
  have k3 : IntKind.u32.wrap (q2 : Int) = (q2 : Int) := IntWalk.u32_in _ (by omega)
  have k4 : IntKind.u32.wrap (b2 : Int) = (b2 : Int) := IntWalk.u32_in _ (by omega)
  have k5 : IntKind.u32.wrap (b3 : Int) = (b3 : Int) := IntWalk.u32_in _ (by omega)
  have j0 : IntKind.u8.wrap (b0 : Int) = (b0 : Int) := IntWalk.u8_in _ (by omega)
  have j1 : IntKind.u8.wrap (b1 : Int) = (b1 : Int) := IntWalk.u8_in _ (by omega)
  have j2 : IntKind.u8.wrap (b2 : Int) = (b2 : Int) := IntWalk.u8_in _ (by omega)
  have j3 : IntKind.u8.wrap (b3 : Int) = (b3 : Int) := IntWalk.u8_in _ (by omega)
  clear h0 g1 h1 g2 h2 h3 hn
  go_enter Try.func16, Try.ntmps16
  go_wp2
  go_ret
  exact ⟨_, _, rfl, own_new w _ _ 4 HE.out.symm (lows_len _ _) (by omega), (Keeps.refl _ _).alloc _⟩
theorem words_back {f : List Nat} (hl : f.length = 4) (hb : ∀ x ∈ f, x < 4294967296) : wds 4 ⟨wb f, 0, 0⟩ = (f, ⟨wb f, 16, 0⟩) := by
  obtain ⟨a, b, c, d, rfl⟩ := four hl
  have ia := hb a (by simp)
  have ib := hb b (by simp)
  have ic := hb c (by simp)
  have id := hb d (by simp)
  obtain ⟨xs, hxs⟩ : ∃ xs, wb [a, b, c, d] = xs := ⟨_, rfl⟩
  rw [hxs]
  have h : xs.drop 0 = lows (a : Int) 4 ++ (lows (b : Int) 4 ++ (lows (c : Int) 4 ++ (lows (d : Int) 4 ++ []))) := by rw [← hxs, List.drop_zero]; simp [wb]
  have w0 := word_lows (k := 0) (n := (a : Int)) h (by omega) (by omega)
  have h1 : xs.drop (0 + 4) = lows (b : Int) 4 ++ (lows (c : Int) 4 ++ (lows (d : Int) 4 ++ [])) := by rw [← List.drop_drop, h]; exact List.drop_left' (lows_len _ _)
  have w1 := word_lows (k := 0 + 4) (n := (b : Int)) h1 (by omega) (by omega)
  have h2 : xs.drop (0 + 4 + 4) = lows (c : Int) 4 ++ (lows (d : Int) 4 ++ []) := by rw [← List.drop_drop, h1]; exact List.drop_left' (lows_len _ _)
  have w2 := word_lows (k := 0 + 4 + 4) (n := (c : Int)) h2 (by omega) (by omega)
  have h3 : xs.drop (0 + 4 + 4 + 4) = lows (d : Int) 4 ++ [] := by rw [← List.drop_drop, h2]; exact List.drop_left' (lows_len _ _)
  have w3 := word_lows (k := 0 + 4 + 4 + 4) (n := (d : Int)) h3 (by omega) (by omega)
  simp only [wds, w0, w1, w2, w3, Int.toNat_natCast, List.nil_append, List.cons_append]
end Go.Proofs.Ytmeeagjnlmfgeaa.Rs

/- A sum of one part, or of two, wherever they are laid. -/
import Derived.Test.YtbehchibgkgpbaaCrcFlip
namespace Go.Proofs.Ytbehchibgkgpbaa.Cm
open Go.RowKit Go.Proofs.Ytbehchibgkgpbaa.Gen Go.Proofs.Ytbehchibgkgpbaa.Cp Go.Proofs.Ytbehchibgkgpbaa.Ct Go.Proofs.Ytbehchibgkgpbaa.Cs Go.Proofs.Ytbehchibgkgpbaa.Cu Go.Proofs.Ytbehchibgkgpbaa.Cr Go.Proofs.Ytbehchibgkgpbaa.Cf

theorem sum_at (g p k c q : Nat) (A : Option Addr) (xs : List Int) (w : World) (hg : Blk w g 37 (tabAt 256)) (hp : Blk w p 22 #[.slice A k c]) (hl : Lies w A xs) (hb : Byt xs) (hk : xs.length = k) (hn : k ≤ 1000000) (hq : sumOf (nat xs) = q) :
    Calls Try.prog 11 #[.pointer (some ⟨g, 0, none⟩), .slice (some ⟨p, 0, none⟩) 1 1] w fun r w' => r = .returned (.int .u32 (q : Int)) ∧ w' = w := by
  subst hq
  subst hk
  have h := sum_ g p 1 [(A, c, xs)] w hg ⟨hp, by simpa using hl, by simpa using hb, by simpa using hn, by simp⟩ rfl
  simpa [flat] using h
theorem sum_two (g p k c k' c' q : Nat) (A A' : Option Addr) (xs xs' : List Int) (w : World) (hg : Blk w g 37 (tabAt 256)) (hp : Blk w p 22 #[.slice A k c, .slice A' k' c']) (hl : Lies w A xs) (hl' : Lies w A' xs') (hb : Byt xs) (hb' : Byt xs') (hk : xs.length = k) (hk' : xs'.length = k') (hn : k ≤ 1000000) (hn' : k' ≤ 1000000) (hq : sumOf (nat (xs ++ xs')) = q) :
    Calls Try.prog 11 #[.pointer (some ⟨g, 0, none⟩), .slice (some ⟨p, 0, none⟩) 2 2] w fun r w' => r = .returned (.int .u32 (q : Int)) ∧ w' = w := by
  subst hq
  subst hk
  subst hk'
  have h := sum_ g p 2 [(A, c, xs), (A', c', xs')] w hg ⟨hp, by simpa using ⟨hl, hl'⟩, by simpa using ⟨hb, hb'⟩, by simpa using ⟨hn, hn'⟩, by simp⟩ rfl
  simpa [flat] using h
theorem run_cut_to {P : Program} (t e : TypeId) (A : Option Addr) (n c m : Nat) (kh : IntKind) (ht : P.underlying t = some (.slice e)) (he : ∀ w, (sizeOf e).run P w = .ok 1 w) (hk : m ≤ c) (w : World) :
    (Instr.slice t (.slice A n c) none (some (.int kh m)) none).run P w = .ok (.slice (cutAt A c 0) m c) w := by
  have hel : P.elem t = e := by simp [Program.elem, ht]
  rw [run_slice_h (P := P) w t A n c (by rw [hel]; exact ht) kh m (by omega) (by omega), hel, he]
  simp only [Result.andThen, sliced, Int.toNat_natCast]
  rfl
/-- A part laid in a block of its own. -/
def Laid1 (s v : Value) (w : World) : Prop := ∃ p, s = .slice (some ⟨p, 0, none⟩) 1 1 ∧ Blk w p 22 #[v]
theorem Laid1.alloc {s v : Value} {w : World} (h : Laid1 s v w) (o : Obj) : Laid1 s v (w.alloc o) := by
  obtain ⟨p, h1, h2⟩ := h
  exact ⟨p, h1, h2.alloc o⟩
theorem Laid1.new (w : World) (v : Value) : Laid1 (.slice (some ⟨w.heap.size, 0, none⟩) 1 1) v (w.alloc (.cells #[v] 22)) := ⟨_, rfl, Blk.new w 22 _⟩
end Go.Proofs.Ytbehchibgkgpbaa.Cm

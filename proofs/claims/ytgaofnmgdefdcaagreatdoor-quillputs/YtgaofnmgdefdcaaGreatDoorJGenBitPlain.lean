/- Small laws on worlds, on blocks that are known whole and on rows of bytes, for the contracts of this seat. No conditions beyond those that each law names. -/
/- Sizes of words, plain data alone: rows of singles and pairs (package-merge), what is taken of them, that words of these sizes fill the line, and that no sizes of at most 20 bits cost less than those that merging the lightest two has. No program is named here. -/
/- Bits, the highest first, plain data alone: of numbers, of bytes; bytes out of them, noughts behind. No program is named here. -/
import Derived.Below
import Derived.Laws.OwnMore
import Derived.Laws.Rows
import Derived.Deep.Draws
import Derived.WalkSmall
import Derived.Laws.BytesArg
import Derived.OwnWalk
import Derived.Laws.Slices

namespace Go.Proofs.YtgaofnmgdefdcaaGreatDoor.Gen
open Go.RowKit

/-- From w to w' only blocks that S holds of, and new ones, have turned. -/
structure Keeps (S : Nat → Prop) (w w' : World) : Prop where
  os : w'.os = w.os
  tape : w'.tape = w.tape
  output : w'.output = w.output
  size : w.heap.size ≤ w'.heap.size
  block : ∀ k, k < w.heap.size → ¬ S k → w'.heap[k]? = w.heap[k]?

section
variable {S S' : Nat → Prop} {w w1 w2 : World} {g : Nat}
theorem Keeps.refl (S : Nat → Prop) (w : World) : Keeps S w w := ⟨rfl, rfl, rfl, Nat.le_refl _, fun _ _ _ => rfl⟩
theorem Keeps.trans (h : Keeps S w w1) (k : Keeps S w1 w2) : Keeps S w w2 :=
  ⟨k.os.trans h.os, k.tape.trans h.tape, k.output.trans h.output, Nat.le_trans h.size k.size, fun i hi hn => (k.block i (Nat.lt_of_lt_of_le hi h.size) hn).trans (h.block i hi hn)⟩
theorem Keeps.mono (h : Keeps S w w1) (hs : ∀ k, k < w.heap.size → S k → S' k) : Keeps S' w w1 :=
  ⟨h.os, h.tape, h.output, h.size, fun i hi hn => h.block i hi fun hS => hn (hs i hi hS)⟩
theorem Keeps.drewN (h : Keeps S w w1) (n : Nat) : Keeps S w (w1.drewN n) := ⟨h.os, h.tape, h.output, h.size, h.block⟩
theorem Keeps.of_drew (h : Keeps S w.drew w1) : Keeps S w w1 := ⟨h.os, h.tape, h.output, h.size, h.block⟩
theorem Keeps.of_drewN {n : Nat} (h : Keeps S (w.drewN n) w1) : Keeps S w w1 := ⟨h.os, h.tape, h.output, h.size, h.block⟩
theorem Keeps.alloc (h : Keeps S w w1) (o : Obj) : Keeps S w (w1.alloc o) :=
  h.trans ⟨rfl, rfl, rfl, by simp, fun k hk _ => Below.heap_alloc _ _ _ hk⟩
theorem Keeps.setCell (h : Keeps S w w1) {p : Addr} (hp : S p.block ∨ w.heap.size ≤ p.block) (u : Value) : Keeps S w (w1.setCell p u) :=
  ⟨h.os, h.tape, h.output, by simpa [World.setCell] using h.size, fun k hk hn => (Below.heap_setCell _ _ _ _ (fun e => by subst e; rcases hp with hp | hp; exact hn hp; omega)).trans (h.block k hk hn)⟩
theorem Keeps.setOwn (h : Keeps (· = g) w w1) (i : Nat) (u : Value) : Keeps (· = g) w (w1.setCell ⟨g, i, none⟩ u) := h.setCell (p := ⟨g, i, none⟩) (.inl rfl) u
theorem Keeps.grown {row : Option Nat} (h : Keeps S w w1) (hg : w1.grownBy w2 row) (hr : ∀ k, row = some k → S k ∨ w.heap.size ≤ k) : Keeps S w w2 :=
  ⟨hg.os.trans h.os, hg.tape.trans h.tape, hg.output.trans h.output, Nat.le_trans h.size hg.size,
   fun k hk hn => (hg.block k (Nat.lt_of_lt_of_le hk h.size) (fun e => by rcases hr k e.symm with h1 | h1; exact hn h1; omega)).trans (h.block k hk hn)⟩
theorem Keeps.below {B : Nat} (h : Keeps S w w1) (hB : B ≤ w.heap.size) (hS : ∀ k, S k → B ≤ k) : Below B w w1 :=
  ⟨h.os, h.tape, h.output, h.size, fun k hk => h.block k (by omega) fun hs => by have := hS k hs; omega⟩
theorem Keeps.of_below (h : Below w.heap.size w w1) : Keeps S w w1 := ⟨h.os, h.tape, h.output, h.size, fun k hk _ => h.block k hk⟩
theorem Keeps.cell {p : Addr} (h : Keeps S w w1) (hp : p.block < w.heap.size) (hn : ¬ S p.block) : w1.cell? p = w.cell? p := World.cell?_of_block (w := w) (h.block p.block hp hn)
theorem Keeps.none_ (h : Keeps (fun _ => False) w w1) : Keeps S w w1 := h.mono fun _ _ hf => hf.elim
end

/-- Block g is just these cells, of this element type, none of them frozen. -/
def Blk (w : World) (g : Nat) (t : TypeId) (cs : Array Value) : Prop := w.heap[g]? = some (.cells cs t (0, 0))

section
variable {S : Nat → Prop} {w w1 : World} {g : Nat} {t : TypeId} {cs : Array Value}
theorem Blk.lt (h : Blk w g t cs) : g < w.heap.size := (Array.getElem?_eq_some_iff.1 h).1
theorem Blk.cell (h : Blk w g t cs) (i : Nat) : w.cell? ⟨g, i, none⟩ = cs[i]? := cell_of_row w g i cs t (0, 0) h
theorem Blk.frozen (h : Blk w g t cs) (i : Nat) : w.frozen? ⟨g, i, none⟩ = false := by unfold Blk at h; simp [World.frozen?, h]
theorem Blk.new (w : World) (t : TypeId) (cs : Array Value) : Blk (w.alloc (.cells cs t)) w.heap.size t cs := heap_alloc_new w _
theorem Blk.drewN (h : Blk w g t cs) (n : Nat) : Blk (w.drewN n) g t cs := h
theorem Blk.keeps (h : Blk w g t cs) (k : Keeps S w w1) (hn : ¬ S g) : Blk w1 g t cs := (k.block g h.lt hn).trans h
theorem Blk.setCell (h : Blk w g t cs) (i : Nat) (u : Value) : Blk (w.setCell ⟨g, i, none⟩ u) g t (cs.setIfInBounds i u) := by
  unfold Blk at h ⊢
  simp [World.setCell, Array.getElem?_modify, h]
theorem Blk.setFar (h : Blk w g t cs) {p : Addr} (hp : g ≠ p.block) (u : Value) : Blk (w.setCell p u) g t cs := (Below.heap_setCell w p u g hp).trans h
theorem Blk.alloc (h : Blk w g t cs) (o : Obj) : Blk (w.alloc o) g t cs := (Below.heap_alloc w o g h.lt).trans h
theorem Blk.grown {row : Option Nat} (h : Blk w g t cs) (hg : w.grownBy w1 row) (hn : row ≠ some g) : Blk w1 g t cs := (hg.block g h.lt (Ne.symm hn)).trans h
theorem Blk.ne {g' : Nat} {t' : TypeId} {cs' : Array Value} (h : Blk w g t cs) (h' : Blk w g' t' cs') (hne : t ≠ t') : g ≠ g' := by
  rintro rfl
  unfold Blk at h h'
  rw [h] at h'
  injection h' with h'
  injection h' with _ ht
  exact hne ht
theorem own_ne {base : Nat} {e : TypeId} {size n : Nat} {v : Value} {xs : List Value} (h : w.ownsRow base e size v n xs) (hb : Blk w g t cs) (hne : e ≠ t) : v.ownBlock ≠ some g := by
  rcases h.2 with ⟨rfl, _⟩ | ⟨g', cap, cur, rfl, _, hh, _⟩
  · simp [Value.ownBlock]
  · intro he
    have : g' = g := by simpa [Value.ownBlock] using he
    subst this
    exact Blk.ne (t := e) hh hb hne rfl
theorem own_keeps {base : Nat} {e : TypeId} {size n : Nat} {v : Value} {xs : List Value} (h : w.ownsRow base e size v n xs) (k : Keeps S w w1) (hn : ∀ b, v.ownBlock = some b → ¬ S b) : w1.ownsRow base e size v n xs := by
  refine ⟨h.1, ?_⟩
  rcases h.2 with hx | ⟨g', cap, cur, rfl, hb, hh, r⟩
  · exact .inl hx
  · exact .inr ⟨g', cap, cur, rfl, hb, (k.block g' (Array.getElem?_eq_some_iff.1 hh).1 (hn g' rfl)).trans hh, r⟩
theorem own_base {base base' : Nat} {e : TypeId} {size n : Nat} {v : Value} {xs : List Value} (h : w.ownsRow base e size v n xs) (hb : base' ≤ base) : w.ownsRow base' e size v n xs := by
  refine ⟨h.1, ?_⟩
  rcases h.2 with hx | ⟨g', cap, cur, rfl, hg, r⟩
  · exact .inl hx
  · exact .inr ⟨g', cap, cur, rfl, by omega, r⟩
end

theorem own_form {w : World} {base : Nat} {e : TypeId} {size n : Nat} {v : Value} {xs : List Value} (h : w.ownsRow base e size v n xs) : ∃ A c, v = .slice A n c ∧ n ≤ c := by
  rcases h.2 with ⟨rfl, rfl⟩ | ⟨g', cap, cur, rfl, _, _, hc, _⟩
  · exact ⟨none, 0, rfl, Nat.le_refl _⟩
  · exact ⟨_, _, rfl, hc⟩

/-! ### rows of bytes -/
def bv (xs : List Int) : List Value := xs.map (Value.int .u8)
theorem bv_len (xs : List Int) : (bv xs).length = xs.length := by simp [bv]
theorem bv_append (xs ys : List Int) : bv (xs ++ ys) = bv xs ++ bv ys := by simp [bv]
theorem bv_one (xs : List Int) : ∀ u ∈ bv xs, u.oneCell' = true := by
  intro u hu
  simp only [bv, List.mem_map] at hu
  obtain ⟨x, _, rfl⟩ := hu
  rfl
theorem bv_get {xs : List Int} {j : Nat} {u : Value} (h : (bv xs)[j]? = some u) : j < xs.length ∧ u = .int .u8 (xs.getD j 0) := by
  simp only [bv, List.getElem?_map, Option.map_eq_some_iff] at h
  obtain ⟨x, hx, rfl⟩ := h
  have hl := (List.getElem?_eq_some_iff.1 hx).1
  exact ⟨hl, by simp [List.getD, hx]⟩
theorem bv_at {xs : List Int} {j : Nat} (h : j < xs.length) : (bv xs)[j]? = some (.int .u8 (xs.getD j 0)) := by
  simp [bv, List.getElem?_eq_getElem h, List.getD]

/-- At this address these bytes lie, in blocks that are there; of no bytes nothing is said. -/
def Lies (w : World) (A : Option Addr) (xs : List Int) : Prop :=
  xs = [] ∨ ∃ b o, A = some ⟨b, o, none⟩ ∧ b < w.heap.size ∧ ∀ i, i < xs.length → w.cell? ⟨b, o + i, none⟩ = some (.int .u8 (xs.getD i 0))

theorem add_none (b o j : Nat) : (⟨b, o, none⟩ : Addr).add j = ⟨b, o + j, none⟩ := by unfold Addr.add; split <;> simp_all

theorem Lies.news {w : World} {ad : Addr} {xs : List Int} (h : Lies w (some ad) xs) : ∀ j u, (bv xs)[j]? = some u → w.cell? (ad.add j) = some u := by
  intro j u hu
  obtain ⟨hj, rfl⟩ := bv_get hu
  rcases h with rfl | ⟨b, o, hA, _, hc⟩
  · simp at hj
  · injection hA with hA
    subst hA
    rw [add_none]
    exact hc j hj
theorem Lies.keeps {S : Nat → Prop} {w w1 : World} {A : Option Addr} {xs : List Int} (h : Lies w A xs) (k : Keeps S w w1) (hn : ∀ b o, A = some ⟨b, o, none⟩ → ¬ S b) : Lies w1 A xs := by
  rcases h with h | ⟨b, o, rfl, hb, hc⟩
  · exact .inl h
  · exact .inr ⟨b, o, rfl, Nat.lt_of_lt_of_le hb k.size, fun i hi => (k.cell (p := ⟨b, o + i, none⟩) hb (hn b o rfl)).trans (hc i hi)⟩
theorem Lies.below {w w1 : World} {A : Option Addr} {xs : List Int} (h : Lies w A xs) (k : Below w.heap.size w w1) : Lies w1 A xs :=
  h.keeps (S := fun _ => False) (Keeps.of_below k) (fun _ _ _ => id)
theorem Lies.of_own {w : World} {base : Nat} {e : TypeId} {A : Option Addr} {n c : Nat} {xs : List Int} (h : w.ownsRow base e 1 (.slice A n c) n (bv xs)) : Lies w A xs := by
  rcases h.2 with ⟨hv, hn⟩ | ⟨g, cap, cur, hv, _, hh, _⟩
  · subst hn
    exact .inl (List.eq_nil_of_length_eq_zero (by simpa [bv] using h.1))
  · injection hv with hA
    subst hA
    refine .inr ⟨g, 0, rfl, (Array.getElem?_eq_some_iff.1 hh).1, fun i hi => ?_⟩
    have := h.cells (g := g) rfl i _ (bv_at hi)
    rwa [add_none] at this
/-- What lies there from place k on, and up to place k + m. -/
theorem Lies.cut {w : World} {b o : Nat} {xs : List Int} (h : Lies w (some ⟨b, o, none⟩) xs) (k m : Nat) : Lies w (some ⟨b, o + k, none⟩) ((xs.drop k).take m) := by
  rcases h with rfl | ⟨b', o', hA, hb, hc⟩
  · exact .inl (by simp)
  · injection hA with hA
    injection hA with h1 h2
    subst h1
    subst h2
    refine .inr ⟨b, o + k, rfl, hb, fun i hi => ?_⟩
    simp only [List.length_take, List.length_drop] at hi
    have := hc (k + i) (by omega)
    rw [Nat.add_assoc, this]
    congr 2
    simp only [List.getD_eq_getElem?_getD]
    rw [List.getElem?_take_of_lt (by omega), List.getElem?_drop]
/-- Where a slice lies that is cut from place k on: Go keeps the address where nothing is behind it. -/
def cutAt (A : Option Addr) (c k : Nat) : Option Addr := if c = k then A else A.map (·.add k)
theorem Lies.cutAt {w : World} {A : Option Addr} {xs : List Int} (h : Lies w A xs) (c k m : Nat) (hc : xs.length ≤ c) (hk : k + m ≤ xs.length) : Lies w (cutAt A c k) ((xs.drop k).take m) := by
  unfold Gen.cutAt
  by_cases he : c = k
  · exact .inl (by rw [show m = 0 by omega]; simp)
  · rw [if_neg he]
    rcases h with rfl | ⟨b, o, rfl, hb, hx⟩
    · exact .inl (by simp)
    · rw [Option.map_some, add_none]
      exact Lies.cut (.inr ⟨b, o, rfl, hb, hx⟩) k m
theorem run_cut {P : Program} (t e : TypeId) (A : Option Addr) (n c k m : Nat) (kl kh : IntKind) (ht : P.underlying t = some (.slice e)) (he : ∀ w, (sizeOf e).run P w = .ok 1 w) (hk : k + m ≤ c) (w : World) :
    (Instr.slice t (.slice A n c) (some (.int kl k)) (some (.int kh ((k : Int) + (m : Int)))) none).run P w = .ok (.slice (cutAt A c k) m (c - k)) w := by
  have hel : P.elem t = e := by simp [Program.elem, ht]
  rw [run_slice_lh (P := P) w t A n c (by rw [hel]; exact ht) kl kh k ((k : Int) + (m : Int)) (by omega) (by omega) (by omega), hel, he]
  simp only [Result.andThen, sliced, Int.toNat_natCast, Nat.mul_one, show ((k : Int) + (m : Int)).toNat = k + m by omega]
  rw [show k + m - k = m by omega]
  rfl
theorem run_cut_from {P : Program} (t e : TypeId) (A : Option Addr) (n c k : Nat) (kl : IntKind) (ht : P.underlying t = some (.slice e)) (he : ∀ w, (sizeOf e).run P w = .ok 1 w) (hk : k ≤ n) (w : World) :
    (Instr.slice t (.slice A n c) (some (.int kl k)) none none).run P w = .ok (.slice (cutAt A c k) (n - k) (c - k)) w := by
  have hel : P.elem t = e := by simp [Program.elem, ht]
  rw [run_slice_l (P := P) w t A n c (by rw [hel]; exact ht) kl k (by omega) (by omega), hel, he]
  simp only [Result.andThen, sliced, Int.toNat_natCast, Nat.mul_one]
  rfl
theorem Lies.str {P : Program} {w : World} {A : Option Addr} {xs : List Int} (h : Lies w A xs) (src dst e : TypeId) (c : Nat) (hs : P.underlying src = some (.slice e)) (he : P.underlying e = some (.int .u8)) (hd : P.underlying dst = some .string) :
    (convert src dst (.slice A xs.length c)).run P w = .ok (.string (strOfNums xs)) w := by
  rcases h with rfl | ⟨b, o, rfl, _, hc⟩
  · rcases A with _ | ⟨b, o, sp⟩
    · exact run_convert_bytes_nil w src e hs he 0 c dst hd
    · rw [run_convert_bytes_string w src dst e _ _ c hs he hd]
      simp [Conv.bytesToString, loadCells, loadCellsFrom, strOfNums, Sem.run_pure]
      rfl
  · exact run_convert_bytes_arg w src e hs he b o _ c xs rfl hc dst hd
theorem Lies.str_n {P : Program} {w : World} {A : Option Addr} {xs : List Int} (h : Lies w A xs) (n : Nat) (hn : xs.length = n) (src dst e : TypeId) (c : Nat) (hs : P.underlying src = some (.slice e)) (he : P.underlying e = some (.int .u8)) (hd : P.underlying dst = some .string) :
    (convert src dst (.slice A n c)).run P w = .ok (.string (strOfNums xs)) w := by
  subst hn
  exact h.str src dst e c hs he hd

/-- What a row says of a slice of bytes that came in: its bytes lie there, and they are bytes. -/
theorem row_lies {w : World} {a : Option Addr} {len cap : Nat} {zs : List Int}
    (h : (a = none ∧ len = 0 ∧ cap = 0 ∧ zs = []) ∨ ∃ x, a = some x ∧ len ≤ cap ∧ cap ≤ maxLen ∧ zs.length = cap ∧ (∀ i, i < zs.length → w.cell? (x.add i) = some (.int .u8 (zs.getD i 0))) ∧ ∀ n ∈ zs, (Lit.int .u8 n).wf = true) :
    (zs.take len).length = len ∧ len ≤ cap ∧ Lies w a (zs.take len) ∧ ∀ x ∈ zs.take len, 0 ≤ x ∧ x < 256 := by
  rcases h with ⟨rfl, rfl, rfl, rfl⟩ | ⟨x, rfl, hl, _, hz, hc, hw⟩
  · exact ⟨rfl, Nat.le_refl _, .inl rfl, by simp⟩
  · refine ⟨by simp; omega, hl, ?_, fun n hn => ?_⟩
    · rcases Nat.eq_zero_or_pos len with h0 | h0
      · exact .inl (by rw [h0]; rfl)
      · obtain ⟨b, o, sp⟩ := x
        have h1 := hc 0 (by omega)
        have hsp : sp = none := by simpa [Addr.add] using World.cell?_spot h1
        subst hsp
        refine .inr ⟨b, o, rfl, ?_, fun i hi => ?_⟩
        · rw [add_none] at h1
          rcases Nat.lt_or_ge b w.heap.size with hlt | hge
          · exact hlt
          · simp [World.cell?, Array.getElem?_eq_none hge] at h1
        · have hi' : i < len := by simp at hi; omega
          have := hc i (by omega)
          rw [add_none] at this
          rw [this]
          congr 2
          simp [List.getD_eq_getElem?_getD, hi']
    · have := hw n (List.mem_of_mem_take hn)
      have hm : IntKind.u8.min = 0 ∧ IntKind.u8.max = 255 := by decide
      simp [Lit.wf, hm.1, hm.2] at this
      omega
/-- What a row says of a slice of numbers that came in, place by place. -/
theorem row_at {q : IntKind} {w : World} {a : Option Addr} {len cap : Nat} {zs : List Int}
    (h : (a = none ∧ len = 0 ∧ cap = 0 ∧ zs = []) ∨ ∃ x, a = some x ∧ len ≤ cap ∧ cap ≤ maxLen ∧ zs.length = cap ∧ (∀ i, i < zs.length → w.cell? (x.add i) = some (.int q (zs.getD i 0))) ∧ ∀ n ∈ zs, (Lit.int q n).wf = true) :
    len ≤ zs.length ∧ ∀ j, j < len → ∃ b o x, a = some ⟨b, o, none⟩ ∧ b < w.heap.size ∧ w.cell? ⟨b, o + j, none⟩ = some (.int q x) ∧ zs[j]? = some x ∧ (Lit.int q x).wf = true := by
  rcases h with ⟨rfl, rfl, rfl, rfl⟩ | ⟨x, rfl, hl, _, hz, hc, hw⟩
  · exact ⟨Nat.le_refl _, fun j hj => absurd hj (by omega)⟩
  · refine ⟨by omega, fun j hj => ?_⟩
    obtain ⟨b, o, sp⟩ := x
    have h0 := hc 0 (by omega)
    have hsp : sp = none := by simpa [Addr.add] using World.cell?_spot h0
    subst hsp
    have h1 := hc j (by omega)
    rw [add_none] at h1
    have hg : zs[j]? = some (zs.getD j 0) := by simp [List.getD_eq_getElem?_getD, List.getElem?_eq_getElem (show j < zs.length by omega)]
    refine ⟨b, o, _, rfl, ?_, h1, hg, hw _ (List.mem_of_getElem? hg)⟩
    rcases Nat.lt_or_ge b w.heap.size with hlt | hge
    · exact hlt
    · simp [World.cell?, Array.getElem?_eq_none hge] at h1
theorem str_append (xs ys : List Int) : strOfNums xs ++ strOfNums ys = strOfNums (xs ++ ys) := by
  apply ByteArray.ext
  simp [strOfNums]
end Go.Proofs.YtgaofnmgdefdcaaGreatDoor.Gen

namespace Go.Proofs.YtgaofnmgdefdcaaGreatDoor.Hp

/-- An item of a row: what it weighs; whether it is a single number. -/
abbrev It := Nat × Bool

def merged : List Nat → List Nat → List It
  | [], ps => ps.map (·, false)
  | w :: ws, ps => (ps.takeWhile (· < w)).map (·, false) ++ (w, true) :: merged ws (ps.dropWhile (· < w))
def paired : List It → List Nat
  | a :: b :: l => (a.1 + b.1) :: paired l
  | _ => []
/-- The i-th row. -/
def rowOf (ws : List Nat) : Nat → List It
  | 0 => merged ws []
  | i + 1 => merged ws (paired (rowOf ws i))
def sg (l : List It) : Nat := l.countP (·.2)
/-- Weights in all. -/
def wt (l : List It) : Nat := (l.map (·.1)).sum
/-- How many single ones are taken of each row, the i-th first, if t are taken there. -/
def alones (ws : List Nat) : Nat → Nat → List Nat
  | 0, t => [sg ((rowOf ws 0).take t)]
  | i + 1, t => sg ((rowOf ws (i + 1)).take t) :: alones ws i (2 * (t - sg ((rowOf ws (i + 1)).take t)))
def szOf (al : List Nat) (j : Nat) : Nat := al.countP (j < ·)

theorem takeWhile_append_dropWhile (p : Nat → Bool) (l : List Nat) : l.takeWhile p ++ l.dropWhile p = l := List.takeWhile_append_dropWhile

theorem merged_length : ∀ (ws ps : List Nat), (merged ws ps).length = ws.length + ps.length
  | [], ps => by simp [merged]
  | w :: ws, ps => by
    have h := congrArg List.length (takeWhile_append_dropWhile (· < w) ps)
    simp only [List.length_append] at h
    simp only [merged, List.length_append, List.length_map, List.length_cons, merged_length ws]
    omega
theorem sg_pairs (l : List Nat) : sg (l.map (·, false)) = 0 := by
  induction l with
  | nil => rfl
  | cons a l ih => simp [sg]
theorem sg_append (a b : List It) : sg (a ++ b) = sg a + sg b := by simp [sg]
theorem sg_cons (a : It) (b : List It) : sg (a :: b) = (if a.2 then 1 else 0) + sg b := by
  unfold sg
  rw [List.countP_cons]
  omega
theorem wt_append (a b : List It) : wt (a ++ b) = wt a + wt b := by simp [wt]
theorem wt_cons (a : It) (b : List It) : wt (a :: b) = a.1 + wt b := by simp [wt]
theorem wt_pairs (l : List Nat) : wt (l.map (·, false)) = l.sum := by simp [wt, Function.comp_def]

/-- How the first k of a merged row are made. -/
structure Path (ws ps : List Nat) (k x : Nat) : Prop where
  x_le : x ≤ ws.length
  x_k : x ≤ k
  y_le : k - x ≤ ps.length
  sum : wt ((merged ws ps).take k) = (ws.take x).sum + (ps.take (k - x)).sum
  single : 0 < x → k - x < ps.length → ws.getD (x - 1) 0 ≤ ps.getD (k - x) 0
  pair : 0 < k - x → x < ws.length → ps.getD (k - x - 1) 0 < ws.getD x 0

theorem getD_append_left {a b : List Nat} {i : Nat} (h : i < a.length) : (a ++ b).getD i 0 = a.getD i 0 := by
  simp [List.getD_eq_getElem?_getD, List.getElem?_append_left h]
theorem getD_append_right {a b : List Nat} {i : Nat} (h : a.length ≤ i) : (a ++ b).getD i 0 = b.getD (i - a.length) 0 := by
  simp [List.getD_eq_getElem?_getD, List.getElem?_append_right h]
theorem getD_mem {a : List Nat} {i : Nat} (h : i < a.length) : a.getD i 0 ∈ a := by
  simp only [List.getD_eq_getElem?_getD, List.getElem?_eq_getElem h, Option.getD_some]
  exact List.getElem_mem h
theorem takeWhile_all {p : Nat → Bool} {l : List Nat} {x : Nat} (h : x ∈ l.takeWhile p) : p x = true := by
  induction l with
  | nil => simp at h
  | cons a l ih =>
    rw [List.takeWhile_cons] at h
    split at h
    · rcases List.mem_cons.1 h with rfl | h
      · assumption
      · exact ih h
    · simp at h
theorem dropWhile_all {w : Nat} {l : List Nat} (hs : l.Pairwise (· ≤ ·)) {x : Nat} (h : x ∈ l.dropWhile (· < w)) : w ≤ x := by
  induction l with
  | nil => simp at h
  | cons a l ih =>
    rw [List.dropWhile_cons] at h
    rw [List.pairwise_cons] at hs
    split at h
    · exact ih hs.2 h
    · rename_i hn
      have hn : ¬ a < w := by simpa using hn
      rcases List.mem_cons.1 h with rfl | h
      · omega
      · have := hs.1 x h; omega
theorem dropWhile_sorted {p : Nat → Bool} {l : List Nat} (hs : l.Pairwise (· ≤ ·)) : (l.dropWhile p).Pairwise (· ≤ ·) := hs.sublist (List.dropWhile_sublist p)

theorem path : ∀ (ws ps : List Nat) (k : Nat), ws.Pairwise (· ≤ ·) → ps.Pairwise (· ≤ ·) → k ≤ ws.length + ps.length → Path ws ps k (sg ((merged ws ps).take k))
  | [], ps, k, _, _, hk => by
    have h0 : sg ((merged [] ps).take k) = 0 := by rw [merged, ← List.map_take, sg_pairs]
    rw [h0]
    refine ⟨Nat.zero_le _, Nat.zero_le _, by simpa using hk, ?_, fun h => by omega, fun _ h => by simp at h⟩
    rw [merged, ← List.map_take, wt_pairs]
    simp
  | w :: ws, ps, k, hws, hps, hk => by
    rw [List.pairwise_cons] at hws
    obtain ⟨T, hT⟩ : ∃ T, T = ps.takeWhile (· < w) := ⟨_, rfl⟩
    obtain ⟨D, hD⟩ : ∃ D, D = ps.dropWhile (· < w) := ⟨_, rfl⟩
    have hTD : ps = T ++ D := by rw [hT, hD, takeWhile_append_dropWhile]
    have hTw : ∀ x ∈ T, x < w := fun x hx => by simpa using takeWhile_all (p := (· < w)) (hT ▸ hx)
    have hDw : ∀ x ∈ D, w ≤ x := fun x hx => dropWhile_all hps (hD ▸ hx)
    have hDs : D.Pairwise (· ≤ ·) := hD ▸ dropWhile_sorted hps
    have hm : merged (w :: ws) ps = T.map (·, false) ++ (w, true) :: merged ws D := by rw [merged, ← hT, ← hD]
    have hlen : ps.length = T.length + D.length := by rw [hTD, List.length_append]
    rcases Nat.lt_or_ge T.length k with hlt | hge
    · obtain ⟨k', rfl⟩ : ∃ k', k = T.length + (k' + 1) := ⟨k - T.length - 1, by omega⟩
      have htk : (merged (w :: ws) ps).take (T.length + (k' + 1)) = T.map (·, false) ++ (w, true) :: (merged ws D).take k' := by
        rw [hm, List.take_append]
        simp
        exact List.take_of_length_le (by simp)
      have ih := path ws D k' hws.2 hDs (by simp at hk; omega)
      obtain ⟨x', hx'⟩ : ∃ x', x' = sg ((merged ws D).take k') := ⟨_, rfl⟩
      rw [← hx'] at ih
      have hsg : sg ((merged (w :: ws) ps).take (T.length + (k' + 1))) = x' + 1 := by
        rw [htk, sg_append, sg_pairs, sg_cons, ← hx']; simp; try omega
      rw [hsg]
      have hxk := ih.x_k
      have hxl := ih.x_le
      have hyl := ih.y_le
      have hkx : T.length + (k' + 1) - (x' + 1) = T.length + (k' - x') := by omega
      refine ⟨by simp; omega, by omega, by omega, ?_, ?_, ?_⟩
      · rw [htk, wt_append, wt_cons, wt_pairs, ih.sum, hkx, hTD, List.take_append]
        simp
        have hT2 : List.take (T.length + (k' - x')) T = T := List.take_of_length_le (by omega)
        rw [hT2]
        omega
      · intro _ hlt
        rw [hkx, hTD, getD_append_right (by omega), Nat.add_sub_cancel_left, Nat.add_sub_cancel]
        rcases Nat.eq_zero_or_pos x' with h0 | h0
        · subst h0
          exact hDw _ (getD_mem (by omega))
        · have := ih.single h0 (by omega)
          obtain ⟨x2, rfl⟩ : ∃ x2, x' = x2 + 1 := ⟨x' - 1, by omega⟩
          simpa using this
      · intro _ hlt
        rw [hkx, hTD]
        simp only [List.length_cons] at hlt
        have hws0 : ∀ i, i < ws.length → w ≤ ws.getD i 0 := fun i hi => hws.1 _ (getD_mem hi)
        have hgo : (w :: ws).getD (x' + 1) 0 = ws.getD x' 0 := by simp
        rw [hgo]
        rcases Nat.eq_zero_or_pos (k' - x') with h0 | h0
        · rw [h0, Nat.add_zero, getD_append_left (by omega)]
          have h1 := hTw _ (getD_mem (a := T) (i := T.length - 1) (by omega))
          have h2 := hws0 x' (by omega)
          omega
        · rw [getD_append_right (by omega)]
          have := ih.pair h0 (by omega)
          have e : T.length + (k' - x') - 1 - T.length = k' - x' - 1 := by omega
          rw [e]
          exact this
    · have htk : (merged (w :: ws) ps).take k = (T.take k).map (·, false) := by
        rw [hm, List.take_append_of_le_length (by simpa using hge), List.map_take]
      have hsg : sg ((merged (w :: ws) ps).take k) = 0 := by rw [htk, sg_pairs]
      rw [hsg]
      refine ⟨Nat.zero_le _, Nat.zero_le _, by omega, ?_, fun h => by omega, ?_⟩
      · rw [htk, wt_pairs, hTD, Nat.sub_zero, List.take_append_of_le_length hge]
        simp
      · intro h _
        rw [hTD, getD_append_left (by omega)]
        exact hTw _ (getD_mem (by omega))

theorem mem_merged : ∀ (ws ps : List Nat) (x : It), x ∈ merged ws ps → x.1 ∈ ws ∨ x.1 ∈ ps
  | [], ps, x, h => by
    simp only [merged, List.mem_map] at h
    obtain ⟨a, ha, rfl⟩ := h
    exact .inr ha
  | w :: ws, ps, x, h => by
    simp only [merged, List.mem_append, List.mem_map, List.mem_cons] at h
    rcases h with ⟨a, ha, rfl⟩ | rfl | h
    · exact .inr ((List.takeWhile_sublist _).subset ha)
    · exact .inl (by simp)
    · rcases mem_merged ws _ x h with h | h
      · exact .inl (by simp [h])
      · exact .inr ((List.dropWhile_sublist _).subset h)
theorem merged_sorted : ∀ (ws ps : List Nat), ws.Pairwise (· ≤ ·) → ps.Pairwise (· ≤ ·) → (merged ws ps).Pairwise (fun a b => a.1 ≤ b.1)
  | [], ps, _, hps => by
    rw [merged, List.pairwise_map]
    exact hps
  | w :: ws, ps, hws, hps => by
    rw [List.pairwise_cons] at hws
    have hTw : ∀ x ∈ ps.takeWhile (· < w), x < w := fun x hx => by simpa using takeWhile_all (p := (· < w)) hx
    have hDw : ∀ x ∈ ps.dropWhile (· < w), w ≤ x := fun x hx => dropWhile_all hps hx
    have hmem : ∀ x ∈ merged ws (ps.dropWhile (· < w)), w ≤ x.1 := fun x hx => by
      rcases mem_merged _ _ x hx with h | h
      · exact hws.1 _ h
      · exact hDw _ h
    rw [merged, List.pairwise_append]
    refine ⟨?_, ?_, ?_⟩
    · rw [List.pairwise_map]
      exact hps.sublist (List.takeWhile_sublist _)
    · rw [List.pairwise_cons]
      exact ⟨hmem, merged_sorted ws _ hws.2 (dropWhile_sorted hps)⟩
    · intro a ha b hb
      rw [List.mem_map] at ha
      obtain ⟨a, ha, rfl⟩ := ha
      have := hTw a ha
      rcases List.mem_cons.1 hb with rfl | hb
      · exact Nat.le_of_lt this
      · have := hmem b hb
        simp only
        omega
theorem paired_length : ∀ (l : List It), (paired l).length = l.length / 2
  | [] => rfl
  | [_] => by simp [paired]
  | a :: b :: l => by
    simp only [paired, List.length_cons, paired_length l]
    omega
theorem paired_mem : ∀ (l : List It) (x : Nat), x ∈ paired l → ∃ a b, a ∈ l ∧ b ∈ l ∧ x = a.1 + b.1
  | [], x, h => by simp [paired] at h
  | [_], x, h => by simp [paired] at h
  | a :: b :: l, x, h => by
    simp only [paired, List.mem_cons] at h
    rcases h with rfl | h
    · exact ⟨a, b, by simp, by simp, rfl⟩
    · obtain ⟨c, d, hc, hd, e⟩ := paired_mem l x h
      exact ⟨c, d, by simp [hc], by simp [hd], e⟩
theorem paired_sorted : ∀ (l : List It), l.Pairwise (fun a b => a.1 ≤ b.1) → (paired l).Pairwise (· ≤ ·)
  | [], _ => by simp [paired]
  | [_], _ => by simp [paired]
  | a :: b :: l, h => by
    rw [List.pairwise_cons, List.pairwise_cons] at h
    rw [paired, List.pairwise_cons]
    refine ⟨fun x hx => ?_, paired_sorted l h.2.2⟩
    obtain ⟨c, d, hc, hd, rfl⟩ := paired_mem l x hx
    have h1 := h.1 c (by simp [hc])
    have h2 := h.2.1 d hd
    omega
theorem paired_take : ∀ (l : List It) (p : Nat), 2 * p ≤ l.length → ((paired l).take p).sum = wt (l.take (2 * p))
  | l, 0, _ => by simp [wt]
  | [], p + 1, h => by simp at h
  | [_], p + 1, h => by simp at h; omega
  | a :: b :: l, p + 1, h => by
    have e : 2 * (p + 1) = 2 * p + 1 + 1 := by omega
    rw [e]
    simp only [paired, List.take_succ_cons, List.sum_cons, wt_cons]
    rw [paired_take l p (by simp at h; omega)]
    omega
theorem paired_get : ∀ (l : List It) (p : Nat), 2 * p + 1 < l.length → (paired l).getD p 0 = (l.getD (2 * p) (0, false)).1 + (l.getD (2 * p + 1) (0, false)).1
  | [], p, h => by simp at h
  | [_], p, h => by simp at h
  | a :: b :: l, 0, h => by simp [paired]
  | a :: b :: l, p + 1, h => by
    have e : 2 * (p + 1) = 2 * p + 1 + 1 := by omega
    simp only [paired, e, List.getD_cons_succ]
    exact paired_get l p (by simp at h; omega)

section
variable (ws : List Nat)
theorem rowOf_sorted (hw : ws.Pairwise (· ≤ ·)) : ∀ i, (rowOf ws i).Pairwise (fun a b => a.1 ≤ b.1)
  | 0 => merged_sorted ws [] hw .nil
  | i + 1 => merged_sorted ws _ hw (paired_sorted _ (rowOf_sorted hw i))
theorem rowOf_len0 : (rowOf ws 0).length = ws.length := by simp [rowOf, merged_length]
theorem rowOf_len (i : Nat) : (rowOf ws (i + 1)).length = ws.length + (rowOf ws i).length / 2 := by rw [rowOf, merged_length, paired_length]
/-- The first t of a row. -/
theorem rowOf_path (hw : ws.Pairwise (· ≤ ·)) (i t : Nat) (ht : t ≤ (rowOf ws (i + 1)).length) : Path ws (paired (rowOf ws i)) t (sg ((rowOf ws (i + 1)).take t)) :=
  path ws _ t hw (paired_sorted _ (rowOf_sorted ws hw i)) (by rw [rowOf_len] at ht; rw [paired_length]; exact ht)
theorem rowOf_path0 (hw : ws.Pairwise (· ≤ ·)) (t : Nat) (ht : t ≤ (rowOf ws 0).length) : Path ws [] t (sg ((rowOf ws 0).take t)) :=
  path ws [] t hw .nil (by rw [rowOf_len0] at ht; simpa using ht)
theorem sg_row0 (hw : ws.Pairwise (· ≤ ·)) (t : Nat) (ht : t ≤ (rowOf ws 0).length) : sg ((rowOf ws 0).take t) = t := by
  have h := rowOf_path0 ws hw t ht
  have h1 := h.y_le
  have h2 := h.x_k
  simp at h1
  omega
/-- What is left for the row below is there. -/
theorem below_le (hw : ws.Pairwise (· ≤ ·)) (i t : Nat) (ht : t ≤ (rowOf ws (i + 1)).length) : 2 * (t - sg ((rowOf ws (i + 1)).take t)) ≤ (rowOf ws i).length := by
  have h := (rowOf_path ws hw i t ht).y_le
  rw [paired_length] at h
  omega
theorem alones_length : ∀ i t, (alones ws i t).length = i + 1
  | 0, t => rfl
  | i + 1, t => by rw [alones, List.length_cons, alones_length i]
theorem alones_le (hw : ws.Pairwise (· ≤ ·)) : ∀ i t, t ≤ (rowOf ws i).length → ∀ a ∈ alones ws i t, a ≤ ws.length
  | 0, t, ht, a, ha => by
    simp only [alones, List.mem_singleton] at ha
    subst ha
    exact (rowOf_path0 ws hw t ht).x_le
  | i + 1, t, ht, a, ha => by
    simp only [alones, List.mem_cons] at ha
    rcases ha with rfl | ha
    · exact (rowOf_path ws hw i t ht).x_le
    · exact alones_le hw i _ (below_le ws hw i t ht) a ha
/-- Widths: a single of the i-th row has 2^i. -/
def width : List Nat → Nat
  | [] => 0
  | a :: l => a * 2 ^ l.length + width l
theorem alones_width (hw : ws.Pairwise (· ≤ ·)) : ∀ i t, t ≤ (rowOf ws i).length → width (alones ws i t) = t * 2 ^ i
  | 0, t, ht => by simp [alones, width, sg_row0 ws hw t ht]
  | i + 1, t, ht => by
    rw [alones, width, alones_length, alones_width hw i _ (below_le ws hw i t ht)]
    have hx := (rowOf_path ws hw i t ht).x_k
    generalize sg ((rowOf ws (i + 1)).take t) = x at hx
    obtain ⟨y, rfl⟩ : ∃ y, t = x + y := ⟨t - x, by omega⟩
    rw [Nat.add_sub_cancel_left, Nat.pow_succ, Nat.add_mul, ← Nat.mul_assoc, ← Nat.mul_assoc, Nat.mul_right_comm 2 y, Nat.mul_comm (2 * 2 ^ i) y, ← Nat.mul_assoc, Nat.mul_right_comm y 2]
/-- What they weigh. -/
theorem alones_cost (hw : ws.Pairwise (· ≤ ·)) : ∀ i t, t ≤ (rowOf ws i).length → ((alones ws i t).map fun a => (ws.take a).sum).sum = wt ((rowOf ws i).take t)
  | 0, t, ht => by
    have h := (rowOf_path0 ws hw t ht).sum
    simp only [alones, List.map_cons, List.map_nil, List.sum_cons, List.sum_nil]
    have h2 : wt ((rowOf ws 0).take t) = wt ((merged ws []).take t) := rfl
    rw [h2, h]
    simp
  | i + 1, t, ht => by
    have h := (rowOf_path ws hw i t ht)
    have h2 : wt ((rowOf ws (i + 1)).take t) = wt ((merged ws (paired (rowOf ws i))).take t) := rfl
    simp only [alones, List.map_cons, List.sum_cons]
    rw [alones_cost hw i _ (below_le ws hw i t ht), h2, h.sum, paired_take _ _ (below_le ws hw i t ht)]

/-- A row's singles come in order: the first x of them lie in the first t. -/
theorem sg_take_succ (l : List It) (k : Nat) : sg (l.take k) ≤ sg (l.take (k + 1)) := by
  unfold sg
  exact (List.take_sublist_take_left (Nat.le_succ k)).countP_le
theorem single_at : ∀ (ws ps : List Nat) (k x : Nat), x < sg ((merged ws ps).take k) → ∃ m, m < k ∧ m < (merged ws ps).length ∧ (merged ws ps).getD m (0, false) = (ws.getD x 0, true)
  | [], ps, k, x, h => by
    rw [merged, ← List.map_take, sg_pairs] at h
    omega
  | w :: ws, ps, k, x, h => by
    obtain ⟨T, hT⟩ : ∃ T, T = (ps.takeWhile (· < w)).map (fun p : Nat => (p, false)) := ⟨_, rfl⟩
    have hm : merged (w :: ws) ps = T ++ (w, true) :: merged ws (ps.dropWhile (· < w)) := by rw [merged, ← hT]
    have hsT : ∀ j, sg (T.take j) = 0 := fun j => by rw [hT, ← List.map_take, sg_pairs]
    rw [hm] at h ⊢
    rcases Nat.lt_or_ge T.length k with hlt | hge
    · obtain ⟨k', rfl⟩ : ∃ k', k = T.length + (k' + 1) := ⟨k - T.length - 1, by omega⟩
      rw [List.take_append, Nat.add_sub_cancel_left, List.take_succ_cons, sg_append, hsT, sg_cons] at h
      cases x with
      | zero => exact ⟨T.length, by omega, by simp, by simp [List.getD_eq_getElem?_getD]⟩
      | succ x =>
        obtain ⟨m, h1, h2, h3⟩ := single_at ws (ps.dropWhile (· < w)) k' x (by simp at h; omega)
        refine ⟨T.length + (m + 1), by omega, by simp; omega, ?_⟩
        rw [List.getD_eq_getElem?_getD, List.getElem?_append_right (by omega), Nat.add_sub_cancel_left, List.getElem?_cons_succ, ← List.getD_eq_getElem?_getD, h3]
        simp
    · rw [List.take_append_of_le_length hge, hsT] at h
      omega
theorem sorted_get {l : List It} (hs : l.Pairwise (fun a b => a.1 ≤ b.1)) {i j : Nat} (hij : i ≤ j) (hj : j < l.length) : (l.getD i (0, false)).1 ≤ (l.getD j (0, false)).1 := by
  rcases Nat.eq_or_lt_of_le hij with rfl | h
  · exact Nat.le_refl _
  · have h1 := List.pairwise_iff_getElem.1 hs i j (by omega) hj h
    simp only [List.getD_eq_getElem?_getD, List.getElem?_eq_getElem hj, List.getElem?_eq_getElem (show i < l.length by omega), Option.getD_some]
    exact h1
/-- Of the row below no more singles are taken. -/
theorem mono_rows (hw : ws.Pairwise (· ≤ ·)) (i t : Nat) (ht : t ≤ (rowOf ws (i + 1)).length) :
    sg ((rowOf ws i).take (2 * (t - sg ((rowOf ws (i + 1)).take t)))) ≤ sg ((rowOf ws (i + 1)).take t) := by
  have hp := rowOf_path ws hw i t ht
  have hb := below_le ws hw i t ht
  generalize hx : sg ((rowOf ws (i + 1)).take t) = x at hp hb ⊢
  rcases Nat.lt_or_ge x (sg ((rowOf ws i).take (2 * (t - x)))) with hlt | hge
  · exfalso
    have hxl : x < ws.length ∧ ∃ m, m < 2 * (t - x) ∧ m < (rowOf ws i).length ∧ (rowOf ws i).getD m (0, false) = (ws.getD x 0, true) := by
      cases i with
      | zero =>
        have h := (rowOf_path0 ws hw (2 * (t - x)) hb).x_le
        exact ⟨by omega, single_at ws [] _ x hlt⟩
      | succ i =>
        have h := (rowOf_path ws hw i (2 * (t - x)) hb).x_le
        exact ⟨by omega, single_at ws (paired (rowOf ws i)) _ x hlt⟩
    obtain ⟨hxl, m, h1, h2, h3⟩ := hxl
    have h4 := hp.pair (by omega) hxl
    rw [paired_get _ _ (by omega)] at h4
    have h5 := sorted_get (rowOf_sorted ws hw i) (i := m) (j := 2 * (t - x - 1) + 1) (by omega) (by omega)
    rw [h3] at h5
    simp only at h5
    omega
  · exact hge
theorem alones_sorted (hw : ws.Pairwise (· ≤ ·)) : ∀ i t, t ≤ (rowOf ws i).length → (alones ws i t).Pairwise (· ≥ ·)
  | 0, t, _ => by simp [alones]
  | i + 1, t, ht => by
    have ih := alones_sorted hw i _ (below_le ws hw i t ht)
    have hm := mono_rows ws hw i t ht
    rw [alones, List.pairwise_cons]
    refine ⟨fun a ha => ?_, ih⟩
    generalize sg ((rowOf ws (i + 1)).take t) = x at ih hm ha
    cases i with
    | zero =>
      simp only [alones, List.mem_singleton] at ha
      omega
    | succ i =>
      simp only [alones, List.mem_cons] at ha
      rcases ha with rfl | ha
      · exact hm
      · rw [alones, List.pairwise_cons] at ih
        have := ih.1 a ha
        exact Nat.le_trans this hm
end

/-! ### sums over the numbers -/
theorem sum_range_succ (f : Nat → Nat) (n : Nat) : ((List.range (n + 1)).map f).sum = ((List.range n).map f).sum + f n := by
  rw [List.range_succ]; simp
theorem sum_congr {f g : Nat → Nat} : ∀ (n : Nat), (∀ j, j < n → f j = g j) → ((List.range n).map f).sum = ((List.range n).map g).sum
  | 0, _ => rfl
  | n + 1, h => by rw [sum_range_succ, sum_range_succ, sum_congr n fun j hj => h j (by omega), h n (by omega)]
theorem sum_add (f g : Nat → Nat) : ∀ (n : Nat), ((List.range n).map fun j => f j + g j).sum = ((List.range n).map f).sum + ((List.range n).map g).sum
  | 0 => rfl
  | n + 1 => by rw [sum_range_succ, sum_range_succ, sum_range_succ, sum_add f g n]; omega
theorem sum_step (b c : Nat) : ∀ (n : Nat), ((List.range n).map fun j => if j < b then c else 0).sum = min b n * c
  | 0 => by simp
  | n + 1 => by
    rw [sum_range_succ, sum_step b c n]
    by_cases h : n < b
    · rw [if_pos h, show min b n = n by omega, show min b (n + 1) = n + 1 by omega, Nat.add_mul]
      omega
    · rw [if_neg h, show min b n = b by omega, show min b (n + 1) = b by omega]
      omega
theorem szOf_cons (b : Nat) (l : List Nat) (j : Nat) : szOf (b :: l) j = (if j < b then 1 else 0) + szOf l j := by
  unfold szOf
  rw [List.countP_cons]
  simp only [decide_eq_true_eq]
  omega
theorem szOf_le (l : List Nat) (j : Nat) : szOf l j ≤ l.length := List.countP_le_length
/-- Sizes out of falling counts fill the line just as their widths say. -/
theorem kraft_sum (n : Nat) : ∀ (l : List Nat), l.Pairwise (· ≥ ·) → (∀ a ∈ l, a ≤ n) → ((List.range n).map fun j => 2 ^ (l.length - szOf l j)).sum + width l = n * 2 ^ l.length
  | [], _, _ => by
    have : (fun j => 2 ^ (([] : List Nat).length - szOf [] j)) = fun _ : Nat => 1 := by funext j; simp
    rw [this]
    simp [width, List.map_const']
  | b :: l, hs, hl => by
    rw [List.pairwise_cons] at hs
    have ih := kraft_sum n l hs.2 fun a ha => hl a (by simp [ha])
    have hb : b ≤ n := hl b (by simp)
    have h0 : ∀ j, b ≤ j → szOf l j = 0 := by
      intro j hj
      unfold szOf
      rw [List.countP_eq_zero]
      intro a ha
      have := hs.1 a ha
      simp
      omega
    have e : ((List.range n).map fun j => 2 ^ ((b :: l).length - szOf (b :: l) j)).sum + ((List.range n).map fun j => if j < b then 2 ^ l.length else 0).sum = ((List.range n).map fun j => 2 ^ (l.length - szOf l j) + 2 ^ l.length).sum := by
      rw [← sum_add]
      refine sum_congr n fun j _ => ?_
      rw [szOf_cons]
      by_cases hj : j < b
      · have h1 : (b :: l).length - (1 + szOf l j) = l.length - szOf l j := by simp; omega
        simp only [hj, if_true]
        rw [h1]
      · rw [h0 j (by omega)]
        simp only [hj, if_false, List.length_cons, Nat.sub_zero, Nat.add_zero, Nat.pow_succ]
        omega
    rw [sum_step, show min b n = b by omega, sum_add] at e
    have e2 : ((List.range n).map fun _ : Nat => 2 ^ l.length).sum = n * 2 ^ l.length := by simp [List.map_const']
    rw [e2] at e
    rw [width, List.length_cons, Nat.pow_succ]
    rw [List.length_cons] at e
    have e3 : n * (2 ^ l.length * 2) = n * 2 ^ l.length + n * 2 ^ l.length := by rw [← Nat.mul_assoc]; omega
    rw [e3]
    omega
/-- What sizes out of counts cost. -/
theorem take_sum (ws : List Nat) : ∀ (b : Nat), b ≤ ws.length → (ws.take b).sum = ((List.range ws.length).map fun j => if j < b then ws.getD j 0 else 0).sum := by
  have gen : ∀ (n b : Nat), n ≤ ws.length → ((List.range n).map fun j => if j < b then ws.getD j 0 else 0).sum = (ws.take (min b n)).sum := by
    intro n b
    induction n with
    | zero => intro _; simp
    | succ n ih =>
      intro hn
      rw [sum_range_succ, ih (by omega)]
      by_cases h : n < b
      · rw [if_pos h, show min b n = n by omega, show min b (n + 1) = n + 1 by omega, List.take_add_one, List.sum_append]
        simp [List.getD_eq_getElem?_getD, List.getElem?_eq_getElem (show n < ws.length by omega)]
      · rw [if_neg h, show min b n = b by omega, show min b (n + 1) = b by omega]
        omega
  intro b hb
  rw [gen ws.length b (Nat.le_refl _), show min b ws.length = b by omega]
theorem cost_sum (ws : List Nat) : ∀ (l : List Nat), (∀ a ∈ l, a ≤ ws.length) → ((List.range ws.length).map fun j => ws.getD j 0 * szOf l j).sum = (l.map fun a => (ws.take a).sum).sum
  | [], _ => by
    have : (fun j => ws.getD j 0 * szOf [] j) = fun _ : Nat => 0 := by funext j; simp [szOf]
    rw [this]
    simp [List.map_const']
  | b :: l, hl => by
    rw [List.map_cons, List.sum_cons, ← cost_sum ws l fun a ha => hl a (by simp [ha]), take_sum ws b (hl b (by simp)), ← sum_add]
    refine sum_congr _ fun j _ => ?_
    rw [szOf_cons, Nat.mul_add]
    by_cases h : j < b <;> simp [h]
theorem szOf_anti (l : List Nat) {i j : Nat} (h : i ≤ j) : szOf l j ≤ szOf l i := by
  refine List.countP_mono_left fun a _ ha => ?_
  simp at ha ⊢
  omega

/-! ### no other sizes cost less -/
theorem take_up (l : List Nat) (t : Nat) {a : Nat} : ∀ (x : Nat), a ≤ x → x ≤ l.length → (∀ i, a ≤ i → i < x → l.getD i 0 ≤ t) → (l.take x).sum ≤ (l.take a).sum + (x - a) * t
  | 0, h, _, _ => by have : a = 0 := by omega
                     subst this; simp
  | x + 1, h, hl, hb => by
    rcases Nat.eq_or_lt_of_le h with rfl | h
    · simp
    · have ih := take_up l t x (by omega) (by omega) fun i h1 h2 => hb i h1 (by omega)
      have h1 := hb x (by omega) (by omega)
      rw [List.take_add_one, List.sum_append, show x + 1 - a = (x - a) + 1 by omega, Nat.add_mul]
      simp only [List.getD_eq_getElem?_getD, List.getElem?_eq_getElem (show x < l.length by omega), Option.getD_some] at h1
      simp only [List.getElem?_eq_getElem (show x < l.length by omega), Option.toList_some, List.sum_cons, List.sum_nil]
      omega
theorem take_down (l : List Nat) (t : Nat) {a : Nat} : ∀ (x : Nat), a ≤ x → x ≤ l.length → (∀ i, a ≤ i → i < x → t ≤ l.getD i 0) → (l.take a).sum + (x - a) * t ≤ (l.take x).sum
  | 0, h, _, _ => by have : a = 0 := by omega
                     subst this; simp
  | x + 1, h, hl, hb => by
    rcases Nat.eq_or_lt_of_le h with rfl | h
    · simp
    · have ih := take_down l t x (by omega) (by omega) fun i h1 h2 => hb i h1 (by omega)
      have h1 := hb x (by omega) (by omega)
      rw [List.take_add_one, List.sum_append, show x + 1 - a = (x - a) + 1 by omega, Nat.add_mul]
      simp only [List.getD_eq_getElem?_getD, List.getElem?_eq_getElem (show x < l.length by omega), Option.getD_some] at h1
      simp only [List.getElem?_eq_getElem (show x < l.length by omega), Option.toList_some, List.sum_cons, List.sum_nil]
      omega
theorem nat_sorted_get {l : List Nat} (hs : l.Pairwise (· ≤ ·)) {i j : Nat} (hij : i ≤ j) (hj : j < l.length) : l.getD i 0 ≤ l.getD j 0 := by
  rcases Nat.eq_or_lt_of_le hij with rfl | h
  · exact Nat.le_refl _
  · have h1 := List.pairwise_iff_getElem.1 hs i j (by omega) hj h
    simp only [List.getD_eq_getElem?_getD, List.getElem?_eq_getElem hj, List.getElem?_eq_getElem (show i < l.length by omega), Option.getD_some]
    exact h1
theorem merge_min {ws ps : List Nat} (hw : ws.Pairwise (· ≤ ·)) (hp : ps.Pairwise (· ≤ ·)) {a b : Nat} (ha : a ≤ ws.length) (hb : b ≤ ps.length) :
    wt ((merged ws ps).take (a + b)) ≤ (ws.take a).sum + (ps.take b).sum := by
  have h := path ws ps (a + b) hw hp (by omega)
  generalize sg ((merged ws ps).take (a + b)) = x at h
  have hx1 := h.x_le
  have hx2 := h.x_k
  have hx3 := h.y_le
  rw [h.sum]
  rcases Nat.lt_trichotomy x a with hlt | rfl | hgt
  · obtain ⟨t, ht⟩ : ∃ t, t = ws.getD x 0 := ⟨_, rfl⟩
    have h1 := take_down ws t (a := x) a (by omega) ha fun i h1 h2 => by rw [ht]; exact nat_sorted_get hw h1 (by omega)
    have h2 := take_up ps t (a := b) (a + b - x) (by omega) (by omega) fun i h1 h2 => by
      have h3 := h.pair (by omega) (by omega)
      have h4 := nat_sorted_get hp (i := i) (j := a + b - x - 1) (by omega) (by omega)
      omega
    have e : a + b - x - b = a - x := by omega
    rw [e] at h2
    omega
  · rw [Nat.add_sub_cancel_left]
    exact Nat.le_refl _
  · obtain ⟨t, ht⟩ : ∃ t, t = ps.getD (a + b - x) 0 := ⟨_, rfl⟩
    have h1 := take_up ws t (a := a) x (by omega) (by omega) fun i h1 h2 => by
      have h3 := h.single (by omega) (by omega)
      have h4 := nat_sorted_get hw (i := i) (j := x - 1) (by omega) (by omega)
      omega
    have h2 := take_down ps t (a := a + b - x) b (by omega) hb fun i h1 h2 => by rw [ht]; exact nat_sorted_get hp h1 (by omega)
    have e : b - (a + b - x) = x - a := by omega
    rw [e] at h2
    omega
theorem pm_least (ws : List Nat) (hw : ws.Pairwise (· ≤ ·)) : ∀ (i : Nat) (a : List Nat) (k : Nat), a.length = i + 1 → (∀ x ∈ a, x ≤ ws.length) → width a = k * 2 ^ i →
    k ≤ (rowOf ws i).length ∧ wt ((rowOf ws i).take k) ≤ (a.map fun x => (ws.take x).sum).sum
  | 0, [x], k, _, hx, h => by
    have hk : k = x := by simpa [width] using h.symm
    subst hk
    have hl : k ≤ (rowOf ws 0).length := by rw [rowOf_len0]; exact hx k (by simp)
    refine ⟨hl, ?_⟩
    have hp := (rowOf_path0 ws hw k hl).sum
    rw [sg_row0 ws hw k hl] at hp
    have h2 : wt ((rowOf ws 0).take k) = wt ((merged ws []).take k) := rfl
    rw [h2, hp]
    simp
  | i + 1, x :: a, k, hl, hx, h => by
    have ha : a.length = i + 1 := by simpa using hl
    rw [width, ha] at h
    have hxk : x ≤ k := by
      rcases Nat.lt_or_ge k x with hlt | hge
      · have := Nat.mul_lt_mul_of_pos_right hlt (Nat.two_pow_pos (i + 1))
        omega
      · exact hge
    obtain ⟨y, rfl⟩ : ∃ y, k = x + y := ⟨k - x, by omega⟩
    have hwa : width a = 2 * y * 2 ^ i := by
      rw [Nat.add_mul] at h
      have : width a = y * 2 ^ (i + 1) := by omega
      rw [this, Nat.pow_succ, ← Nat.mul_assoc]
      rw [Nat.mul_right_comm, Nat.mul_comm y 2]
    obtain ⟨h1, h2⟩ := pm_least ws hw i a (2 * y) ha (fun z hz => hx z (by simp [hz])) hwa
    have hxl := hx x (by simp)
    have hyl : y ≤ (paired (rowOf ws i)).length := by rw [paired_length]; omega
    refine ⟨by rw [rowOf_len]; rw [paired_length] at hyl; omega, ?_⟩
    have h3 := merge_min hw (paired_sorted _ (rowOf_sorted ws hw i)) hxl hyl
    have h4 : wt ((rowOf ws (i + 1)).take (x + y)) = wt ((merged ws (paired (rowOf ws i))).take (x + y)) := rfl
    rw [h4, List.map_cons, List.sum_cons]
    rw [paired_take _ _ h1] at h3
    omega
/-- Any list of weights with depths: how many are deeper than 0, 1, .. -/
def deeper : Nat → List (Nat × Nat) → List Nat
  | 0, _ => []
  | m + 1, l => l.countP (fun p => 0 < p.2) :: deeper m (l.map fun p => (p.1, p.2 - 1))
def room (m : Nat) (l : List (Nat × Nat)) : Nat := (l.map fun p => 2 ^ (m - p.2)).sum
def cost (l : List (Nat × Nat)) : Nat := (l.map fun p => p.1 * p.2).sum
theorem deeper_length : ∀ m l, (deeper m l).length = m
  | 0, _ => rfl
  | m + 1, l => by rw [deeper, List.length_cons, deeper_length]
theorem deeper_le : ∀ m l, ∀ x ∈ deeper m l, x ≤ l.length
  | 0, _, x, h => by simp [deeper] at h
  | m + 1, l, x, h => by
    simp only [deeper, List.mem_cons] at h
    rcases h with rfl | h
    · exact List.countP_le_length
    · simpa using deeper_le m _ x h
theorem room_step (m : Nat) : ∀ (l : List (Nat × Nat)), room (m + 1) l + l.countP (fun p => 0 < p.2) * 2 ^ m = room m (l.map fun p => (p.1, p.2 - 1)) + l.length * 2 ^ m
  | [] => by simp [room]
  | p :: l => by
    have ih := room_step m l
    simp only [room, List.map_cons, List.sum_cons, List.countP_cons, List.length_cons] at ih ⊢
    rw [Nat.add_mul, Nat.add_mul]
    by_cases h : 0 < p.2
    · rw [show m + 1 - p.2 = m - (p.2 - 1) by omega]
      simp only [h, decide_true, if_true]
      omega
    · have h0 : p.2 = 0 := by omega
      simp only [h0, Nat.lt_irrefl, decide_false, Nat.sub_zero, Nat.zero_sub, Nat.pow_succ, Bool.false_eq_true, if_false, Nat.zero_mul, Nat.one_mul]
      omega
theorem deeper_width : ∀ m l, width (deeper m l) + room m l = l.length * 2 ^ m
  | 0, l => by simp [deeper, width, room, List.map_const']
  | m + 1, l => by
    have ih := deeper_width m (l.map fun p => (p.1, p.2 - 1))
    have hs := room_step m l
    rw [deeper, width, deeper_length, Nat.pow_succ]
    rw [List.length_map] at ih
    have e : l.length * (2 ^ m * 2) = l.length * 2 ^ m + l.length * 2 ^ m := by rw [← Nat.mul_assoc]; omega
    rw [e]
    omega
theorem min_sum : ∀ {s l : List Nat}, s.Sublist l → l.Pairwise (· ≤ ·) → (l.take s.length).sum ≤ s.sum := by
  intro s l h
  induction h with
  | slnil => intro _; simp
  | @cons s l a h ih =>
    intro hs
    rw [List.pairwise_cons] at hs
    have ih := ih hs.2
    cases hk : s.length with
    | zero => simp
    | succ k =>
      rw [hk] at ih
      have hkl : k < l.length := by have := h.length_le; omega
      rw [List.take_succ_cons, List.sum_cons]
      rw [List.take_add_one, List.sum_append] at ih
      simp only [List.getElem?_eq_getElem hkl, Option.toList_some, List.sum_cons, List.sum_nil] at ih
      have := hs.1 _ (List.getElem_mem hkl)
      omega
  | @cons_cons s l a h ih =>
    intro hs
    rw [List.pairwise_cons] at hs
    have ih := ih hs.2
    simp only [List.length_cons, List.take_succ_cons, List.sum_cons]
    omega
theorem cost_step : ∀ (l : List (Nat × Nat)), cost l = ((l.filter fun p => 0 < p.2).map (·.1)).sum + cost (l.map fun p => (p.1, p.2 - 1))
  | [] => by simp [cost]
  | p :: l => by
    have ih := cost_step l
    simp only [cost, List.map_cons, List.sum_cons, List.filter_cons] at ih ⊢
    by_cases h : 0 < p.2
    · obtain ⟨d, hd⟩ : ∃ d, p.2 = d + 1 := ⟨p.2 - 1, by omega⟩
      rw [if_pos (by simpa using h)]
      simp only [List.map_cons, List.sum_cons, hd, Nat.add_sub_cancel, Nat.mul_succ]
      omega
    · have h0 : p.2 = 0 := by omega
      rw [if_neg (by simpa using h)]
      simp only [h0, Nat.mul_zero, Nat.zero_sub]
      omega
theorem deeper_cost : ∀ m (l : List (Nat × Nat)), (l.map (·.1)).Pairwise (· ≤ ·) → ((deeper m l).map fun x => ((l.map (·.1)).take x).sum).sum ≤ cost l
  | 0, l, _ => by simp [deeper]
  | m + 1, l, hs => by
    have e : (l.map fun p => (p.1, p.2 - 1)).map (·.1) = l.map (·.1) := by simp [Function.comp_def]
    have ih := deeper_cost m (l.map fun p => (p.1, p.2 - 1)) (by rw [e]; exact hs)
    rw [e] at ih
    rw [cost_step, deeper, List.map_cons, List.sum_cons]
    have h := min_sum ((List.filter_sublist (p := fun p : Nat × Nat => decide (0 < p.2)) (l := l)).map (·.1)) hs
    rw [List.length_map, ← List.countP_eq_length_filter] at h
    omega

/-! ### merging the lightest two, again and again -/
theorem perm_split {α β : Type} {f : α → β} : ∀ {P : List α} {x : β} {ys : List β}, (P.map f).Perm (x :: ys) → ∃ p R, P.Perm (p :: R) ∧ f p = x ∧ (R.map f).Perm ys := by
  intro P x ys h
  have hx : x ∈ P.map f := h.symm.subset (by simp)
  rw [List.mem_map] at hx
  obtain ⟨p, hp, rfl⟩ := hx
  obtain ⟨s, t, rfl⟩ := List.append_of_mem hp
  refine ⟨p, s ++ t, List.perm_middle, rfl, ?_⟩
  have h2 : ((s ++ p :: t).map f).Perm (f p :: (s ++ t).map f) := by
    simp
  exact (List.perm_cons (f p)).1 (h2.symm.trans h)
theorem perm_line {α β : Type} {f : α → β} : ∀ {ys : List β} {P : List α}, (P.map f).Perm ys → ∃ L : List α, L.Perm P ∧ L.map f = ys
  | [], P, h => ⟨[], by have := h.length_eq; simp at this; subst this; exact .refl _, rfl⟩
  | y :: ys, P, h => by
    obtain ⟨p, R, h1, h2, h3⟩ := perm_split h
    obtain ⟨L, h4, h5⟩ := perm_line h3
    exact ⟨p :: L, (h4.cons p).trans h1.symm, by simp [h2, h5]⟩
theorem sum_perm {l l' : List Nat} (h : l.Perm l') : l.sum = l'.sum := h.sum_nat
theorem cost_perm {l l' : List (Nat × Nat)} (h : l.Perm l') : cost l = cost l' := sum_perm (h.map _)
theorem room_perm (m : Nat) {l l' : List (Nat × Nat)} (h : l.Perm l') : room m l = room m l' := sum_perm (h.map _)

/-- Nodes (weight, how deep below), merged two lightest by two lightest: what the merged ones weigh in all; how deep the last one is. -/
inductive Merges : List (Nat × Nat) → Nat → Nat → Prop
  | one (x : Nat × Nat) : Merges [x] 0 x.2
  | step {l l' rest : List (Nat × Nat)} {a b : Nat × Nat} {s H : Nat} : l.Perm (a :: b :: rest) → a.1 ≤ b.1 → (∀ x ∈ rest, b.1 ≤ x.1) →
      l'.Perm ((a.1 + b.1, max a.2 b.2 + 1) :: rest) → Merges l' s H → Merges l (a.1 + b.1 + s) H

theorem Merges.deep {l : List (Nat × Nat)} {s H : Nat} (h : Merges l s H) : ∃ E : List ((Nat × Nat) × Nat), (E.map (·.1)).Perm l ∧ room H (E.map fun p => (p.1.1, p.2)) = 2 ^ H ∧ (∀ p ∈ E, p.2 + p.1.2 ≤ H) ∧ cost (E.map fun p => (p.1.1, p.2)) = s := by
  induction h with
  | one x => exact ⟨[(x, 0)], by simp, by simp [room], by simp, by simp [cost]⟩
  | @step l l' rest a b s H h1 h2 h3 h4 h5 ih =>
    obtain ⟨E, e1, e2, e3, e4⟩ := ih
    obtain ⟨p, F, f1, f2, f3⟩ := perm_split (e1.trans h4)
    rw [room_perm H (f1.map _)] at e2
    rw [cost_perm (f1.map _)] at e4
    have e5 := e3 p (f1.symm.subset (by simp))
    rw [f2] at e5
    simp only at e5
    refine ⟨(a, p.2 + 1) :: (b, p.2 + 1) :: F, ?_, ?_, ?_, ?_⟩
    · rw [List.map_cons, List.map_cons]
      exact ((f3.cons b).cons a).trans h1.symm
    · simp only [room, List.map_cons, List.sum_cons] at e2 ⊢
      have : 2 ^ (H - p.2) = 2 ^ (H - (p.2 + 1)) + 2 ^ (H - (p.2 + 1)) := by
        rw [show H - p.2 = (H - (p.2 + 1)) + 1 by omega, Nat.pow_succ]; omega
      omega
    · intro q hq
      simp only [List.mem_cons] at hq
      rcases hq with rfl | rfl | hq
      · simp only; omega
      · simp only; omega
      · exact e3 q (f1.symm.subset (by simp [hq]))
    · simp only [cost, List.map_cons, List.sum_cons] at e4 ⊢
      rw [f2] at e4
      simp only [Nat.add_mul] at e4
      simp only [Nat.mul_succ]
      omega
theorem max_of : ∀ (l : List (Nat × Nat)), l ≠ [] → ∃ p ∈ l, ∀ q ∈ l, q.2 ≤ p.2
  | [], h => absurd rfl h
  | [p], _ => ⟨p, by simp, by simp⟩
  | p :: q :: l, _ => by
    obtain ⟨m, h1, h2⟩ := max_of (q :: l) (by simp)
    by_cases h : p.2 ≤ m.2
    · exact ⟨m, List.mem_cons_of_mem _ h1, fun x hx => by
        rcases List.mem_cons.1 hx with rfl | hx
        · exact h
        · exact h2 x hx⟩
    · exact ⟨p, by simp, fun x hx => by
        rcases List.mem_cons.1 hx with rfl | hx
        · exact Nat.le_refl _
        · have := h2 x hx; omega⟩
/-- The lightest may have the deepest place. -/
theorem exchange {a da D : Nat} {Q : List (Nat × Nat)} (m : Nat) (ha : ∀ q ∈ Q, a ≤ q.1) (hd : da ≤ D) (hD : da = D ∨ ∃ q ∈ Q, q.2 = D) :
    ∃ Q', Q'.map (·.1) = Q.map (·.1) ∧ cost ((a, D) :: Q') ≤ cost ((a, da) :: Q) ∧ room m ((a, D) :: Q') = room m ((a, da) :: Q) ∧ (∀ x ∈ Q', x.2 ≤ da ∨ ∃ q ∈ Q, x.2 = q.2) := by
  rcases hD with rfl | ⟨q, hq, rfl⟩
  · exact ⟨Q, rfl, Nat.le_refl _, rfl, fun x hx => .inr ⟨x, hx, rfl⟩⟩
  · have haq := ha q hq
    obtain ⟨s, t, rfl⟩ := List.append_of_mem hq
    refine ⟨s ++ (q.1, da) :: t, by simp, ?_, ?_, ?_⟩
    · simp only [cost, List.map_cons, List.sum_cons, List.map_append, List.sum_append]
      obtain ⟨u, hu⟩ : ∃ u, q.1 = a + u := ⟨q.1 - a, by omega⟩
      obtain ⟨v, hv⟩ : ∃ v, q.2 = da + v := ⟨q.2 - da, by omega⟩
      rw [hu, hv]
      simp only [Nat.mul_add, Nat.add_mul]
      omega
    · simp only [room, List.map_cons, List.sum_cons, List.map_append, List.sum_append]
      omega
    · intro x hx
      simp only [List.mem_append, List.mem_cons] at hx
      rcases hx with hx | rfl | hx
      · exact .inr ⟨x, by simp [hx], rfl⟩
      · exact .inl (Nat.le_refl _)
      · exact .inr ⟨x, by simp [hx], rfl⟩
theorem room_even {D : Nat} : ∀ (l : List (Nat × Nat)), (∀ q ∈ l, q.2 < D) → room D l % 2 = 0
  | [], _ => by simp [room]
  | p :: l, h => by
    have ih := room_even l fun q hq => h q (by simp [hq])
    have hp := h p (by simp)
    simp only [room, List.map_cons, List.sum_cons] at ih ⊢
    rw [show D - p.2 = (D - p.2 - 1) + 1 by omega, Nat.pow_succ]
    omega
theorem room_lift {m D : Nat} (h : D ≤ m) : ∀ (l : List (Nat × Nat)), (∀ q ∈ l, q.2 ≤ D) → room m l = 2 ^ (m - D) * room D l
  | [], _ => by simp [room]
  | p :: l, hl => by
    have ih := room_lift h l fun q hq => hl q (by simp [hq])
    have hp := hl p (by simp)
    simp only [room, List.map_cons, List.sum_cons] at ih ⊢
    rw [ih, Nat.mul_add, ← Nat.pow_add, show m - D + (D - p.2) = m - p.2 by omega]
theorem Merges.low {l : List (Nat × Nat)} {s H : Nat} (h : Merges l s H) : ∀ (P : List (Nat × Nat)) (m : Nat), (P.map (·.1)).Perm (l.map (·.1)) → (∀ p ∈ P, p.2 ≤ m) → room m P = 2 ^ m → s ≤ cost P := by
  induction h with
  | one x => intros; exact Nat.zero_le _
  | @step l l' rest a b s H h1 h2 h3 h4 h5 ih =>
    intro P m hP hm hr
    have hP2 := hP.trans (h1.map (·.1))
    rw [List.map_cons, List.map_cons] at hP2
    obtain ⟨p, Q, q1, q2, q3⟩ := perm_split hP2
    obtain ⟨p2, R, r1, r2, r3⟩ := perm_split q3
    have hPp : P.Perm ((a.1, p.2) :: (b.1, p2.2) :: R) := by
      rw [← q2, ← r2]
      exact q1.trans (r1.cons p)
    rw [room_perm m hPp] at hr
    rw [cost_perm hPp]
    have hm2 : ∀ q ∈ (a.1, p.2) :: (b.1, p2.2) :: R, q.2 ≤ m := fun q hq => hm q (hPp.symm.subset hq)
    obtain ⟨mx, x1, x2⟩ := max_of ((a.1, p.2) :: (b.1, p2.2) :: R) (by simp)
    obtain ⟨D, hD⟩ : ∃ D, D = mx.2 := ⟨_, rfl⟩
    rw [← hD] at x2
    have hDm : D ≤ m := by rw [hD]; exact hm2 mx x1
    have hRw : ∀ q ∈ R, b.1 ≤ q.1 := by
      intro q hq
      have : q.1 ∈ rest.map (·.1) := r3.subset (List.mem_map_of_mem hq)
      rw [List.mem_map] at this
      obtain ⟨z, hz, e⟩ := this
      rw [← e]
      exact h3 z hz
    obtain ⟨Q', c1, c2, c3, c4⟩ := exchange (a := a.1) (da := p.2) (D := D) (Q := (b.1, p2.2) :: R) m
      (fun q hq => by
        rcases List.mem_cons.1 hq with rfl | hq
        · exact h2
        · exact Nat.le_trans h2 (hRw q hq))
      (x2 (a.1, p.2) (by simp))
      (by
        rcases List.mem_cons.1 x1 with e | e
        · exact .inl (by rw [hD, e])
        · exact .inr ⟨mx, e, hD.symm⟩)
    cases Q' with
    | nil => simp at c1
    | cons z R' =>
    rw [List.map_cons, List.map_cons] at c1
    injection c1 with c1 c1'
    have hz : z = (b.1, z.2) := by rw [← c1]
    rw [hz] at c2 c3 c4
    have hQD : ∀ x ∈ (b.1, z.2) :: R', x.2 ≤ D := by
      intro x hx
      rcases c4 x hx with h | ⟨q, hq, e⟩
      · have := x2 (a.1, p.2) (by simp); simp only at this; omega
      · rw [e]; exact x2 q (List.mem_cons_of_mem _ hq)
    have hall : ∀ x ∈ (a.1, D) :: (b.1, z.2) :: R', x.2 ≤ D := fun x hx => by
      rcases List.mem_cons.1 hx with rfl | hx
      · exact Nat.le_refl _
      · exact hQD x hx
    have hrD : room D ((a.1, D) :: (b.1, z.2) :: R') = 2 ^ D := by
      have e := room_lift hDm _ hall
      rw [c3, hr] at e
      have e2 : (2 : Nat) ^ m = 2 ^ (m - D) * 2 ^ D := by rw [← Nat.pow_add]; congr 1; omega
      rw [e2] at e
      exact (Nat.mul_left_cancel (Nat.two_pow_pos _) e).symm
    have hD0 : 0 < D := by
      rcases Nat.eq_zero_or_pos D with h0 | h0
      · subst h0
        simp only [room, List.map_cons, List.sum_cons] at hrD
        have h1 : 0 < 2 ^ (0 - z.2) := Nat.two_pow_pos _
        simp at hrD h1
      · exact h0
    have hex : z.2 = D ∨ ∃ q ∈ R', q.2 = D := by
      by_cases hz2 : z.2 = D
      · exact .inl hz2
      · refine .inr (Classical.byContradiction fun hn => ?_)
        have hlt : ∀ q ∈ (b.1, z.2) :: R', q.2 < D := by
          intro q hq
          have h1 := hQD q hq
          rcases List.mem_cons.1 hq with rfl | hq
          · simp only at h1 ⊢; omega
          · have h2 : q.2 ≠ D := fun e => hn ⟨q, hq, e⟩
            omega
        have h1 := room_even _ hlt
        simp only [room, List.map_cons, List.sum_cons, Nat.sub_self, Nat.pow_zero] at h1 hrD
        rw [show D = (D - 1) + 1 by omega, Nat.pow_succ] at hrD
        rw [show D - 1 + 1 = D by omega] at hrD
        omega
    have hR'w : ∀ q ∈ R', b.1 ≤ q.1 := by
      intro q hq
      have : q.1 ∈ R.map (·.1) := c1' ▸ List.mem_map_of_mem hq
      rw [List.mem_map] at this
      obtain ⟨y, hy, e⟩ := this
      rw [← e]
      exact hRw y hy
    obtain ⟨R2, d1, d2, d3, d4⟩ := exchange (a := b.1) (da := z.2) (D := D) (Q := R') D hR'w (hQD (b.1, z.2) (by simp)) hex
    have hR2D : ∀ x ∈ R2, x.2 ≤ D := by
      intro x hx
      rcases d4 x hx with h | ⟨q, hq, e⟩
      · have := hQD (b.1, z.2) (by simp); simp only at this; omega
      · rw [e]; exact hQD q (List.mem_cons_of_mem _ hq)
    have := ih ((a.1 + b.1, D - 1) :: R2) D
      (by
        rw [List.map_cons, d1, c1']
        have := (h4.map (·.1)).symm
        rw [List.map_cons] at this
        exact (r3.cons _).trans this)
      (fun x hx => by
        rcases List.mem_cons.1 hx with rfl | hx
        · simp only; omega
        · exact hR2D x hx)
      (by
        simp only [room, List.map_cons, List.sum_cons, Nat.sub_self, Nat.pow_zero] at hrD d3 ⊢
        rw [show D - (D - 1) = 1 by omega]
        omega)
    simp only [cost, List.map_cons, List.sum_cons] at this c2 d2 ⊢
    have e1 : (a.1 + b.1) * (D - 1) + a.1 + b.1 = a.1 * D + b.1 * D := by
      obtain ⟨d, rfl⟩ : ∃ d, D = d + 1 := ⟨D - 1, by omega⟩
      simp only [Nat.add_sub_cancel, Nat.mul_succ, Nat.add_mul]
      omega
    omega

/-! ### the sizes, in all -/
theorem rowOf_full (ws : List Nat) (h : 0 < ws.length) : ∀ i, (rowOf ws i).length = 2 * ws.length - 1 - (ws.length - 1) / 2 ^ i
  | 0 => by rw [rowOf_len0]; simp; omega
  | i + 1 => by
    rw [rowOf_len, rowOf_full ws h i, Nat.pow_succ, ← Nat.div_div_eq_div_mul]
    have : (ws.length - 1) / 2 ^ i ≤ ws.length - 1 := Nat.div_le_self _ _
    omega
/-- The sizes of weights, the lightest first. -/
def sizes (ws : List Nat) : List Nat := (List.range ws.length).map (szOf (alones ws 19 (2 * ws.length - 2)))
theorem sizes_length (ws : List Nat) : (sizes ws).length = ws.length := by simp [sizes]
theorem fits (ws : List Nat) (h0 : 0 < ws.length) (h1 : ws.length ≤ 256) : 2 * ws.length - 2 ≤ (rowOf ws 19).length := by
  rw [rowOf_full ws h0]
  have : (ws.length - 1) / 2 ^ 19 = 0 := Nat.div_eq_of_lt (by omega)
  omega
theorem sizes_get (ws : List Nat) (j : Nat) (h : j < ws.length) : (sizes ws).getD j 0 = szOf (alones ws 19 (2 * ws.length - 2)) j := by
  simp [sizes, List.getD_eq_getElem?_getD, h]
theorem sizes_le (ws : List Nat) : ∀ x ∈ sizes ws, x ≤ 20 := by
  intro x hx
  simp only [sizes, List.mem_map] at hx
  obtain ⟨j, _, rfl⟩ := hx
  have := szOf_le (alones ws 19 (2 * ws.length - 2)) j
  rw [alones_length] at this
  exact this
theorem sizes_anti (ws : List Nat) {i j : Nat} (h : i ≤ j) (hj : j < ws.length) : (sizes ws).getD j 0 ≤ (sizes ws).getD i 0 := by
  rw [sizes_get ws j hj, sizes_get ws i (by omega)]
  exact szOf_anti _ h
theorem sizes_kraft (ws : List Nat) (hw : ws.Pairwise (· ≤ ·)) (h0 : 0 < ws.length) (h1 : ws.length ≤ 256) : ((sizes ws).map fun s => 2 ^ (20 - s)).sum = 2 ^ 20 := by
  have hf := fits ws h0 h1
  have h := kraft_sum ws.length (alones ws 19 (2 * ws.length - 2)) (alones_sorted ws hw 19 _ hf) (alones_le ws hw 19 _ hf)
  rw [alones_width ws hw 19 _ hf, alones_length] at h
  rw [sizes, List.map_map]
  have e : ((fun s => 2 ^ (20 - s)) ∘ szOf (alones ws 19 (2 * ws.length - 2))) = fun j => 2 ^ (19 + 1 - szOf (alones ws 19 (2 * ws.length - 2)) j) := by funext j; rfl
  rw [e]
  omega
theorem zip_range {α : Type} (f : Nat → Nat) (d : α) (ws : List α) : ws.zip ((List.range ws.length).map f) = (List.range ws.length).map fun j => (ws.getD j d, f j) := by
  refine List.ext_getElem (by simp) fun i h1 h2 => ?_
  have hi : i < ws.length := by simp at h1; exact h1
  simp [List.getD_eq_getElem?_getD, List.getElem?_eq_getElem hi]
theorem sizes_cost (ws : List Nat) (hw : ws.Pairwise (· ≤ ·)) (h0 : 0 < ws.length) (h1 : ws.length ≤ 256) : cost (ws.zip (sizes ws)) = wt ((rowOf ws 19).take (2 * ws.length - 2)) := by
  have hf := fits ws h0 h1
  rw [← alones_cost ws hw 19 _ hf, ← cost_sum ws _ (alones_le ws hw 19 _ hf), cost, sizes, zip_range _ 0, List.map_map]
  rfl
/-- What package-merge takes is what merging the lightest two takes, if that is nowhere deeper than 20. -/
theorem same_cost (ws : List Nat) (hw : ws.Pairwise (· ≤ ·)) (h0 : 0 < ws.length) (h1 : ws.length ≤ 256) {l : List (Nat × Nat)} {s H : Nat} (hM : Merges l s H) (hl : (l.map (·.1)).Perm ws) (hH : H ≤ 20) :
    cost (ws.zip (sizes ws)) = s := by
  refine Nat.le_antisymm ?_ ?_
  · obtain ⟨E, e1, e2, e3, e4⟩ := hM.deep
    have hp : ((E.map fun p => (p.1.1, p.2)).map (·.1)).Perm ws := by
      have := (e1.map (·.1)).trans hl
      simpa [Function.comp_def] using this
    obtain ⟨L, l1, l2⟩ := perm_line hp
    have hLd : ∀ q ∈ L, q.2 ≤ H := by
      intro q hq
      have := l1.subset hq
      rw [List.mem_map] at this
      obtain ⟨z, hz, rfl⟩ := this
      have := e3 z hz
      simp only
      omega
    have hr : room 20 L = 2 ^ 20 := by
      rw [room_lift hH L hLd, room_perm H l1, e2, ← Nat.pow_add]
      congr 1
      omega
    have hw2 := deeper_width 20 L
    have hlen : L.length = ws.length := by rw [← l2]; simp
    rw [hr, hlen] at hw2
    have hd := deeper_le 20 L
    rw [hlen] at hd
    have h := (pm_least ws hw 19 (deeper 20 L) (2 * ws.length - 2) (deeper_length 20 L) hd (by omega)).2
    have h2 := deeper_cost 20 L (by rw [l2]; exact hw)
    rw [l2] at h2
    rw [sizes_cost ws hw h0 h1, ← e4, ← cost_perm l1]
    omega
  · refine hM.low _ 20 ?_ ?_ ?_
    · rw [List.map_fst_zip (by rw [sizes_length]; exact Nat.le_refl _)]
      exact hl.symm
    · intro p hp
      exact sizes_le ws _ (List.of_mem_zip hp).2
    · have := sizes_kraft ws hw h0 h1
      rw [room, ← this]
      congr 1
      have e : (ws.zip (sizes ws)).map (fun p => 2 ^ (20 - p.2)) = ((ws.zip (sizes ws)).map (·.2)).map fun s => 2 ^ (20 - s) := by simp [Function.comp_def]
      rw [e, List.map_snd_zip (by rw [sizes_length]; exact Nat.le_refl _)]
end Go.Proofs.YtgaofnmgdefdcaaGreatDoor.Hp

namespace Go.Proofs.YtgaofnmgdefdcaaGreatDoor.Bp

/-- A number's lowest s bits, the highest first. -/
def tb : Nat → Nat → List Nat
  | _, 0 => []
  | n, s + 1 => tb (n / 2) s ++ [n % 2]
theorem tb_len : ∀ (s n : Nat), (tb n s).length = s
  | 0, _ => rfl
  | s + 1, n => by simp [tb, tb_len s]
theorem tb_bit : ∀ (s n : Nat), ∀ b ∈ tb n s, b < 2
  | 0, _ => by simp [tb]
  | s + 1, n => by
    intro b hb
    simp only [tb, List.mem_append, List.mem_singleton] at hb
    rcases hb with hb | rfl
    · exact tb_bit s _ b hb
    · omega
/-- In two pieces. -/
theorem tb_split (x : Nat) : ∀ (y n : Nat), tb n (x + y) = tb (n / 2 ^ y) x ++ tb n y
  | 0, n => by simp [tb]
  | y + 1, n => by
    have ih := tb_split x y (n / 2)
    rw [show x + (y + 1) = (x + y) + 1 by omega, tb, ih, tb, List.append_assoc, Nat.div_div_eq_div_mul, ← Nat.pow_succ']
/-- From the other end. -/
theorem tb_cons (s n : Nat) : tb n (s + 1) = (n / 2 ^ s % 2) :: tb n s := by
  have h := tb_split 1 s n
  rw [Nat.add_comm] at h
  rw [h]
  rfl
/-- Bits above those that are looked at don't matter. -/
theorem tb_mod : ∀ (s k n : Nat), s ≤ k → tb (n % 2 ^ k) s = tb n s
  | 0, _, _, _ => rfl
  | s + 1, 0, _, h => by omega
  | s + 1, k + 1, n, h => by
    have h1 : n % 2 ^ (k + 1) / 2 = n / 2 % 2 ^ k := by rw [Nat.pow_succ', Nat.mod_mul_right_div_self]
    have h2 : n % 2 ^ (k + 1) % 2 = n % 2 := Nat.mod_mod_of_dvd n ⟨2 ^ k, by rw [Nat.pow_succ']⟩
    rw [tb, h1, h2, tb_mod s k (n / 2) (by omega), tb]
/-- What 64 bits keep of a number's lowest s bits behind others. -/
def push (last n s : Nat) : Nat := last * 2 ^ s % 18446744073709551616 + n % 2 ^ s
theorem push_mul {s : Nat} (last : Nat) (hs : s ≤ 64) : last * 2 ^ s % 18446744073709551616 = last % 2 ^ (64 - s) * 2 ^ s := by
  have h : 18446744073709551616 = 2 ^ (64 - s) * 2 ^ s := by
    rw [← Nat.pow_add, show 64 - s + s = 64 by omega]
  rw [h, Nat.mul_mod_mul_right]
theorem push_or {s : Nat} (last n : Nat) (hs : s ≤ 64) : (last * 2 ^ s % 18446744073709551616) ||| (n % 2 ^ s) = push last n s := by
  unfold push
  rw [push_mul last hs, Nat.mul_comm, ← Nat.two_pow_add_eq_or_of_lt (Nat.mod_lt _ (Nat.two_pow_pos s))]
theorem push_lt {s : Nat} (last n : Nat) (hs : s ≤ 64) : push last n s < 18446744073709551616 := by
  unfold push
  rw [push_mul last hs]
  have h : 18446744073709551616 = 2 ^ (64 - s) * 2 ^ s := by
    rw [← Nat.pow_add, show 64 - s + s = 64 by omega]
  have h1 := Nat.mod_lt last (Nat.two_pow_pos (64 - s))
  have h2 := Nat.mod_lt n (Nat.two_pow_pos s)
  generalize last % 2 ^ (64 - s) = a at *
  generalize n % 2 ^ s = b at *
  rw [h]
  have h3 : (a + 1) * 2 ^ s ≤ 2 ^ (64 - s) * 2 ^ s := Nat.mul_le_mul_right _ h1
  rw [Nat.add_mul] at h3
  omega
theorem push_tb {last n s o : Nat} (h : o + s ≤ 64) : tb (push last n s) (o + s) = tb last o ++ tb n s := by
  have h2 := Nat.mod_lt n (Nat.two_pow_pos s)
  rw [tb_split]
  congr 1
  · have e : push last n s / 2 ^ s = last % 2 ^ (64 - s) := by
      unfold push
      rw [push_mul last (by omega), Nat.mul_comm, Nat.mul_add_div (Nat.two_pow_pos s), Nat.div_eq_of_lt h2, Nat.add_zero]
    rw [e, tb_mod o (64 - s) last (by omega)]
  · have e : push last n s % 2 ^ s = n % 2 ^ s := by
      unfold push
      rw [push_mul last (by omega), Nat.mul_comm, Nat.mul_add_mod, Nat.mod_mod]
    rw [← tb_mod s s (push last n s) (Nat.le_refl _), e, tb_mod s s n (Nat.le_refl _)]
/-- A byte out of the open bits: the eight that lie highest. -/
theorem shift_tb (last o : Nat) : tb last (o + 8) = tb (last / 2 ^ o % 256) 8 ++ tb last o := by
  rw [Nat.add_comm, tb_split]
  congr 1
  exact (tb_mod 8 8 (last / 2 ^ o) (Nat.le_refl _)).symm
/-- Bits as a number. -/
def num (l : List Nat) : Nat := l.foldl (fun a b => a * 2 + b) 0
theorem num_snoc (l : List Nat) (b : Nat) : num (l ++ [b]) = num l * 2 + b := by simp [num]
theorem num_tb : ∀ (s n : Nat), num (tb n s) = n % 2 ^ s
  | 0, n => by simp [tb, num, Nat.mod_one]
  | s + 1, n => by
    rw [tb, num_snoc, num_tb s, Nat.pow_succ', Nat.mod_mul]
    omega
theorem snoc_of {l : List Nat} (h : l ≠ []) : ∃ u b, l = u ++ [b] := ⟨l.dropLast, l.getLast h, (List.dropLast_concat_getLast h).symm⟩
theorem tb_num : ∀ (s : Nat) (l : List Nat), l.length = s → (∀ b ∈ l, b < 2) → tb (num l) s = l ∧ num l < 2 ^ s
  | 0, l, hl, _ => by
    obtain rfl := List.eq_nil_of_length_eq_zero hl
    simp [tb, num]
  | s + 1, l, hl, hb => by
    obtain ⟨u, b, rfl⟩ := snoc_of (l := l) (by rintro rfl; simp at hl)
    have h1 := hb b (by simp)
    obtain ⟨h2, h3⟩ := tb_num s u (by simpa using hl) (fun c hc => hb c (by simp [hc]))
    rw [num_snoc, tb, show (num u * 2 + b) / 2 = num u by omega, h2, show (num u * 2 + b) % 2 = b by omega, Nat.pow_succ]
    exact ⟨rfl, by omega⟩
theorem num_app (u : List Nat) : ∀ v : List Nat, (∀ b ∈ v, b < 2) → num (u ++ v) = num u * 2 ^ v.length + num v := by
  intro v hv
  obtain ⟨n, hn⟩ : ∃ n, v.length = n := ⟨_, rfl⟩
  induction n generalizing v with
  | zero =>
    obtain rfl := List.eq_nil_of_length_eq_zero hn
    simp [num]
  | succ n ih =>
    obtain ⟨w, b, rfl⟩ := snoc_of (l := v) (by rintro rfl; simp at hn)
    have h := ih w (fun c hc => hv c (by simp [hc])) (by simpa using hn)
    rw [← List.append_assoc, num_snoc, h, num_snoc, List.length_append, List.length_singleton, Nat.pow_succ, Nat.add_mul, Nat.mul_assoc]
    omega

/-- The bits of bytes. -/
def ofB (xs : List Nat) : List Nat := xs.flatMap fun x => tb x 8
theorem ofB_cons (x : Nat) (xs : List Nat) : ofB (x :: xs) = tb x 8 ++ ofB xs := by simp [ofB]
theorem ofB_app (xs ys : List Nat) : ofB (xs ++ ys) = ofB xs ++ ofB ys := by simp [ofB]
theorem ofB_len : ∀ xs, (ofB xs).length = 8 * xs.length
  | [] => rfl
  | x :: xs => by
    rw [ofB_cons, List.length_append, tb_len, ofB_len xs, List.length_cons]
    omega
theorem ofB_bit (xs : List Nat) : ∀ b ∈ ofB xs, b < 2 := by
  intro b hb
  simp only [ofB, List.mem_flatMap] at hb
  obtain ⟨x, _, hb⟩ := hb
  exact tb_bit 8 x b hb
theorem ofB_inj : ∀ {xs ys : List Nat}, (∀ x ∈ xs, x < 256) → (∀ y ∈ ys, y < 256) → ofB xs = ofB ys → xs = ys
  | [], [], _, _, _ => rfl
  | [], y :: ys, _, _, h => by
    have := congrArg List.length h
    simp [ofB_len] at this
  | x :: xs, [], _, _, h => by
    have := congrArg List.length h
    simp [ofB_len] at this
  | x :: xs, y :: ys, hx, hy, h => by
    rw [ofB_cons, ofB_cons] at h
    obtain ⟨h1, h2⟩ := List.append_inj h (by rw [tb_len, tb_len])
    have h3 := congrArg num h1
    rw [num_tb, num_tb, Nat.mod_eq_of_lt (hx x List.mem_cons_self), Nat.mod_eq_of_lt (hy y List.mem_cons_self)] at h3
    rw [h3, ofB_inj (fun z hz => hx z (List.mem_cons_of_mem _ hz)) (fun z hz => hy z (List.mem_cons_of_mem _ hz)) h2]
/-- How many noughts fill the last byte. -/
def gap (n : Nat) : Nat := (8 - n % 8) % 8
/-- Bytes out of bits, noughts behind: those whose bits these are. -/
def IsPack (l xs : List Nat) : Prop := (∀ x ∈ xs, x < 256) ∧ ofB xs = l ++ List.replicate (gap l.length) 0
theorem pack_one {l xs ys : List Nat} (h : IsPack l xs) (h' : IsPack l ys) : xs = ys := ofB_inj h.1 h'.1 (h.2.trans h'.2.symm)
theorem pack_len {l xs : List Nat} (h : IsPack l xs) : xs.length = (l.length + 7) / 8 := by
  have h1 := congrArg List.length h.2
  rw [ofB_len, List.length_append, List.length_replicate] at h1
  unfold gap at h1
  omega
/-- Whole bytes, and what has begun of one more. -/
theorem pack_whole {xs : List Nat} (h : ∀ x ∈ xs, x < 256) : IsPack (ofB xs) xs := ⟨h, by rw [ofB_len]; simp [gap]⟩
theorem pack_part {xs u : List Nat} (h : ∀ x ∈ xs, x < 256) (hu : ∀ b ∈ u, b < 2) (h0 : 0 < u.length) (h8 : u.length < 8) : IsPack (ofB xs ++ u) (xs ++ [num u * 2 ^ (8 - u.length)]) := by
  obtain ⟨h1, h2⟩ := tb_num u.length u rfl hu
  have hp : num u * 2 ^ (8 - u.length) < 256 := by
    have h3 : 2 ^ u.length * 2 ^ (8 - u.length) = 256 := by rw [← Nat.pow_add, show u.length + (8 - u.length) = 8 by omega]
    have h4 := Nat.mul_lt_mul_of_pos_right h2 (Nat.two_pow_pos (8 - u.length))
    omega
  refine ⟨fun x hx => ?_, ?_⟩
  · rcases List.mem_append.1 hx with hx | hx
    · exact h x hx
    · rw [List.mem_singleton.1 hx]
      exact hp
  · have hz : ∀ (s m : Nat), tb (m * 2 ^ s) s = List.replicate s 0 := by
      intro s m
      induction s generalizing m with
      | zero => rfl
      | succ s ih =>
        rw [tb, Nat.pow_succ, ← Nat.mul_assoc, Nat.mul_div_cancel _ (by decide), ih, Nat.mul_mod_left, List.replicate_succ']
    have ht : tb (num u * 2 ^ (8 - u.length)) 8 = u ++ List.replicate (8 - u.length) 0 := by
      have h5 := tb_split u.length (8 - u.length) (num u * 2 ^ (8 - u.length))
      rw [show u.length + (8 - u.length) = 8 by omega, Nat.mul_div_cancel _ (Nat.two_pow_pos _), h1, hz] at h5
      exact h5
    rw [ofB_app, ofB_cons, ht]
    have hg : gap (ofB xs ++ u).length = 8 - u.length := by
      rw [List.length_append, ofB_len]
      unfold gap
      omega
    rw [hg]
    simp [ofB]
/-! ### a piece of the bits of bytes -/
theorem ofB_drop : ∀ (q : Nat) (xs : List Nat), ofB (xs.drop q) = (ofB xs).drop (8 * q)
  | 0, xs => by simp
  | q + 1, [] => by simp [ofB]
  | q + 1, x :: xs => by
    rw [List.drop_succ_cons, ofB_drop q xs, ofB_cons, show 8 * (q + 1) = 8 + 8 * q by omega, ← List.drop_drop, List.drop_left' (tb_len 8 x)]
theorem ofB_take : ∀ (m : Nat) (xs : List Nat), ofB (xs.take m) = (ofB xs).take (8 * m)
  | 0, xs => by simp [ofB]
  | m + 1, [] => by simp [ofB]
  | m + 1, x :: xs => by
    rw [List.take_succ_cons, ofB_cons, ofB_take m xs, ofB_cons, show 8 * (m + 1) = (tb x 8).length + 8 * m by rw [tb_len]; omega, List.take_length_add_append]
/-- So many bits from place k on. -/
def piece (l : List Nat) (k s : Nat) : List Nat := (l.drop k).take s
theorem piece_mid {xs : List Nat} {q m j s : Nat} (h : j + s ≤ 8 * m) : piece (ofB xs) (8 * q + j) s = piece (ofB ((xs.drop q).take m)) j s := by
  unfold piece
  rw [ofB_take, ofB_drop, List.drop_take, List.take_take, List.drop_drop, Nat.min_eq_left (by omega)]
theorem num_piece {l : List Nat} {j s r : Nat} (hb : ∀ b ∈ l, b < 2) (hl : l.length = j + s + r) : num l / 2 ^ r % 2 ^ s = num (piece l j s) := by
  obtain ⟨P, M, R, rfl, hP, hM, hR⟩ : ∃ P M R, l = P ++ (M ++ R) ∧ P.length = j ∧ M.length = s ∧ R.length = r := by
    refine ⟨l.take j, (l.drop j).take s, (l.drop j).drop s, ?_, ?_, ?_, ?_⟩
    · rw [List.take_append_drop, List.take_append_drop]
    all_goals simp
    all_goals omega
  have e : piece (P ++ (M ++ R)) j s = M := by
    unfold piece
    rw [List.drop_left' hP, List.take_left' hM]
  have hM2 := (tb_num s M hM (fun b h => hb b (by simp [h]))).2
  have hR2 := (tb_num r R hR (fun b h => hb b (by simp [h]))).2
  rw [e, num_app P (M ++ R) (fun b h => hb b (by simp only [List.mem_append] at h ⊢; exact .inr h)), num_app M R (fun b h => hb b (by simp [h])), List.length_append, hM, hR, Nat.pow_add]
  rw [show num P * (2 ^ s * 2 ^ r) + (num M * 2 ^ r + num R) = 2 ^ r * (2 ^ s * num P + num M) + num R by
    rw [Nat.mul_add, Nat.mul_comm (num M), ← Nat.add_assoc]; congr 2; rw [Nat.mul_comm (2 ^ s) (2 ^ r), Nat.mul_comm (num P), Nat.mul_assoc]]
  rw [Nat.mul_add_div (Nat.two_pow_pos r), Nat.div_eq_of_lt hR2, Nat.add_zero, Nat.mul_add_mod, Nat.mod_eq_of_lt hM2]
theorem num_byte {xs : List Nat} {x : Nat} (hx : x < 256) : num (ofB (xs ++ [x])) = num (ofB xs) * 256 + x := by
  rw [ofB_app, num_app _ _ (ofB_bit _), ofB_len]
  have : num (ofB [x]) = x := by
    rw [show ofB [x] = tb x 8 by simp [ofB], num_tb]
    omega
  rw [this]
  rfl
theorem num_ofB_lt (xs : List Nat) : num (ofB xs) < 2 ^ (8 * xs.length) := (tb_num _ _ (ofB_len xs) (ofB_bit xs)).2
theorem num_lt {l : List Nat} {s : Nat} (hl : l.length ≤ s) (hb : ∀ b ∈ l, b < 2) : num l < 2 ^ s :=
  Nat.lt_of_lt_of_le (tb_num _ l rfl hb).2 (Nat.pow_le_pow_right (by decide) hl)
theorem piece_bit {l : List Nat} (h : ∀ b ∈ l, b < 2) (k s : Nat) : ∀ b ∈ piece l k s, b < 2 := fun b hb => h b (List.mem_of_mem_drop (List.mem_of_mem_take hb))
theorem piece_len {l : List Nat} {k s : Nat} (h : k + s ≤ l.length) : (piece l k s).length = s := by
  unfold piece
  simp
  omega
end Go.Proofs.YtgaofnmgdefdcaaGreatDoor.Bp

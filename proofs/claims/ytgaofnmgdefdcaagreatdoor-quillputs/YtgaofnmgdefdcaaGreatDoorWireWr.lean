/- What wire's Writer does, call by call: what it has is what was put; only its own block and its row turn, and new memory is made. -/
import Derived.Test.YtgaofnmgdefdcaaGreatDoorJItfNumWireRd
import Derived.Laws.AppendOwnNone
namespace Go.Proofs.YtgaofnmgdefdcaaGreatDoor.Ww
open Go.RowKit Go.Proofs.YtgaofnmgdefdcaaGreatDoor.Gen Go.Proofs.YtgaofnmgdefdcaaGreatDoor.Wr

/-- Block g is one cell, v, of a type that is no byte: a Writer, or what embeds one alone. -/
def WBlk (w : World) (g : Nat) (v : Value) : Prop := ∃ t, t ≠ 5 ∧ Blk w g t #[v]
theorem WBlk.lt {w : World} {g : Nat} {v : Value} (h : WBlk w g v) : g < w.heap.size := by obtain ⟨_, _, h⟩ := h; exact h.lt
theorem WBlk.cell {w : World} {g : Nat} {v : Value} (h : WBlk w g v) : w.cell? ⟨g, 0, none⟩ = some v := by obtain ⟨_, _, h⟩ := h; exact h.cell 0
theorem WBlk.frozen {w : World} {g : Nat} {v : Value} (h : WBlk w g v) : w.frozen? ⟨g, 0, none⟩ = false := by obtain ⟨_, _, h⟩ := h; exact h.frozen 0
theorem WBlk.keeps {S : Nat → Prop} {w w1 : World} {g : Nat} {v : Value} (h : WBlk w g v) (k : Keeps S w w1) (hn : ¬ S g) : WBlk w1 g v := by obtain ⟨t, ht, h⟩ := h; exact ⟨t, ht, h.keeps k hn⟩
theorem WBlk.alloc {w : World} {g : Nat} {v : Value} (h : WBlk w g v) (o : Obj) : WBlk (w.alloc o) g v := by obtain ⟨t, ht, h⟩ := h; exact ⟨t, ht, h.alloc o⟩
theorem WBlk.grown {w w1 : World} {g : Nat} {v : Value} {row : Option Nat} (h : WBlk w g v) (hg : w.grownBy w1 row) (hn : row ≠ some g) : WBlk w1 g v := by obtain ⟨t, ht, h⟩ := h; exact ⟨t, ht, h.grown hg hn⟩
theorem WBlk.set {w : World} {g : Nat} {v : Value} (h : WBlk w g v) (u : Value) : WBlk (w.setCell ⟨g, 0, none⟩ u) g u := by obtain ⟨t, ht, h⟩ := h; exact ⟨t, ht, by simpa using h.setCell 0 u⟩
theorem WBlk.own_ne {w : World} {g : Nat} {v u : Value} {base size n : Nat} {xs : List Value} (h : WBlk w g v) (ho : w.ownsRow base 5 size u n xs) : u.ownBlock ≠ some g := by obtain ⟨t, ht, h⟩ := h; exact Gen.own_ne ho h (Ne.symm ht)

/-- Block g is a Writer whose bytes are ys: they lie in the row v, one of its own; both from block base on. -/
def IsWr (base g : Nat) (v : Value) (ys : List Int) (w : World) : Prop :=
  base ≤ g ∧ base ≤ w.heap.size ∧ ys.length ≤ 1000000 ∧ (∃ A c, v = .slice A ys.length c) ∧ WBlk w g v ∧ w.ownsRow base 5 1 v ys.length (bv ys)
/-- The blocks that a Writer may turn. -/
def Its (g : Nat) (v : Value) (k : Nat) : Prop := k = g ∨ v.ownBlock = some k
/-- It has these bytes now; its row lies where it lay, or in new memory. -/
def Puts (base g : Nat) (v : Value) (ys : List Int) (w : World) (r : Ending) (w' : World) : Prop :=
  r = .returned (.tuple #[]) ∧ ∃ v', IsWr base g v' ys w' ∧ Keeps (Its g v) w w' ∧ (v'.ownBlock = v.ownBlock ∨ ∃ b, v'.ownBlock = some b ∧ w.heap.size ≤ b)

theorem IsWr.lt {base g : Nat} {v : Value} {ys : List Int} {w : World} (h : IsWr base g v ys w) : g < w.heap.size := h.2.2.2.2.1.lt
theorem IsWr.its {base g : Nat} {v : Value} {ys : List Int} {w : World} (h : IsWr base g v ys w) : ∀ k, Its g v k → base ≤ k := by
  rintro k (rfl | hk)
  · exact h.1
  · exact (h.2.2.2.2.2.lt k hk).1
theorem IsWr.keeps {S : Nat → Prop} {base g : Nat} {v : Value} {ys : List Int} {w w1 : World} (h : IsWr base g v ys w) (k : Keeps S w w1) (hn : ∀ b, Its g v b → ¬ S b) : IsWr base g v ys w1 := by
  obtain ⟨h1, h2, h3, h4, h5, h6⟩ := h
  exact ⟨h1, Nat.le_trans h2 k.size, h3, h4, h5.keeps k (hn g (.inl rfl)), own_keeps h6 k fun b hb => hn b (.inr hb)⟩
theorem new_of (t : TypeId) (ht : t ≠ 5) (w : World) : IsWr w.heap.size w.heap.size (.slice none 0 0) [] (w.alloc (.cells #[.slice none 0 0] t)) :=
  ⟨Nat.le_refl _, by simp, by simp, ⟨none, 0, rfl⟩, ⟨t, ht, Blk.new _ _ _⟩, World.ownsRow_nil _ _ _ _⟩
theorem new_wr (w : World) : IsWr w.heap.size w.heap.size (.slice none 0 0) [] (w.alloc (.cells #[.slice none 0 0] 83)) := new_of _ (by decide) w

theorem bytes (g : Nat) (base : Nat) (v : Value) (ys : List Int) (w : World) (h : IsWr base g v ys w) : Calls Tryz.prog 46 #[.pointer (some ⟨g, 0, none⟩)] w (Own w.heap.size ys.length ys w) := by
  obtain ⟨h1, h2, h3, ⟨A, c, rfl⟩, h5, h6⟩ := h
  have hc : w.cell? ⟨g, 0, none⟩ = some (.slice A ys.length c) := h5.cell
  have HL := Lib.hid (Lies.of_own h6)
  clear h1 h2 h5 h6
  go_enter Tryz.func46, Tryz.ntmps46
  go_wp2_with (go_at_call 71; refine (clone A c ys w HL.out h3).mono ?_; rintro e w1 ⟨A1, c1, rfl, hv, hk⟩)
  go_ret
  exact ⟨A1, c1, rfl, hv, hk⟩

theorem bytes_n (g : Nat) (base : Nat) (v : Value) (ys : List Int) (n : Nat) (w : World) (hn : ys.length = n) (h : IsWr base g v ys w) : Calls Tryz.prog 46 #[.pointer (some ⟨g, 0, none⟩)] w (Own w.heap.size n ys w) := by
  subst hn
  exact bytes g base v ys w h

/-- The end of a put: the row that append gave is stored into the Writer. -/
theorem stored {base g : Nat} {A : Option Addr} {n c : Nat} {zs : List Int} {w w1 : World} {v1 : Value} {e : Ending}
    (he : e = .returned (.tuple #[])) (hg : base ≤ g) (hb : base ≤ w.heap.size) (h5 : WBlk w1 g (.slice A n c)) (hz : zs.length ≤ 1000000)
    (hv : w1.ownsRow base 5 1 v1 zs.length (bv zs)) (hk : Keeps (Its g (.slice A n c)) w w1) (hat : v1.ownBlock = (Value.slice A n c).ownBlock ∨ ∃ b, v1.ownBlock = some b ∧ w.heap.size ≤ b) :
    Puts base g (.slice A n c) zs w e (w1.setCell ⟨g, 0, none⟩ v1) := by
  refine ⟨he, v1, ⟨hg, ?_, hz, ?_, ?_, ?_⟩, hk.setCell (p := ⟨g, 0, none⟩) (.inl (.inl rfl)) _, hat⟩
  · have := hk.size
    simp [World.setCell]
    omega
  · obtain ⟨A', c', h, _⟩ := own_form hv
    exact ⟨A', c', h⟩
  · exact h5.set v1
  · exact own_keeps (S := (· = g)) hv ((Keeps.refl _ _).setOwn _ _) fun b hb' e => by subst e; exact h5.own_ne hv hb'

theorem byte (g : Nat) (base : Nat) (v : Value) (ys : List Int) (x : Int) (w : World) (h : IsWr base g v ys w) (hn : ys.length < 1000000) :
    Calls Tryz.prog 61 #[.pointer (some ⟨g, 0, none⟩), .int .u8 x] w (Puts base g v (ys ++ [x]) w) := by
  obtain ⟨h1, h2, h3, ⟨A, c, rfl⟩, h5, h6⟩ := h
  obtain ⟨i0, hi0, hz0, hz1, hz2⟩ := info_parts u8_info
  have hc : w.cell? ⟨g, 0, none⟩ = some (.slice A ys.length c) := h5.cell
  have H5 := Lib.hid h5
  have H6 := Lib.hid h6
  have hnews : ∀ j u, [Value.int .u8 x][j]? = some u → (w.alloc (.cells #[.int .u8 x] 5)).cell? ((⟨w.heap.size, 0, none⟩ : Addr).add j) = some u := by
    intro j u hu
    rw [add_none, (Blk.new w 5 #[.int .u8 x]).cell]
    simpa using hu
  clear h3 h5 h6
  go_enter Tryz.func61, Tryz.ntmps61
  go_wp2_with (
    at_builtin
    refine wpList_append_own_at _ rfl (.tmp 10) (.tmp 12) _ rfl base 5 i0 _ 1 1 Tryz.underlying29 hi0 hz0 hz1 hz2 rfl (by omega) (.slice A ys.length c) ys.length (bv ys) rfl
      (H6.out.alloc _) ⟨w.heap.size, 0, none⟩ 1 1 [.int .u8 x] rfl rfl hnews (by simp [Value.oneCell']) (by simp only [maxLen]; omega) (by omega) (by simp; omega) ?_
    intro v1 w1 hown1 hg1 hnil1 hat1
    have h7 : WBlk w1 g (.slice A ys.length c) := (H5.out.alloc _).grown hg1 (H5.out.own_ne H6.out)
    have hc1 : w1.cell? ⟨g, 0, none⟩ = some (.slice A ys.length c) := h7.cell
    have hf1 : w1.frozen? ⟨g, 0, none⟩ = false := h7.frozen
    have H7 := Lib.hid h7
    have HO1 := Lib.hid hown1
    have HG1 := Lib.hid hg1
    have HA1 := Lib.hid hat1
    obtain ⟨A1, c1, rfl, _⟩ := own_form hown1
    clear h7 hown1 hg1 hnil1 hat1)
  go_end0
  refine stored rfl h1 h2 H7.out (by simp; omega) (by simpa [bv_append, bv] using HO1.out) (((Keeps.refl _ _).alloc _).grown HG1.out (fun k hk => .inl (.inr hk))) ?_
  rcases HA1.out with h | h
  · exact .inl h
  · exact .inr ⟨_, h, by simp⟩

theorem put_some (g : Nat) (base : Nat) (v : Value) (ys zs : List Int) (ad : Addr) (c2 : Nat) (w : World) (h : IsWr base g v ys w) (hl : Lies w (some ad) zs) (hn : ys.length + zs.length ≤ 1000000) :
    Calls Tryz.prog 35 #[.pointer (some ⟨g, 0, none⟩), .slice (some ad) zs.length c2] w (Puts base g v (ys ++ zs) w) := by
  obtain ⟨h1, h2, h3, ⟨A, c, rfl⟩, h5, h6⟩ := h
  obtain ⟨i0, hi0, hz0, hz1, hz2⟩ := info_parts u8_info
  have hc : w.cell? ⟨g, 0, none⟩ = some (.slice A ys.length c) := h5.cell
  have H5 := Lib.hid h5
  have H6 := Lib.hid h6
  have HL := Lib.hid hl
  clear h3 h5 h6 hl
  go_enter Tryz.func35, Tryz.ntmps35
  go_wp2_with (
    at_builtin
    refine wpList_append_own_at _ rfl (.tmp 10) (.tmp 11) _ rfl base 5 i0 _ 1 1 Tryz.underlying29 hi0 hz0 hz1 hz2 rfl (by omega) (.slice A ys.length c) ys.length (bv ys) rfl
      H6.out ad zs.length c2 (bv zs) rfl (by rw [bv_len]; omega) HL.out.news (bv_one zs) (by simp only [maxLen]; omega) (by omega) h2 ?_
    intro v1 w1 hown1 hg1 hnil1 hat1
    have h7 : WBlk w1 g (.slice A ys.length c) := H5.out.grown hg1 (H5.out.own_ne H6.out)
    have hc1 : w1.cell? ⟨g, 0, none⟩ = some (.slice A ys.length c) := h7.cell
    have hf1 : w1.frozen? ⟨g, 0, none⟩ = false := h7.frozen
    have H7 := Lib.hid h7
    have HO1 := Lib.hid hown1
    have HG1 := Lib.hid hg1
    have HA1 := Lib.hid hat1
    obtain ⟨A1, c1, rfl, _⟩ := own_form hown1
    clear h7 hown1 hg1 hnil1 hat1)
  go_end0
  refine stored rfl h1 h2 H7.out (by simp; omega) (by simpa [bv_append] using HO1.out) ((Keeps.refl _ _).grown HG1.out (fun k hk => .inl (.inr hk))) ?_
  rcases HA1.out with h | h
  · exact .inl h
  · exact .inr ⟨_, h, Nat.le_refl _⟩
theorem put_nil (g : Nat) (base : Nat) (v : Value) (ys : List Int) (w : World) (h : IsWr base g v ys w) :
    Calls Tryz.prog 35 #[.pointer (some ⟨g, 0, none⟩), .slice none 0 0] w (Puts base g v ys w) := by
  obtain ⟨h1, h2, h3, ⟨A, c, rfl⟩, h5, h6⟩ := h
  obtain ⟨i0, hi0, hz0, hz1, hz2⟩ := info_parts u8_info
  have hc : w.cell? ⟨g, 0, none⟩ = some (.slice A ys.length c) := h5.cell
  have hf : w.frozen? ⟨g, 0, none⟩ = false := h5.frozen
  have H5 := Lib.hid h5
  have H6 := Lib.hid h6
  have H3 := Lib.hid h3
  clear h3 h5 h6
  go_enter Tryz.func35, Tryz.ntmps35
  go_wp2_with (
    at_builtin
    refine wpList_append_own_none rfl (.tmp 10) (.tmp 11) _ rfl base 5 i0 1 Tryz.underlying29 hi0 (.slice A ys.length c) ys.length (bv ys) rfl H6.out rfl ?_)
  go_end0
  exact stored rfl h1 h2 H5.out H3.out H6.out (Keeps.refl _ _) (.inl rfl)
theorem put (g : Nat) (base : Nat) (v : Value) (ys zs : List Int) (A2 : Option Addr) (m c2 : Nat) (w : World) (hm : zs.length = m) (h0 : A2 = none → c2 = 0) (h : IsWr base g v ys w) (hl : Lies w A2 zs) (hn : ys.length + m ≤ 1000000) :
    Calls Tryz.prog 35 #[.pointer (some ⟨g, 0, none⟩), .slice A2 m c2] w (Puts base g v (ys ++ zs) w) := by
  subst hm
  rcases A2 with _ | ad
  · have hx : zs = [] := by
      rcases hl with h | ⟨b, o, h, _⟩
      · exact h
      · cases h
    subst hx
    rw [h0 rfl, List.append_nil]
    exact put_nil g base v ys w h
  · exact put_some g base v ys zs ad c2 w h hl hn

/-- The lowest j bytes of a number, the lowest first. -/
def lows (n : Int) : Nat → List Int
  | 0 => []
  | j + 1 => lows n j ++ [n / 2 ^ (8 * j) % 256]
theorem lows_len (n : Int) : ∀ j, (lows n j).length = j
  | 0 => rfl
  | j + 1 => by simp [lows, lows_len n j]
/-- Behind many puts: only what lies from base on has turned. -/
def Has (base g : Nat) (ys : List Int) (w w' : World) : Prop := ∃ v, IsWr base g v ys w' ∧ Keeps (base ≤ ·) w w'
theorem Has.next {base g : Nat} {v : Value} {ys zs : List Int} {w0 w w' : World} {r : Ending} (h : IsWr base g v ys w) (k : Keeps (base ≤ ·) w0 w) (hp : Puts base g v zs w r w') : Has base g zs w0 w' := by
  obtain ⟨_, v', h1, h2, _⟩ := hp
  exact ⟨v', h1, k.trans (h2.mono fun b _ hb => h.its b hb)⟩


/-! ### what is put as a word is taken as one -/
theorem byte_at {all : List Int} {k : Nat} {x : Int} (h : all[k]? = some x) : RS.byte ⟨all, k, 0⟩ = (x, ⟨all, k + 1, 0⟩) := by
  obtain ⟨hk, hx⟩ := List.getElem?_eq_some_iff.1 h
  simp [RS.byte, hk, hx]
theorem word_of {all : List Int} {k : Nat} {x0 x1 x2 x3 : Int} (h0 : all[k]? = some x0) (h1 : all[k + 1]? = some x1) (h2 : all[k + 2]? = some x2) (h3 : all[k + 3]? = some x3) :
    RS.word ⟨all, k, 0⟩ = (x0 + x1 * 256 + x2 * 65536 + x3 * 16777216, ⟨all, k + 4, 0⟩) := by
  have e0 := byte_at h0
  have e1 := byte_at h1
  have e2 := byte_at h2
  have e3 := byte_at h3
  have p1 : RS.part ⟨all, k, 0⟩ 1 = (x0, ⟨all, k + 1, 0⟩) := by simp only [RS.part, e0]; simp
  have p2 : RS.part ⟨all, k, 0⟩ 2 = (x0 + x1 * 256, ⟨all, k + 2, 0⟩) := by rw [RS.part, p1]; simp only [e1]; rfl
  have p3 : RS.part ⟨all, k, 0⟩ 3 = (x0 + x1 * 256 + x2 * 65536, ⟨all, k + 3, 0⟩) := by rw [RS.part, p2]; simp only [e2]; rfl
  have p4 : RS.part ⟨all, k, 0⟩ 4 = (x0 + x1 * 256 + x2 * 65536 + x3 * 16777216, ⟨all, k + 4, 0⟩) := by rw [RS.part, p3]; simp only [e3]; rfl
  simp [RS.word, p4]
theorem lows4 (n : Int) : lows n 4 = [n % 256, n / 256 % 256, n / 65536 % 256, n / 16777216 % 256] := by
  simp [lows]
theorem word_lows {all rest : List Int} {k : Nat} {n : Int} (h : all.drop k = lows n 4 ++ rest) (h0 : 0 ≤ n) (h1 : n < 4294967296) : RS.word ⟨all, k, 0⟩ = (n, ⟨all, k + 4, 0⟩) := by
  rw [lows4] at h
  have hg : ∀ i, all[k + i]? = ([n % 256, n / 256 % 256, n / 65536 % 256, n / 16777216 % 256] ++ rest)[i]? := fun i => by rw [← h, List.getElem?_drop]
  rw [word_of (k := k) (hg 0) (hg 1) (hg 2) (hg 3)]
  congr 1
  omega
theorem lows_byte (n : Int) (j : Nat) : ∀ x ∈ lows n j, 0 ≤ x ∧ x < 256 := by
  induction j with
  | zero => simp [lows]
  | succ j ih =>
    intro x hx
    simp only [lows, List.mem_append, List.mem_singleton] at hx
    rcases hx with hx | rfl
    · exact ih x hx
    · omega
end Go.Proofs.YtgaofnmgdefdcaaGreatDoor.Ww

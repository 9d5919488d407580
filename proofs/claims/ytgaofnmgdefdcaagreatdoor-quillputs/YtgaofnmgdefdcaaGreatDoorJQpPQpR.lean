/- A Quill beside the statements' own model of it (QuillPuts). The condition: strconv's table of tens reads as its text lays it. -/
/- Bytes out of bits, by the answers' own function. At most 20000 bits. -/
import Derived.Test.YtgaofnmgdefdcaaGreatDoorJQpIQpA
import Derived.Test.YtgaofnmgdefdcaaGreatDoorJQlGetAwake10
import Derived.Test.YtgaofnmgdefdcaaGreatDoorJBitFnBitRef
import Derived.Test.YtgaofnmgdefdcaaGreatDoorJBitWrBitPut
import Derived.BigRegion

namespace Go.Proofs.YtgaofnmgdefdcaaGreatDoor.Qm
open Go.RowKit Go.Proofs.YtgaofnmgdefdcaaGreatDoor.Gen Go.Proofs.YtgaofnmgdefdcaaGreatDoor.Hu Go.Proofs.YtgaofnmgdefdcaaGreatDoor.Mp Go.Proofs.YtgaofnmgdefdcaaGreatDoor.Cm Go.Proofs.YtgaofnmgdefdcaaGreatDoor.Hr Go.Proofs.YtgaofnmgdefdcaaGreatDoor.Hn Go.Proofs.YtgaofnmgdefdcaaGreatDoor.Hk Go.Proofs.YtgaofnmgdefdcaaGreatDoor.Ln Go.Proofs.YtgaofnmgdefdcaaGreatDoor.Ds Go.Proofs.YtgaofnmgdefdcaaGreatDoor.Ky Go.Proofs.YtgaofnmgdefdcaaGreatDoor.Wr Go.Proofs.YtgaofnmgdefdcaaGreatDoor.Ib Go.Proofs.YtgaofnmgdefdcaaGreatDoor.Bp Go.Proofs.YtgaofnmgdefdcaaGreatDoor.Qh Go.Proofs.YtgaofnmgdefdcaaGreatDoor.Qs Go.Proofs.YtgaofnmgdefdcaaGreatDoor.Qc Go.Proofs.YtgaofnmgdefdcaaGreatDoor.It Go.Proofs.YtgaofnmgdefdcaaGreatDoor.Qi Go.Proofs.YtgaofnmgdefdcaaGreatDoor.Qu Go.Proofs.YtgaofnmgdefdcaaGreatDoor.Qn Go.Proofs.YtgaofnmgdefdcaaGreatDoor.Bq

theorem Tab_rise {B B' : Nat} {w : World} (h : Tab B w) (hB : B ≤ B') : Tab B' w := fun w' hb => h w' (hb.mono hB)
/-- Bytes are put into the model. -/
theorem marr_ {o : Nat → Option Nat} {base g mb cr : Nat} {Ar : Option Addr} {fa : Nat → Option Addr} {fc : Nat → Nat} {p : St} (w : World) (h : Md o base g mb Ar cr fa fc p w) (A Ab : Option Addr) (n c m cb : Nat) (d : E) (bs : List Int) (hd : chkA d = 0) (hL : Ents w A n d.d.L) (hS : 0 ≤ d.S ∧ d.S < 256) (hm : bs.length = m) (hm1 : m ≤ 1000) (hl : Lies w Ab bs) (hE : ∀ b o', Ab = some ⟨b, o', none⟩ → bs ≠ [] → o b = none) (hrow : p.1.length ≤ 100000) (hlen : ∀ i, (hadP p.2 i).length ≤ 100000) :
    Calls Tryz.prog 12 #[.pointer (some ⟨g, 0, none⟩), .agg (av A n c d), .slice Ab m cb] w fun r w' => r = .returned (.int .i64 (pArr d bs p).1) ∧ Left o base g mb (pArr d bs p).2 w w' := by
  have hB : 1 ≤ d.B ∧ d.B ≤ 60000 := by
    by_cases h1 : d.B < 1 ∨ 60000 < d.B
    · exfalso
      unfold chkA blkE at hd
      rw [if_pos h1] at hd
      simp at hd
    · omega
  have hb0 : blkE d.B = 0 := by unfold blkE; rw [if_neg (by omega)]
  have hK : d.K = 5 ∨ (d.K = 4 ∧ chkI d.d = 0) := by
    have hd2 := hd
    unfold chkA at hd2
    rw [hb0, if_neg (by decide)] at hd2
    by_cases h4 : d.K = 4
    · rw [if_pos h4] at hd2
      exact .inr ⟨h4, hd2⟩
    · rw [if_neg h4] at hd2
      by_cases h5 : d.K = 5
      · exact .inl h5
      · rw [if_neg h5] at hd2
        exact absurd hd2 (by decide)
  obtain ⟨Bn, hBn⟩ := Int.eq_ofNat_of_zero_le (show 0 ≤ d.B by omega)
  have hB' : 1 ≤ Bn ∧ Bn ≤ 60000 := by omega
  unfold pArr
  rw [if_pos hd]
  rcases hK with h5 | ⟨h4, h4d⟩
  · rw [if_pos h5]
    refine (marr_stop w h A Ab n c m cb Bn d bs h5 hBn hB' hS hm hm1 hl hE (hlen Bn)).mono ?_
    unfold pStop
    rw [hBn]
    simp only [Int.toNat_natCast]
    rintro r w' (⟨h1, h2, h3⟩ | ⟨h1, h2, h3⟩)
    · rw [if_pos h2]
      exact ⟨h1, Left.same h h3⟩
    · rw [if_neg h2]
      exact ⟨h1, h3⟩
  · rw [if_neg (by omega)]
    exact marr_cnt w h A Ab n c m cb Bn d bs h4 hBn hB' h4d hL hm hm1 hl hE hrow hlen
/-- A Quill with p, its model with s. -/
structure Pm (w1 : World) (q g mb : Nat) (p s : St) (b X : Nat) (w : World) : Prop where
  ex : ∃ F G N o Ar cr fa fc, Ql F w1.heap.size q p.1 G N w ∧ cont G = p.2 ∧ Md o w1.heap.size g mb Ar cr fa fc s w ∧ (∀ k, F k → o k = none) ∧ N ≤ b ∧ ∀ k y, o k = some y → k < X
  row : p.1.length ≤ 100 * b ∧ s.1.length ≤ 100 * b
  blk : ∀ i, (hadP p.2 i).length ≤ 300 * b ∧ (hadP s.2 i).length ≤ 300 * b
  keeps : Keeps (w1.heap.size ≤ ·) w1 w
section
variable {w1 w w' wb : World} {q g mb b X : Nat} {p s : St} {A A2 : Option Addr} {n c m c2 : Nat}
theorem Pm.tab (h : Pm w1 q g mb p s b X w) (ht : Tab w1.heap.size w1) : Tab w1.heap.size w := ht.keeps (Nat.le_refl _) h.keeps fun _ => id
theorem Pm.more (h : Pm w1 q g mb p s b X w) (k : Keeps (fun _ => False) w w') : Pm w1 q g mb p s b X w' := by
  obtain ⟨⟨F, G, N, o, Ar, cr, fa, fc, h1, h2, h3, h4, h5, h9⟩, h6, h7, h8⟩ := h
  exact ⟨⟨F, G, N, o, Ar, cr, fa, fc, h1.more k, h2, h3.more k, h4, h5, h9⟩, h6, h7, h8.trans (k.mono fun _ _ hf => hf.elim)⟩
theorem Pm.fix (h : Pm w1 q g mb p s b X w) : Pm w1 q g mb p s b w.heap.size w := by
  obtain ⟨⟨F, G, N, o, Ar, cr, fa, fc, h1, h2, h3, h4, h5, h9⟩, h6, h7, h8⟩ := h
  exact ⟨⟨F, G, N, o, Ar, cr, fa, fc, h1, h2, h3, h4, h5, fun k y hk => (h3.lt k y hk).2⟩, h6, h7, h8⟩
theorem Pm.up {b' : Nat} (h : Pm w1 q g mb p s b X w) (hb : b ≤ b') : Pm w1 q g mb p s b' X w := by
  obtain ⟨⟨F, G, N, o, Ar, cr, fa, fc, h1, h2, h3, h4, h5, h9⟩, h6, h7, h8⟩ := h
  exact ⟨⟨F, G, N, o, Ar, cr, fa, fc, h1, h2, h3, h4, by omega, h9⟩, by omega, fun i => by have := h7 i; omega, h8⟩
theorem Pm.all (h : Pm w1 q g mb p s b X w) (k : Keeps (fun _ => False) wb w1) : Keeps (fun _ => False) wb w := k.trans (h.keeps.mono fun _ h1 h2 => by omega)
theorem Pm.qint (h : Pm w1 q g mb p s b X wb) (k : Keeps (fun _ => False) wb w) (ht : Tab w1.heap.size w1) (hb' : b ≤ 300) {d : D} {x : Int} (hx : (Lit.int .i64 x).wf = true) (hL : Ents w A n d.L) (hf : ∀ y ∈ d.L, Fits y) (hE : 0 < n → ∀ b o, A = some ⟨b, o, none⟩ → wb.heap.size ≤ b) :
    Calls Tryz.prog 15 #[.pointer (some ⟨q, 0, none⟩), .agg (dv A n c d), .int .i64 x] w fun r w' => r = .returned (.int .i64 (pInt d x p).1) ∧ Pm w1 q g mb (pInt d x p).2 s (b + 1) X w' ∧ Keeps (fun x => w1.heap.size ≤ x ∧ x < wb.heap.size) w w' := by
  have htw := (h.more k).tab ht
  obtain ⟨⟨F, G, N, o, Ar, cr, fa, fc, h1, h2, h3, h4, h5, h9⟩, h6, h7, h8⟩ := h
  have hk8 := h8.trans (k.mono (S' := (w1.heap.size ≤ ·)) fun _ _ hf => hf.elim)
  refine (Qu.int_ w1.heap.size q F p.1 G N A n c d x w htw hk8.size (h1.more k) (by omega) (by omega) (fun i => by have := (h7 i).1; rw [← h2, ← had_cont] at this; omega) hL hf (fun h0 b o e hf => by have := hE h0 b o e; have := h1.lt b hf; omega) hx).mono ?_
  rintro r w' ⟨F', G', rfl, hq', hc', hs'⟩
  rw [h2] at hq' hc' ⊢
  obtain ⟨e1, e2⟩ := pInt_len d x p
  have h3' := h3.more k
  refine ⟨rfl, ⟨⟨F', G', N + 1, o, Ar, cr, fa, fc, hq', hc', h3'.keeps hs'.keeps fun x hx hF => hx (h4 x hF), fun x hx => ?_, by omega, h9⟩, ⟨?_, by omega⟩, fun i => ⟨?_, by have := (h7 i).2; omega⟩, hk8.trans (hs'.keeps.mono fun x _ hx => h1.low x hx)⟩, hs'.keeps.mono fun x _ hx => ⟨h1.low x hx, h1.lt x hx⟩⟩
  · rcases hs'.sub x hx with e | e
    · exact h4 x e
    · cases ho : o x with
      | none => rfl
      | some y =>
        have := (h3'.lt x y ho).2
        omega
  · show (pInt d x p).2.1.length ≤ _
    omega
  · have := e2 i
    have := (h7 i).1
    show (hadP (pInt d x p).2.2 i).length ≤ _
    omega
theorem Pm.qarr (h : Pm w1 q g mb p s b X wb) (k : Keeps (fun _ => False) wb w) (ht : Tab w1.heap.size w1) (hb' : b ≤ 300) {d : E} {bs : List Int} (hL : Ents w A n d.d.L) (hf : ∀ y ∈ d.d.L, Fits y) (hE : 0 < n → ∀ b o, A = some ⟨b, o, none⟩ → wb.heap.size ≤ b) (hS : 0 ≤ d.S ∧ d.S < 256)
    (hm : bs.length = m) (hm1 : m ≤ 100) (h02 : A2 = none → c2 = 0) (hl : Lies w A2 bs) (hby : ∀ y ∈ bs, 0 ≤ y ∧ y < 256) (hE2 : bs ≠ [] → ∀ b o, A2 = some ⟨b, o, none⟩ → b < w1.heap.size) :
    Calls Tryz.prog 10 #[.pointer (some ⟨q, 0, none⟩), .agg (av A n c d), .slice A2 m c2] w fun r w' => r = .returned (.int .i64 (pArr d bs p).1) ∧ Pm w1 q g mb (pArr d bs p).2 s (b + 1) X w' ∧ Keeps (fun x => w1.heap.size ≤ x ∧ x < wb.heap.size) w w' := by
  have htw := (h.more k).tab ht
  obtain ⟨⟨F, G, N, o, Ar, cr, fa, fc, h1, h2, h3, h4, h5, h9⟩, h6, h7, h8⟩ := h
  have hk8 := h8.trans (k.mono (S' := (w1.heap.size ≤ ·)) fun _ _ hf => hf.elim)
  refine (Qu.array_ w1.heap.size q F p.1 G N A n c d A2 m c2 bs w htw hk8.size (h1.more k) (by omega) (by omega) (fun i => by have := (h7 i).1; rw [← h2, ← had_cont] at this; omega) hL hf (fun h0 b o e hf => by have := hE h0 b o e; have := h1.lt b hf; omega) hS hm h02 hl hby (fun h0 b o e hf => by have := hE2 h0 b o e; have := h1.low b hf; omega)).mono ?_
  rintro r w' ⟨F', G', rfl, hq', hc', hs'⟩
  rw [h2] at hq' hc' ⊢
  obtain ⟨e1, e2⟩ := pArr_len d bs p
  have h3' := h3.more k
  refine ⟨rfl, ⟨⟨F', G', N + 1, o, Ar, cr, fa, fc, hq', hc', h3'.keeps hs'.keeps fun x hx hF => hx (h4 x hF), fun x hx => ?_, by omega, h9⟩, ⟨?_, by omega⟩, fun i => ⟨?_, by have := (h7 i).2; omega⟩, hk8.trans (hs'.keeps.mono fun x _ hx => h1.low x hx)⟩, hs'.keeps.mono fun x _ hx => ⟨h1.low x hx, h1.lt x hx⟩⟩
  · rcases hs'.sub x hx with e | e
    · exact h4 x e
    · cases ho : o x with
      | none => rfl
      | some y =>
        have := (h3'.lt x y ho).2
        omega
  · show (pArr d bs p).2.1.length ≤ _
    omega
  · have := e2 i
    have := (h7 i).1
    show (hadP (pArr d bs p).2.2 i).length ≤ _
    omega
theorem Pm.left {s' : St} {o : Nat → Option Nat} {F : Nat → Prop} {G : Gs} {N : Nat} {Ar : Option Addr} {cr : Nat} {fa : Nat → Option Addr} {fc : Nat → Nat} (h1 : Ql F w1.heap.size q p.1 G N w) (h2 : cont G = p.2) (h3 : Md o w1.heap.size g mb Ar cr fa fc s w) (h4 : ∀ k, F k → o k = none) (h5 : N ≤ b) (hk : Keeps (w1.heap.size ≤ ·) w1 w) (hl : Left o w1.heap.size g mb s' w w')
    (h6 : p.1.length ≤ 100 * b ∧ s'.1.length ≤ 100 * b) (h7 : ∀ i, (hadP p.2 i).length ≤ 300 * b ∧ (hadP s'.2 i).length ≤ 300 * b) : Pm w1 q g mb p s' b w'.heap.size w' ∧ Keeps (fun x => o x ≠ none) w w' := by
  obtain ⟨o', Ar', cr', fa', fc', hm, hkk, hs⟩ := hl
  refine ⟨⟨⟨F, G, N, o', Ar', cr', fa', fc', h1.keeps hkk fun x hx hh => hh (h4 x hx), h2, hm, fun x hx => ?_, h5, fun k y hk => (hm.lt k y hk).2⟩, h6, h7, hk.trans (hkk.mono fun x _ hh => ?_)⟩, hkk⟩
  · cases ho : o' x with
    | none => rfl
    | some y =>
      exfalso
      rcases hs x (by rw [ho]; simp) with e | e
      · exact e (h4 x hx)
      · have := h1.lt x hx
        omega
  · cases ho : o x with
    | none => exact absurd ho hh
    | some y => exact (h3.lt x y ho).1
theorem Pm.mint (h : Pm w1 q g mb p s b X w) (hb' : b ≤ 300) {d : D} {x : Int} (hd : chkI d = 0) (hL : Ents w A n d.L) :
    Calls Tryz.prog 16 #[.pointer (some ⟨g, 0, none⟩), .agg (dv A n c d), .int .i64 x] w fun r w' => r = .returned (.int .i64 (pInt d x s).1) ∧ Pm w1 q g mb p (pInt d x s).2 (b + 1) w'.heap.size w' ∧ Keeps (fun x => w1.heap.size ≤ x ∧ x < X) w w' := by
  obtain ⟨⟨F, G, N, o, Ar, cr, fa, fc, h1, h2, h3, h4, h5, h9⟩, h6, h7, h8⟩ := h
  refine (mint_ w h3 A n c d x hd hL (by omega) (fun i => by have := (h7 i).2; omega)).mono ?_
  rintro r w' ⟨rfl, hl⟩
  obtain ⟨e1, e2⟩ := pInt_len d x s
  have hl2 := Pm.left h1 h2 h3 h4 (show N ≤ b + 1 by omega) h8 hl ⟨by omega, by omega⟩ (fun i => ⟨by have := (h7 i).1; omega, by have := e2 i; have := (h7 i).2; omega⟩)
  refine ⟨rfl, hl2.1, hl2.2.mono fun y _ hy => ?_⟩
  cases ho : o y with
  | none => exact absurd ho hy
  | some z => exact ⟨(h3.lt y z ho).1, h9 y z ho⟩
theorem Pm.marr (h : Pm w1 q g mb p s b X w) (hb' : b ≤ 300) {d : E} {bs : List Int} (hd : chkA d = 0) (hL : Ents w A n d.d.L) (hS : 0 ≤ d.S ∧ d.S < 256) (hm : bs.length = m) (hm1 : m ≤ 100) (hl : Lies w A2 bs) (hE2 : bs ≠ [] → ∀ b o, A2 = some ⟨b, o, none⟩ → b < w1.heap.size) :
    Calls Tryz.prog 12 #[.pointer (some ⟨g, 0, none⟩), .agg (av A n c d), .slice A2 m c2] w fun r w' => r = .returned (.int .i64 (pArr d bs s).1) ∧ Pm w1 q g mb p (pArr d bs s).2 (b + 1) w'.heap.size w' ∧ Keeps (fun x => w1.heap.size ≤ x ∧ x < X) w w' := by
  obtain ⟨⟨F, G, N, o, Ar, cr, fa, fc, h1, h2, h3, h4, h5, h9⟩, h6, h7, h8⟩ := h
  refine (marr_ w h3 A A2 n c m c2 d bs hd hL hS hm (by omega) hl (fun b o' e h0 => by
    have := hE2 h0 b o' e
    cases ho : o b with
    | none => rfl
    | some y =>
      have := (h3.lt b y ho).1
      omega) (by omega) (fun i => by have := (h7 i).2; omega)).mono ?_
  rintro r w' ⟨rfl, hl⟩
  obtain ⟨e1, e2⟩ := pArr_len d bs s
  have hl2 := Pm.left h1 h2 h3 h4 (show N ≤ b + 1 by omega) h8 hl ⟨by omega, by omega⟩ (fun i => ⟨by have := (h7 i).1; omega, by have := e2 i; have := (h7 i).2; omega⟩)
  refine ⟨rfl, hl2.1, hl2.2.mono fun y _ hy => ?_⟩
  cases ho : o y with
  | none => exact absurd ho hy
  | some z => exact ⟨(h3.lt y z ho).1, h9 y z ho⟩
end
end Go.Proofs.YtgaofnmgdefdcaaGreatDoor.Qm

namespace Go.Proofs.YtgaofnmgdefdcaaGreatDoor.Rc
open Go.RowKit Go.Proofs.YtgaofnmgdefdcaaGreatDoor.Gen Go.Proofs.YtgaofnmgdefdcaaGreatDoor.Cl Go.Proofs.YtgaofnmgdefdcaaGreatDoor.Bp Go.Proofs.YtgaofnmgdefdcaaGreatDoor.Bq Go.Proofs.YtgaofnmgdefdcaaGreatDoor.Bw

/-- The first d bits, noughts behind, as many as m bytes have. -/
def upto (l : List Nat) (m d : Nat) : List Nat := l.take d ++ List.replicate (8 * m - d) 0
/-- Each eight of them as a number. -/
def chunks (L : List Nat) (m : Nat) : List Nat := (List.range m).map fun q => num (piece L (8 * q) 8)
theorem upto_len {l : List Nat} {m d : Nat} (hd : d ≤ l.length) (hm : l.length ≤ 8 * m) : (upto l m d).length = 8 * m := by simp [upto]; omega
theorem upto_bit {l : List Nat} (hb : ∀ b ∈ l, b < 2) (m d : Nat) : ∀ b ∈ upto l m d, b < 2 := by
  intro b h
  rcases List.mem_append.1 h with h | h
  · exact hb b (List.mem_of_mem_take h)
  · rw [(List.mem_replicate.1 h).2]; omega
theorem upto_zero (l : List Nat) (m : Nat) : upto l m 0 = List.replicate (8 * m) 0 := by simp [upto]
theorem upto_next {l : List Nat} {m d : Nat} (hd : d < l.length) (hm : l.length ≤ 8 * m) : ∃ v, upto l m d = l.take d ++ 0 :: v ∧ upto l m (d + 1) = l.take d ++ l.getD d 0 :: v := by
  refine ⟨List.replicate (8 * m - (d + 1)) 0, ?_, ?_⟩
  · unfold upto
    rw [show 8 * m - d = (8 * m - (d + 1)) + 1 by omega, List.replicate_succ]
  · unfold upto
    rw [← List.take_append_getElem hd, List.getD_eq_getElem?_getD, List.getElem?_eq_getElem hd, List.append_assoc]
    rfl
theorem num_mid (u v : List Nat) (hv : ∀ b ∈ v, b < 2) (x : Nat) (hx : x < 2) : num (u ++ x :: v) = num (u ++ 0 :: v) + x * 2 ^ v.length := by
  have h1 : ∀ y, y < 2 → num (u ++ y :: v) = (num u * 2 + y) * 2 ^ v.length + num v := by
    intro y hy
    have e : u ++ y :: v = (u ++ [y]) ++ v := by simp
    rw [e, num_app _ _ hv, num_snoc]
  rw [h1 x hx, h1 0 (by omega), Nat.add_mul, Nat.add_mul]
  omega
theorem piece_at {u v : List Nat} {x q : Nat} (h1 : 8 * q ≤ u.length) (h2 : u.length < 8 * q + 8) : piece (u ++ x :: v) (8 * q) 8 = u.drop (8 * q) ++ x :: v.take (7 - (u.length - 8 * q)) := by
  unfold piece
  rw [List.drop_append_of_le_length h1, List.take_append, List.take_of_length_le (by rw [List.length_drop]; omega), List.length_drop]
  congr 1
  rw [show 8 - (u.length - 8 * q) = (7 - (u.length - 8 * q)) + 1 by omega, List.take_succ_cons]
theorem piece_off {u v : List Nat} {x y q : Nat} (h : u.length < 8 * q ∨ 8 * q + 8 ≤ u.length) : piece (u ++ x :: v) (8 * q) 8 = piece (u ++ y :: v) (8 * q) 8 := by
  unfold piece
  rcases h with h | h
  · rw [List.drop_append, List.drop_append, List.drop_of_length_le (by omega)]
    obtain ⟨k, hk⟩ : ∃ k, 8 * q - u.length = k + 1 := ⟨8 * q - u.length - 1, by omega⟩
    rw [hk, List.drop_succ_cons, List.drop_succ_cons]
  · rw [List.drop_append_of_le_length (by omega), List.drop_append_of_le_length (by omega), List.take_append_of_le_length (by rw [List.length_drop]; omega), List.take_append_of_le_length (by rw [List.length_drop]; omega)]
theorem chunks_len (L : List Nat) (m : Nat) : (chunks L m).length = m := by simp [chunks]
theorem chunks_next {l : List Nat} {m d : Nat} (hb : ∀ b ∈ l, b < 2) (hd : d < l.length) (hm : l.length ≤ 8 * m) :
    chunks (upto l m (d + 1)) m = (chunks (upto l m d) m).set (d / 8) ((chunks (upto l m d) m).getD (d / 8) 0 + l.getD d 0 * 2 ^ (7 - d % 8)) := by
  obtain ⟨v, e1, e2⟩ := upto_next hd hm
  have hlt : (l.take d).length = d := by rw [List.length_take]; omega
  have hvb : ∀ b ∈ v, b < 2 := fun b h => upto_bit hb m d b (by rw [e1]; simp [h])
  have hvl : d + 1 + v.length = 8 * m := by
    have := upto_len (l := l) (m := m) (d := d) (by omega) hm
    rw [e1] at this
    simp at this
    omega
  have hxb : l.getD d 0 < 2 := hb _ (by rw [List.getD_eq_getElem?_getD, List.getElem?_eq_getElem hd]; exact List.getElem_mem hd)
  apply List.ext_getElem?
  intro q
  rw [List.getElem?_set]
  by_cases hq : q < m
  · have g1 : (chunks (upto l m (d + 1)) m)[q]? = some (num (piece (upto l m (d + 1)) (8 * q) 8)) := by simp [chunks, hq]
    have g2 : (chunks (upto l m d) m)[q]? = some (num (piece (upto l m d) (8 * q) 8)) := by simp [chunks, hq]
    rw [g1]
    by_cases hqd : d / 8 = q
    · rw [if_pos hqd, if_pos (by rw [chunks_len]; omega)]
      rw [hqd, List.getD_eq_getElem?_getD, g2, Option.getD_some, e1, e2, piece_at (by omega) (by omega), piece_at (by omega) (by omega), num_mid _ _ (fun b h => hvb b (List.mem_of_mem_take h)) _ hxb, hlt, List.length_take]
      have e7 : min (7 - (d - 8 * q)) v.length = 7 - d % 8 := by omega
      rw [e7]
    · rw [if_neg hqd, g2, e1, e2, piece_off (x := l.getD d 0) (y := 0) (by rw [hlt]; omega)]
  · rw [List.getElem?_eq_none (by rw [chunks_len]; omega), List.getElem?_eq_none (by rw [chunks_len]; omega)]
    split
    · rw [if_neg (by rw [chunks_len]; omega)]
    · rfl
theorem chunks_bits {L : List Nat} (hb : ∀ b ∈ L, b < 2) : ∀ m, 8 * m ≤ L.length → ofB (chunks L m) = L.take (8 * m)
  | 0, _ => by simp [chunks, ofB]
  | m + 1, h => by
    have e : chunks L (m + 1) = chunks L m ++ [num (piece L (8 * m) 8)] := by simp [chunks, List.range_succ]
    rw [e, ofB_app, chunks_bits hb m (by omega), show 8 * (m + 1) = 8 * m + 8 by omega, List.take_add]
    congr 1
    have := (tb_num 8 (piece L (8 * m) 8) (piece_len (by omega)) (piece_bit hb _ _)).1
    simpa [ofB, piece] using this
theorem chunks_byte {L : List Nat} (hb : ∀ b ∈ L, b < 2) {m : Nat} (hm : 8 * m ≤ L.length) : ∀ x ∈ chunks L m, x < 256 := by
  intro x hx
  simp only [chunks, List.mem_map, List.mem_range] at hx
  obtain ⟨q, hq, rfl⟩ := hx
  exact (tb_num 8 (piece L (8 * q) 8) (piece_len (by omega)) (piece_bit hb _ _)).2
theorem chunks_pack {l : List Nat} (hb : ∀ b ∈ l, b < 2) {m : Nat} (h1 : l.length ≤ 8 * m) (h2 : 8 * m < l.length + 8) : IsPack l (chunks (upto l m l.length) m) := by
  have hl := upto_len (l := l) (m := m) (Nat.le_refl _) h1
  refine ⟨chunks_byte (upto_bit hb _ _) (by omega), ?_⟩
  rw [chunks_bits (upto_bit hb _ _) m (by omega), List.take_of_length_le (by omega), upto, List.take_of_length_le (Nat.le_refl _)]
  congr 2
  unfold gap
  omega
theorem set_bv (xs : List Nat) (q x : Nat) : (bv (ib xs)).toArray.setIfInBounds q (.int .u8 (x : Int)) = (bv (ib (xs.set q x))).toArray := by
  simp [bv, ib, List.map_set]
theorem rbytes_ (A : Option Addr) (n c : Nat) (l : List Nat) (w : World) (hx : l.length = n) (hl : Lies w A (ib l)) (hb : ∀ b ∈ l, b < 2) (hn : n ≤ 20000) :
    Calls Tryz.prog 19 #[.slice A n c] w (Packed w.heap.size l w) := by
  obtain ⟨m, hm⟩ : ∃ m, m = (n + 7) / 8 := ⟨_, rfl⟩
  have hmk := fun w => make_bytes m (by omega) w
  have hmi : ((n : Int) + 7) / 8 = (m : Int) := by omega
  have hmt : Int.tdiv ((n : Int) + 7) 8 = (m : Int) := by rw [Int.tdiv_eq_ediv_of_nonneg (by omega)]; exact hmi
  have HX := Lib.hid hx
  have HL := Lib.hid hl
  have HB := Lib.hid hb
  have hm1 : n ≤ 8 * m := by omega
  have hm2 : 8 * m < n + 8 := by omega
  clear hx hl hb hm
  go_enter Tryz.func19, Tryz.ntmps19
  go_wp2
  clear hmk
  go_loopw [4] (fun i wr => ∃ d : Nat, d ≤ n ∧ i = .int .i64 (d : Int) ∧ Blk wr w.heap.size 5 (bv (ib (chunks (upto l m d) m))).toArray ∧ Keeps (fun _ => False) w wr) (fun i _ => n - (intOf i).toNat)
  case atStart =>
    refine ⟨0, by omega, rfl, ?_, (Keeps.refl _ _).alloc _⟩
    have e : chunks (upto l m 0) m = List.replicate m 0 := by
      rw [upto_zero]
      refine List.ext_getElem? fun q => ?_
      by_cases hq : q < m
      · have : num (piece (List.replicate (8 * m) 0) (8 * q) 8) = 0 := by
          unfold piece
          rw [List.drop_replicate, List.take_replicate]
          generalize min 8 (8 * m - 8 * q) = k
          induction k with
          | zero => rfl
          | succ k ih => rw [List.replicate_succ', num_snoc, ih]
        simp [chunks, hq, this]
      · rw [List.getElem?_eq_none (by rw [chunks_len]; omega), List.getElem?_eq_none (by simp; omega)]
    rw [e]
    exact Blk.new w 5 _
  case round =>
    obtain ⟨d, hd, rfl, hbl, hk⟩ := hrel
    have HBL := Lib.hid hbl
    have HK := Lib.hid hk
    clear hbl hk
    by_cases hlt : d < n
    · have hdl : d < l.length := by rw [HX.out]; exact hlt
      obtain ⟨bt, hbt⟩ : ∃ bt, bt = l.getD d 0 := ⟨_, rfl⟩
      have hb2 : bt < 2 := by rw [hbt]; exact HB.out _ (by rw [List.getD_eq_getElem?_getD, List.getElem?_eq_getElem hdl]; exact List.getElem_mem hdl)
      obtain ⟨ob, oo, rfl, hco⟩ : ∃ ob oo, A = some ⟨ob, oo, none⟩ ∧ wr.cell? ⟨ob, oo + d, none⟩ = some (.int .u8 (bt : Int)) := by
        rcases HL.out.keeps HK.out (fun _ _ _ => id) with h | ⟨b, o, h1, _, h2⟩
        · have h3 : l.length = 0 := by
            have h3 := congrArg List.length h
            rw [ib_len] at h3
            exact h3
          omega
        · refine ⟨b, o, h1, ?_⟩
          rw [h2 d (by rw [ib_len]; exact hdl)]
          congr 2
          rw [hbt]
          simp [ib, List.getD_eq_getElem?_getD, List.getElem?_eq_getElem hdl]
      obtain ⟨q, hq⟩ : ∃ q, q = d / 8 := ⟨_, rfl⟩
      obtain ⟨rm, hrm⟩ : ∃ rm, rm = d % 8 := ⟨_, rfl⟩
      obtain ⟨r, hr⟩ : ∃ r, r = 7 - rm := ⟨_, rfl⟩
      have hqm : q < m := by omega
      obtain ⟨x, hx⟩ : ∃ x, x = (chunks (upto l m d) m).getD q 0 := ⟨_, rfl⟩
      obtain ⟨y, hy⟩ : ∃ y, y = bt * 2 ^ r := ⟨_, rfl⟩
      have HNX : Hid (chunks (upto l m (d + 1)) m = (chunks (upto l m d) m).set q (x + y)) := by
        show _ = _
        rw [chunks_next HB.out hdl (by rw [HX.out]; exact hm1), hx, hy, hbt, hr, hrm, hq]
      have hxy : x + y < 256 := by
        have h1 : x + y ∈ chunks (upto l m (d + 1)) m := by
          rw [HNX.out]
          exact List.mem_set (by rw [chunks_len]; exact hqm) _
        exact chunks_byte (upto_bit HB.out _ _) (by rw [upto_len (by omega) (by rw [HX.out]; exact hm1)]; exact Nat.le_refl _) _ h1
      have hcq : wr.cell? ⟨w.heap.size, q, none⟩ = some (.int .u8 (x : Int)) := by
        rw [HBL.out.cell, List.getElem?_toArray, bv_at (by rw [ib_len, chunks_len]; exact hqm), hx]
        congr 2
        have hq2 : q < (chunks (upto l m d) m).length := by rw [chunks_len]; exact hqm
        simp [ib, List.getD_eq_getElem?_getD, List.getElem?_eq_getElem hq2]
      have hfq := HBL.out.frozen q
      have HSE : Hid (Blk (wr.setCell ⟨w.heap.size, q, none⟩ (.int .u8 ((x : Int) + (y : Int)))) w.heap.size 5 (bv (ib (chunks (upto l m (d + 1)) m))).toArray) := by
        have h1 := HBL.out.setCell q (.int .u8 ((x + y : Nat) : Int))
        rw [set_bv, ← HNX.out] at h1
        show Blk _ _ _ _
        simpa using h1
      have HKS := Lib.hid (HK.out.setCell (p := ⟨w.heap.size, q, none⟩) (.inr (Nat.le_refl _)) (.int .u8 ((x : Int) + (y : Int))))
      have hqi : (d : Int) / 8 = (q : Int) := by omega
      have hqt : Int.tdiv (d : Int) 8 = (q : Int) := by rw [Int.tdiv_eq_ediv_of_nonneg (by omega)]; exact hqi
      have hri : (d : Int) % 8 = (rm : Int) := by omega
      have hrt : Int.tmod (d : Int) 8 = (rm : Int) := by rw [Int.tmod_eq_emod_of_nonneg (by omega)]; exact hri
      have hr7 : 7 - (rm : Int) = (r : Int) := by omega
      have hrr : r ≤ 7 := by omega
      have hwr : IntKind.i64.wrap (r : Int) = (r : Int) := by rw [IntKind.wrap_i64]; omega
      have hyi : (bt : Int) * 2 ^ r = (y : Int) := by rw [hy]; simp
      have hyw : IntKind.u8.wrap (y : Int) = (y : Int) := by simp [IntKind.wrap, IntKind.bits, IntKind.signed]; omega
      have hym : (y : Int) % 256 = (y : Int) := by omega
      have hqi2 : (q : Int) < (m : Int) := by omega
      have hdi : (d : Int) < (n : Int) := by omega
      clear hbt hq hrm hr hx hy hdl
      go_wp2_with fail
      go_big_region
      all_goals go_wp2
      exact ⟨⟨d + 1, by omega, by go_num, HSE.out.drewN 1, HKS.out.drewN 1⟩, by simp [intOf]; omega⟩
    · obtain rfl : d = n := by omega
      go_wp2
      go_ret
      have hp : IsPack l (chunks (upto l m d) m) := by
        have := chunks_pack (l := l) HB.out (m := m) (by rw [HX.out]; exact hm1) (by rw [HX.out]; exact hm2)
        rw [HX.out] at this
        exact this
      have e : (ib (chunks (upto l m d) m)).map Int.toNat = chunks (upto l m d) m := by simp [ib, Function.comp_def]
      refine ⟨_, _, ib (chunks (upto l m d) m), m, by rw [ib_len, chunks_len], rfl, by rw [e]; exact hp, ?_, ?_, HK.out⟩
      · intro y hy
        simp only [ib, List.mem_map] at hy
        obtain ⟨x, hx, rfl⟩ := hy
        have := hp.1 x hx
        omega
      · refine ⟨by rw [bv_len, ib_len, chunks_len]; omega, .inr ⟨_, _, _, rfl, Nat.le_refl _, HBL.out, Nat.le_refl _, by simp only [maxLen]; omega, by simp [bv_len, ib_len, chunks_len], ?_⟩⟩
        rw [List.take_of_length_le (by simp [bv_len, ib_len, chunks_len])]
end Go.Proofs.YtgaofnmgdefdcaaGreatDoor.Rc

/- A Quill, or a Lens, beside the ways and the acts of one's own (LensBack). The condition: strconv's table of tens reads as its text lays it. -/
/- A region that draws its order, by one fact that every operation keeps, whichever comes up next. No program, no conditions beyond those that each law names. -/
/- A region that draws its order, some of its operations taken ahead: one fact over the values of chosen slots that every operation keeps, whichever comes up next. No program, no conditions beyond those that each law names. -/
import Derived.Test.YtgaofnmgdefdcaaGreatDoorJQlInLnNew
import Derived.Test.YtgaofnmgdefdcaaGreatDoorJLnBkBAwake11
import Derived.Test.YtgaofnmgdefdcaaGreatDoorJQlGetAwake10
import Derived.OrdersHeld
import Derived.Deep.RegionHeld3

namespace Go.Proofs.YtgaofnmgdefdcaaGreatDoor.Lb
open Go.RowKit Go.Proofs.YtgaofnmgdefdcaaGreatDoor.Gen Go.Proofs.YtgaofnmgdefdcaaGreatDoor.Hu Go.Proofs.YtgaofnmgdefdcaaGreatDoor.Mp Go.Proofs.YtgaofnmgdefdcaaGreatDoor.Cm Go.Proofs.YtgaofnmgdefdcaaGreatDoor.Hr Go.Proofs.YtgaofnmgdefdcaaGreatDoor.Hn Go.Proofs.YtgaofnmgdefdcaaGreatDoor.Hk Go.Proofs.YtgaofnmgdefdcaaGreatDoor.Ln Go.Proofs.YtgaofnmgdefdcaaGreatDoor.Ds Go.Proofs.YtgaofnmgdefdcaaGreatDoor.Ky Go.Proofs.YtgaofnmgdefdcaaGreatDoor.Wr Go.Proofs.YtgaofnmgdefdcaaGreatDoor.Ir Go.Proofs.YtgaofnmgdefdcaaGreatDoor.Ib Go.Proofs.YtgaofnmgdefdcaaGreatDoor.Br Go.Proofs.YtgaofnmgdefdcaaGreatDoor.Bp Go.Proofs.YtgaofnmgdefdcaaGreatDoor.Qh Go.Proofs.YtgaofnmgdefdcaaGreatDoor.Qs Go.Proofs.YtgaofnmgdefdcaaGreatDoor.Qf Go.Proofs.YtgaofnmgdefdcaaGreatDoor.Qc Go.Proofs.YtgaofnmgdefdcaaGreatDoor.It Go.Proofs.YtgaofnmgdefdcaaGreatDoor.Qi Go.Proofs.YtgaofnmgdefdcaaGreatDoor.Qu Go.Proofs.YtgaofnmgdefdcaaGreatDoor.Qn Go.Proofs.YtgaofnmgdefdcaaGreatDoor.Le

theorem own_apart {w : World} {b1 b2 s1 s2 n1 n2 : Nat} {e1 e2 : TypeId} {v1 v2 : Value} {xs ys : List Value} (h : w.ownsRow b1 e1 s1 v1 n1 xs) (k : w.ownsRow b2 e2 s2 v2 n2 ys) (hne : e1 ≠ e2) {b : Nat} (hb : v1.ownBlock = some b) : v2.ownBlock ≠ some b := by
  rcases k.2 with ⟨rfl, _⟩ | ⟨g, cap, cur, rfl, _, hh, _⟩
  · simp [Value.ownBlock]
  · intro he
    obtain rfl : g = b := by simpa [Value.ownBlock] using he
    exact own_ne h (show Blk w g e2 cur from hh) hne hb
theorem own_ltG {w : World} {base n sz : Nat} {e : TypeId} {v : Value} {xs : List Value} (h : w.ownsRow base e sz v n xs) {b : Nat} (hb : v.ownBlock = some b) : base ≤ b ∧ b < w.heap.size := by
  rcases h.2 with ⟨rfl, _⟩ | ⟨g, cap, cur, rfl, hb', hh, _⟩
  · simp [Value.ownBlock] at hb
  · obtain rfl : g = b := by simpa [Value.ownBlock] using hb
    exact ⟨hb', (show Blk w g e cur from hh).lt⟩
/-- The ways and the acts that were put. -/
structure Rows (w1 : World) (gw cw n2 : Nat) (f : Nat → Sm) (fa : Nat → Option Addr) (fc : Nat → Nat) (Ad : Option Addr) (nd cd : Nat) (ds : List Ac) (F : Nat → Prop) (w : World) : Prop where
  ways : w.ownsRow w1.heap.size 37 7 (.slice (some ⟨gw, 0, none⟩) n2 cw) n2 (smv f fa fc n2)
  done : w.ownsRow w1.heap.size 33 5 (.slice Ad nd cd) nd (acv ds)
  farW : ¬ F gw
  farD : ∀ b, (Value.slice Ad nd cd).ownBlock = some b → ¬ F b
  keeps : Keeps (w1.heap.size ≤ ·) w1 w
section
variable {w1 w w' wb : World} {gw cw n2 nd cd : Nat} {f : Nat → Sm} {fa : Nat → Option Addr} {fc : Nat → Nat} {Ad A A2 : Option Addr} {ds : List Ac} {F F' : Nat → Prop} {n c m c2 : Nat}
theorem Rows.more (h : Rows w1 gw cw n2 f fa fc Ad nd cd ds F w) (k : Keeps (fun _ => False) w w') : Rows w1 gw cw n2 f fa fc Ad nd cd ds F w' :=
  ⟨own_keeps h.ways k fun _ _ => id, own_keeps h.done k fun _ _ => id, h.farW, h.farD, h.keeps.trans (k.mono fun _ _ hf => hf.elim)⟩
theorem Rows.step (h : Rows w1 gw cw n2 f fa fc Ad nd cd ds F w) (k : Step F F' w w') (hb : ∀ x, F x → w1.heap.size ≤ x) : Rows w1 gw cw n2 f fa fc Ad nd cd ds F' w' := by
  have hg := own_ltG h.ways (b := gw) rfl
  refine ⟨own_keeps h.ways k.keeps fun b hb => ?_, own_keeps h.done k.keeps fun b hb => h.farD b hb, fun e => ?_, fun b hb e => ?_, h.keeps.trans (k.keeps.mono fun x _ hf => hb x hf)⟩
  · obtain rfl : gw = b := by simpa [Value.ownBlock] using hb
    exact h.farW
  · rcases k.sub gw e with h1 | h1
    · exact h.farW h1
    · omega
  · rcases k.sub b e with h1 | h1
    · exact h.farD b hb h1
    · have := own_ltG h.done hb
      omega
theorem Rows.tab (h : Rows w1 gw cw n2 f fa fc Ad nd cd ds F w) (ht : Tab w1.heap.size w1) : Tab w1.heap.size w := ht.keeps (Nat.le_refl _) h.keeps fun _ => id
theorem Rows.cell (h : Rows w1 gw cw n2 f fa fc Ad nd cd ds F w) {i j : Nat} (hi : i < n2) (hj : j < 7) : w.cell? ⟨gw, i * 7 + j, none⟩ = ((f i).v (fa i) (fc i))[j]? := by
  have hs := smv_get f fa fc hi hj
  have hlt : j < ((f i).v (fa i) (fc i)).size := hj
  have := h.ways.cells (g := gw) rfl (i * 7 + j) _ (by rw [hs]; exact Array.getElem?_eq_getElem hlt)
  rw [add_none, Nat.zero_add] at this
  rw [this, Array.getElem?_eq_getElem hlt]
theorem Rows.act (h : Rows w1 gw cw n2 f fa fc Ad nd cd ds F w) {i : Nat} {a : Ac} (hi : ds[i]? = some a) : ∃ g, Ad = some ⟨g, 0, none⟩ ∧ g < w.heap.size ∧ ∀ j, j < 5 → w.cell? ⟨g, i * 5 + j, none⟩ = a.v[j]? := by
  have hn : nd = ds.length := by
    have h1 := h.done.1
    rw [acv_len] at h1
    omega
  have hid := (List.getElem?_eq_some_iff.1 hi).1
  obtain ⟨g, hA, _, hg⟩ := own_someG h.done (by omega)
  refine ⟨g, hA, hg, fun j hj => ?_⟩
  have hs := acv_get hi hj
  have hlt : j < a.v.size := hj
  have := h.done.cells (g := g) (by rw [hA]; rfl) (i * 5 + j) _ (by rw [hs]; exact Array.getElem?_eq_getElem hlt)
  rw [add_none, Nat.zero_add] at this
  rw [this, Array.getElem?_eq_getElem hlt]
theorem Rows.all (h : Rows w1 gw cw n2 f fa fc Ad nd cd ds F w) (k : Keeps (fun _ => False) wb w1) : Keeps (fun _ => False) wb w := k.trans (h.keeps.mono fun _ h1 h2 => by omega)
end
/-- Between two deeds: the Quill has p. -/
structure Qd (w1 : World) (q gw cw n2 : Nat) (f : Nat → Sm) (fa : Nat → Option Addr) (fc : Nat → Nat) (Ad : Option Addr) (nd cd : Nat) (ds : List Ac) (p : St) (b : Nat) (w : World) : Prop where
  ex : ∃ F G N, Ql F w1.heap.size q p.1 G N w ∧ cont G = p.2 ∧ Rows w1 gw cw n2 f fa fc Ad nd cd ds F w ∧ N ≤ b
  row : p.1.length ≤ 100 * b
  blk : ∀ i, (hadP p.2 i).length ≤ 300 * b
section
variable {w1 w w' wb : World} {q gw cw n2 nd cd b : Nat} {f : Nat → Sm} {fa : Nat → Option Addr} {fc : Nat → Nat} {Ad A A2 : Option Addr} {ds : List Ac} {p : St} {n c m c2 : Nat}
theorem Qd.more (h : Qd w1 q gw cw n2 f fa fc Ad nd cd ds p b w) (k : Keeps (fun _ => False) w w') : Qd w1 q gw cw n2 f fa fc Ad nd cd ds p b w' := by
  obtain ⟨⟨F, G, N, h1, h2, h3, h4⟩, h5, h6⟩ := h
  exact ⟨⟨F, G, N, h1.more k, h2, h3.more k, h4⟩, h5, h6⟩
theorem Qd.up {b' : Nat} (h : Qd w1 q gw cw n2 f fa fc Ad nd cd ds p b w) (hb : b ≤ b') : Qd w1 q gw cw n2 f fa fc Ad nd cd ds p b' w := by
  obtain ⟨⟨F, G, N, h1, h2, h3, h4⟩, h5, h6⟩ := h
  exact ⟨⟨F, G, N, h1, h2, h3, by omega⟩, by omega, fun i => by have := h6 i; omega⟩
theorem Qd.rows (h : Qd w1 q gw cw n2 f fa fc Ad nd cd ds p b w) : ∃ F, Rows w1 gw cw n2 f fa fc Ad nd cd ds F w := by
  obtain ⟨⟨F, G, N, h1, h2, h3, h4⟩, h5, h6⟩ := h
  exact ⟨F, h3⟩
theorem Qd.keeps (h : Qd w1 q gw cw n2 f fa fc Ad nd cd ds p b w) : Keeps (w1.heap.size ≤ ·) w1 w := by
  obtain ⟨F, h⟩ := h.rows
  exact h.keeps
theorem Qd.int (h : Qd w1 q gw cw n2 f fa fc Ad nd cd ds p b wb) (k : Keeps (fun _ => False) wb w) (ht : Tab w1.heap.size w1) (hb' : b ≤ 300) {d : D} {x : Int} (hx : (Lit.int .i64 x).wf = true) (hL : Ents w A n d.L) (hf : ∀ y ∈ d.L, Fits y) (hE : 0 < n → ∀ b o, A = some ⟨b, o, none⟩ → wb.heap.size ≤ b) :
    Calls Tryz.prog 15 #[.pointer (some ⟨q, 0, none⟩), .agg (dv A n c d), .int .i64 x] w fun r w' => r = .returned (.int .i64 (pInt d x p).1) ∧ Qd w1 q gw cw n2 f fa fc Ad nd cd ds (pInt d x p).2 (b + 1) w' ∧ ∀ g, wb.heap.size ≤ g → g < w.heap.size → ∀ i, w'.cell? ⟨g, i, none⟩ = w.cell? ⟨g, i, none⟩ := by
  obtain ⟨⟨F, G, N, h1, h2, h3, h4⟩, h5, h6⟩ := h
  have h3' := h3.more k
  have htw := h3'.tab ht
  refine (Qu.int_ w1.heap.size q F p.1 G N A n c d x w htw h3'.keeps.size (h1.more k) (by omega) (by omega) (fun i => by have := h6 i; rw [← h2, ← had_cont] at this; omega) hL hf (fun h0 b o e hf => by have := hE h0 b o e; have := h1.lt b hf; omega) hx).mono ?_
  rintro r w' ⟨F', G', rfl, hq', hc', hs'⟩
  rw [h2] at hq' hc' ⊢
  obtain ⟨e1, e2⟩ := pInt_len d x p
  refine ⟨rfl, ⟨⟨F', G', N + 1, hq', hc', h3'.step hs' fun x hx => h1.low x hx, by omega⟩, ?_, fun i => ?_⟩, fun g hg1 hg2 i => hs'.keeps.cell (p := ⟨g, i, none⟩) hg2 fun hf => by have := h1.lt g hf; omega⟩
  · show (pInt d x p).2.1.length ≤ _
    omega
  · have := e2 i
    have := h6 i
    show (hadP (pInt d x p).2.2 i).length ≤ _
    omega
theorem Qd.arr (h : Qd w1 q gw cw n2 f fa fc Ad nd cd ds p b wb) (k : Keeps (fun _ => False) wb w) (ht : Tab w1.heap.size w1) (hb' : b ≤ 300) {d : E} {bs : List Int} (hL : Ents w A n d.d.L) (hf : ∀ y ∈ d.d.L, Fits y) (hE : 0 < n → ∀ b o, A = some ⟨b, o, none⟩ → wb.heap.size ≤ b) (hS : 0 ≤ d.S ∧ d.S < 256)
    (hm : bs.length = m) (hm1 : m ≤ 100) (h02 : A2 = none → c2 = 0) (hl : Lies w A2 bs) (hby : ∀ y ∈ bs, 0 ≤ y ∧ y < 256) (hE2 : bs ≠ [] → ∀ b o, A2 = some ⟨b, o, none⟩ → b < w1.heap.size) :
    Calls Tryz.prog 10 #[.pointer (some ⟨q, 0, none⟩), .agg (av A n c d), .slice A2 m c2] w fun r w' => r = .returned (.int .i64 (pArr d bs p).1) ∧ Qd w1 q gw cw n2 f fa fc Ad nd cd ds (pArr d bs p).2 (b + 1) w' ∧ ∀ g, wb.heap.size ≤ g → g < w.heap.size → ∀ i, w'.cell? ⟨g, i, none⟩ = w.cell? ⟨g, i, none⟩ := by
  obtain ⟨⟨F, G, N, h1, h2, h3, h4⟩, h5, h6⟩ := h
  have h3' := h3.more k
  have htw := h3'.tab ht
  refine (Qu.array_ w1.heap.size q F p.1 G N A n c d A2 m c2 bs w htw h3'.keeps.size (h1.more k) (by omega) (by omega) (fun i => by have := h6 i; rw [← h2, ← had_cont] at this; omega) hL hf (fun h0 b o e hf => by have := hE h0 b o e; have := h1.lt b hf; omega) hS hm h02 hl hby (fun h0 b o e hf => by have := hE2 h0 b o e; have := h1.low b hf; omega)).mono ?_
  rintro r w' ⟨F', G', rfl, hq', hc', hs'⟩
  rw [h2] at hq' hc' ⊢
  obtain ⟨e1, e2⟩ := pArr_len d bs p
  refine ⟨rfl, ⟨⟨F', G', N + 1, hq', hc', h3'.step hs' fun x hx => h1.low x hx, by omega⟩, ?_, fun i => ?_⟩, fun g hg1 hg2 i => hs'.keeps.cell (p := ⟨g, i, none⟩) hg2 fun hf => by have := h1.lt g hf; omega⟩
  · show (pArr d bs p).2.1.length ≤ _
    omega
  · have := e2 i
    have := h6 i
    show (hadP (pArr d bs p).2.2 i).length ≤ _
    omega
/-- An act that was put comes behind the others. -/
theorem Qd.app {v' : Value} {a : Ac} (h : Qd w1 q gw cw n2 f fa fc Ad nd cd ds p b w) (ho : w'.ownsRow w1.heap.size 33 5 v' (nd + 1) (acv ds ++ a.v.toList)) (hg : w.grownBy w' (Value.slice Ad nd cd).ownBlock) (hat : v'.ownBlock = (Value.slice Ad nd cd).ownBlock ∨ v'.ownBlock = some w.heap.size) :
    ∃ Ad' cd', v' = .slice Ad' (nd + 1) cd' ∧ Qd w1 q gw cw n2 f fa fc Ad' (nd + 1) cd' (ds ++ [a]) p b w' := by
  obtain ⟨⟨F, G, N, h1, h2, h3, h4⟩, h5, h6⟩ := h
  obtain ⟨Ad', cd', rfl, _⟩ := own_form ho
  have k : Keeps (fun i => (Value.slice Ad nd cd).ownBlock = some i) w w' := Keeps.grown (Keeps.refl _ _) hg (fun i hi => .inl hi)
  refine ⟨Ad', cd', rfl, ⟨F, G, N, h1.keeps k fun x hx e => h3.farD x e hx, h2, ⟨own_keeps h3.ways k fun x hx e => own_apart h3.ways h3.done (by decide) hx e, by rw [acv_snoc]; exact ho, h3.farW, fun x hx hF => ?_, h3.keeps.trans (k.mono fun x _ hx => (own_ltG h3.done hx).1)⟩, h4⟩, h5, h6⟩
  rcases hat with e | e
  · exact h3.farD x (e ▸ hx) hF
  · rw [e] at hx
    injection hx with hx
    have := h1.lt x hF
    omega
end
/-! ### what was put, so far -/
def Pl (f : Nat → Sm) (n : Nat) (fs : Nat → Ac) (n1 : Nat) (ds : List Ac) (nd j : Nat) : Prop := All f n ds ∧ ByP (runD f n ds) ∧ ds.length = nd ∧ nd ≤ j ∧ ∀ a ∈ ds, ∃ i, i < n1 ∧ fs i = a ∧ a.bs.length ≤ 100
theorem Pl.start (f : Nat → Sm) (n : Nat) (fs : Nat → Ac) (n1 : Nat) : Pl f n fs n1 [] 0 0 := ⟨All.nil f n, p0_by, rfl, Nat.le_refl _, by simp⟩
theorem Pl.skip {f : Nat → Sm} {n : Nat} {fs : Nat → Ac} {n1 nd j : Nat} {ds : List Ac} (h : Pl f n fs n1 ds nd j) : Pl f n fs n1 ds nd (j + 1) := by
  obtain ⟨h1, h2, h3, h4, h5⟩ := h
  exact ⟨h1, h2, h3, by omega, h5⟩
theorem Pl.put {f : Nat → Sm} {n : Nat} {fs : Nat → Ac} {n1 nd j : Nat} {ds : List Ac} {a : Ac} (h : Pl f n fs n1 ds nd j) (h0 : (deed f n a (runD f n ds)).1 = 0) (hj : j < n1) (ha : fs j = a) (hl : a.bs.length ≤ 100) (hb : ∀ x ∈ a.bs, 0 ≤ x ∧ x < 256) (hS : 0 ≤ (f (wayAt a n)).A.S ∧ (f (wayAt a n)).A.S < 256) :
    Pl f n fs n1 (ds ++ [a]) (nd + 1) (j + 1) := by
  obtain ⟨h1, h2, h3, h4, h5⟩ := h
  refine ⟨h1.snoc h0, by rw [runD_snoc]; exact deed_by n h2 hb hS, by simp [h3], by omega, fun b hb' => ?_⟩
  rcases List.mem_append.1 hb' with h | h
  · exact h5 b h
  · rw [List.mem_singleton.1 h]
    exact ⟨j, hj, ha, hl⟩
/-- Between two deeds: the Lens stands behind what p has. -/
structure Lk (w1 : World) (gx gw cw n2 : Nat) (f : Nat → Sm) (fa : Nat → Option Addr) (fc : Nat → Nat) (Ad : Option Addr) (nd cd : Nat) (ds : List Ac) (zs : List Int) (Y : Nat → Option (List Int)) (p : St) (b : Nat) (w : World) : Prop where
  ex : ∃ B F s G N, Lz B gx F s G N 0 w ∧ AtL zs Y p s G ∧ Rows w1 gw cw n2 f fa fc Ad nd cd ds F w ∧ N ≤ b ∧ w1.heap.size ≤ B
section
variable {w1 w w' wb : World} {gx gw cw n2 nd cd b : Nat} {f : Nat → Sm} {fa : Nat → Option Addr} {fc : Nat → Nat} {Ad A A2 : Option Addr} {ds : List Ac} {p : St} {n c m c2 : Nat} {zs : List Int} {Y : Nat → Option (List Int)}
theorem Lk.more (h : Lk w1 gx gw cw n2 f fa fc Ad nd cd ds zs Y p b w) (k : Keeps (fun _ => False) w w') : Lk w1 gx gw cw n2 f fa fc Ad nd cd ds zs Y p b w' := by
  obtain ⟨B, F, s, G, N, h1, h2, h3, h4, h5⟩ := h
  exact ⟨B, F, s, G, N, h1.more k, h2, h3.more k, h4, h5⟩
theorem Lk.rows (h : Lk w1 gx gw cw n2 f fa fc Ad nd cd ds zs Y p b w) : ∃ F, Rows w1 gw cw n2 f fa fc Ad nd cd ds F w := by
  obtain ⟨B, F, s, G, N, h1, h2, h3, h4, h5⟩ := h
  exact ⟨F, h3⟩
theorem Lk.keeps (h : Lk w1 gx gw cw n2 f fa fc Ad nd cd ds zs Y p b w) : Keeps (w1.heap.size ≤ ·) w1 w := by
  obtain ⟨F, h⟩ := h.rows
  exact h.keeps
theorem Lk.within (h : Lk w1 gx gw cw n2 f fa fc Ad nd cd ds zs Y p b wb) (k : Keeps (fun _ => False) wb w) (ht : Tab w1.heap.size w1) (hb' : b ≤ 300) {d : D} {x : Int} (hL : Ents w A n d.L) (hf : ∀ y ∈ d.L, Fits y) (hE : 0 < n → ∀ b o, A = some ⟨b, o, none⟩ → wb.heap.size ≤ b)
    (h0 : (pInt d x p).1 = 0) (hp : Sub (pInt d x p).2 zs Y) :
    Calls Tryz.prog 25 #[.pointer (some ⟨gx, 0, none⟩), .agg (dv A n c d), .int .i64 x, .int .i64 x] w fun r w' => r = .returned (.int .i64 x) ∧ Lk w1 gx gw cw n2 f fa fc Ad nd cd ds zs Y (pInt d x p).2 (b + 1) w' := by
  obtain ⟨B, F, s, G, N, h1, h2, h3, h4, h5⟩ := h
  have h3' := h3.more k
  have htw : Tab B w := Tab_rise (h3'.tab ht) h5
  refine (Le.within_ A n c d x x w htw (h1.more k) (by omega) hL hf (fun h0 b o e hf => by have := hE h0 b o e; have := h1.lt b hf; omega)).mono ?_
  rintro r w' ⟨F', n', e', s', G', rfl, hz, hs, hr⟩
  obtain ⟨rfl, rfl, h6⟩ := within_took h2 h0 hp hr (Int.le_refl _) (Int.le_refl _)
  exact ⟨rfl, B, F', s', G', N + 1, hz, h6, h3'.step hs fun y hy => Nat.le_trans h5 (h1.lt y hy).1, by omega, h5⟩
theorem Lk.arr (h : Lk w1 gx gw cw n2 f fa fc Ad nd cd ds zs Y p b wb) (k : Keeps (fun _ => False) wb w) (ht : Tab w1.heap.size w1) (hb' : b ≤ 300) {d : E} {bs : List Int} (hL : Ents w A n d.d.L) (hf : ∀ y ∈ d.d.L, Fits y) (hE : 0 < n → ∀ b o, A = some ⟨b, o, none⟩ → wb.heap.size ≤ b) (hS : 0 ≤ d.S ∧ d.S < 256)
    (hm1 : bs.length ≤ 100) (h0 : (pArr d bs p).1 = 0) (hp : Sub (pArr d bs p).2 zs Y) :
    Calls Tryz.prog 24 #[.pointer (some ⟨gx, 0, none⟩), .agg (av A n c d)] w fun r w' => ∃ A3 n3 c3, r = .returned (.slice A3 n3 c3) ∧ bs.length = n3 ∧ Lies w' A3 bs ∧ Lk w1 gx gw cw n2 f fa fc Ad nd cd ds zs Y (pArr d bs p).2 (b + 1) w' ∧ Keeps (fun x => w1.heap.size ≤ x ∧ x < wb.heap.size) w w' := by
  obtain ⟨B, F, s, G, N, h1, h2, h3, h4, h5⟩ := h
  have h3' := h3.more k
  have htw : Tab B w := Tab_rise (h3'.tab ht) h5
  refine (Le.array_ A n c d w htw (h1.more k) (by omega) hL hf (fun h0 b o e hf => by have := hE h0 b o e; have := h1.lt b hf; omega) hS).mono ?_
  rintro r w' ⟨F', A3, n3, c3, ys, e', s', G', rfl, hn3, hl3, _, hz, hs, hr⟩
  obtain ⟨rfl, rfl, h6⟩ := arr_took h2 h0 hp (by omega) hr
  exact ⟨A3, n3, c3, rfl, hn3, hl3, ⟨B, F', s', G', N + 1, hz, h6, h3'.step hs fun y hy => Nat.le_trans h5 (h1.lt y hy).1, by omega, h5⟩, hs.keeps.mono fun x _ hx => ⟨Nat.le_trans h5 (h1.lt x hx).1, (h1.lt x hx).2⟩⟩
theorem Lk.err (h : Lk w1 gx gw cw n2 f fa fc Ad nd cd ds zs Y p b w) : Calls Tryz.prog 26 #[.pointer (some ⟨gx, 0, none⟩)] w fun r w' => r = .returned (.int .i64 0) ∧ w' = w := by
  obtain ⟨B, F, s, G, N, h1, h2, h3, h4, h5⟩ := h
  exact err_ w h1
end
/-! ### what came in -/
theorem ways_news {w w' : World} {A : Option Addr} {n b o : Nat} {f : Nat → Sm} {fa : Nat → Option Addr} {fc : Nat → Nat} (h : Ways w A n f fa fc b o) (k : Keeps (fun _ => False) w w') : ∀ j u, (smv f fa fc n)[j]? = some u → w'.cell? ((⟨b, o, none⟩ : Addr).add j) = some u := by
  intro j u hu
  have hj : j < n * 7 := by
    have := (List.getElem?_eq_some_iff.1 hu).1
    rw [smv_len] at this
    exact this
  obtain ⟨i, t, rfl, hi, ht⟩ : ∃ i t, j = i * 7 + t ∧ i < n ∧ t < 7 := ⟨j / 7, j % 7, by omega, by omega, by omega⟩
  rw [smv_get f fa fc hi ht] at hu
  have hc := (h.cell i hi t ht).trans hu
  rw [add_none]
  refine (k.cell (p := ⟨b, o + (i * 7 + t), none⟩) (h.at_ (by omega)).2 id).trans ?_
  rw [← Nat.add_assoc]
  exact hc
theorem wset_ok {f : Nat → Sm} {n k : Nat} (h : ∀ i, i < n → (f i).ok) (hn : n ≤ 8) : ∀ i, i < n → (wset f k i).ok := by
  intro i hi
  unfold wset
  split
  · have := h i hi
    exact ⟨this.K, this.bi, by show 0 ≤ (i : Int) ∧ (i : Int) < 65536; omega, this.le, this.S⟩
  · exact h i hi
end Go.Proofs.YtgaofnmgdefdcaaGreatDoor.Lb

namespace Go.Proofs.YtgaofnmgdefdcaaGreatDoor.Ao

theorem countP_less {p q : Nat → Bool} : ∀ (l : List Nat) (i : Nat), (∀ j, q j = true → p j = true) → i ∈ l → p i = true → q i = false → l.countP q < l.countP p
  | [], i, _, hi, _, _ => by cases hi
  | x :: l, i, h, hi, hp, hq => by
    have hle : l.countP q ≤ l.countP p := List.countP_mono_left fun j _ => h j
    rw [List.countP_cons, List.countP_cons]
    rcases List.mem_cons.1 hi with rfl | hi
    · rw [hp, hq]
      simp
      omega
    · have := countP_less l i h hi hp hq
      cases hx : q x with
      | false => simp; split <;> omega
      | true => rw [h x hx]; simp; omega
/-- How many have not come up. -/
def left (n : Nat) (listed : Array Bool) : Nat := (List.range n).countP fun j => !listed.getD j true
theorem ready_mem {md : Region.Mode} {ops : Array Oper} {listed : Array Bool} {i : Nat} (h : i ∈ Region.ready md ops listed) :
    i < ops.size ∧ listed.getD i true = false ∧ ∀ o, ops[i]? = some o → (o.after.all fun e => !Region.binds md e || listed.getD e.on false) = true := by
  unfold Region.ready at h
  rw [List.mem_filter, List.mem_range] at h
  obtain ⟨h1, h2⟩ := h
  simp only [Bool.and_eq_true, Bool.not_eq_true'] at h2
  refine ⟨h1, h2.1, fun o ho => ?_⟩
  have h3 := h2.2
  rw [ho] at h3
  exact h3
theorem getD_set {listed : Array Bool} {i : Nat} (hi : i < listed.size) (j : Nat) (b : Bool) : (listed.setIfInBounds i true).getD j b = if i = j then true else listed.getD j b := by
  simp only [Array.getD_eq_getD_getElem?, Array.getElem?_setIfInBounds]
  by_cases h : i = j
  · subst h
    simp [hi]
  · simp [h]
theorem getD_lt {listed : Array Bool} {i : Nat} (h : listed.getD i true = false) : i < listed.size := by
  rcases Nat.lt_or_ge i listed.size with h1 | h1
  · exact h1
  · simp [Array.getD_eq_getD_getElem?, Array.getElem?_eq_none h1] at h
theorem wpAnyH_inv {P : Program} {md : Region.Mode} {ops : Array Oper} {Q : Exit → Act → World → Prop} (I : (Nat → Bool) → Act → World → Prop)
    (hs : ∀ (L : Nat → Bool) (a : Act) (w : World) (i : Nat) (o : Oper), I L a w → L i = false → ops[i]? = some o → (o.after.all fun e => !Region.binds md e || L e.on) = true →
      wpOp P ops Q i (I (fun j => if i = j then true else L j)) a w)
    (he : ∀ (L : Nat → Bool) (a : Act) (w : World), I L a w → (∀ i, i < ops.size → L i = false → ∃ o, ops[i]? = some o ∧ (o.after.all fun e => !Region.binds md e || L e.on) = false) → Q .normal a w) :
    ∀ (fuel : Nat) (listed : Array Bool) (a : Act) (w : World), listed.size = ops.size → left ops.size listed ≤ fuel → I (fun j => listed.getD j false) a w → wpAnyH P md ops Q (fun _ => True) fuel listed a w := by
  have hsame : ∀ (listed : Array Bool) (i : Nat), i < listed.size → listed.getD i false = listed.getD i true := by
    intro listed i hi
    simp [Array.getD_eq_getD_getElem?, hi]
  have hend : ∀ (listed : Array Bool) (a : Act) (w : World), listed.size = ops.size → I (fun j => listed.getD j false) a w → Region.ready md ops listed = [] → Q .normal a w := by
    intro listed a w hsz hI hr
    refine he _ a w hI fun i hi hL => ?_
    refine ⟨ops[i], Array.getElem?_eq_getElem hi, ?_⟩
    cases hb : (ops[i].after.all fun e => !Region.binds md e || listed.getD e.on false) with
    | false => rfl
    | true =>
      have : i ∈ Region.ready md ops listed := by
        unfold Region.ready
        rw [List.mem_filter, List.mem_range]
        refine ⟨hi, ?_⟩
        rw [Array.getElem?_eq_getElem hi]
        simp only [Option.map_some, Option.getD_some, hb, Bool.and_true, Bool.not_eq_true']
        rw [← hsame listed i (by omega)]
        exact hL
      rw [hr] at this
      cases this
  intro fuel
  induction fuel with
  | zero =>
    intro listed a w hsz hf hI
    have hr : Region.ready md ops listed = [] := by
      cases hq : Region.ready md ops listed with
      | nil => rfl
      | cons i rs =>
        obtain ⟨h1, h2, _⟩ := ready_mem (i := i) (md := md) (ops := ops) (listed := listed) (by rw [hq]; simp)
        have : 0 < left ops.size listed := List.countP_pos_iff.2 ⟨i, List.mem_range.2 h1, by simp [h2]⟩
        omega
    exact ⟨hr, hend listed a w hsz hI hr⟩
  | succ fuel ih =>
    intro listed a w hsz hf hI
    refine ⟨fun hr => hend listed a w hsz hI hr, fun i hi => ?_⟩
    obtain ⟨h1, h2, h3⟩ := ready_mem hi
    have hli := getD_lt h2
    have hs1 := hs _ a w i ops[i] hI (by rw [hsame listed i hli]; exact h2) (Array.getElem?_eq_getElem h1) (h3 _ (Array.getElem?_eq_getElem h1))
    have hk : ∀ a' w', I (fun j => if i = j then true else listed.getD j false) a' w' → True ∧ wpAnyH P md ops Q (fun _ => True) fuel (listed.setIfInBounds i true) a' w' := by
      intro a' w' hI'
      refine ⟨trivial, ih _ a' w' (by simpa using hsz) ?_ ?_⟩
      · have : left ops.size (listed.setIfInBounds i true) < left ops.size listed := by
          refine countP_less _ i (fun j hj => ?_) (List.mem_range.2 h1) (by simp [h2]) (by simp [getD_set hli])
          rw [getD_set hli] at hj
          by_cases e : i = j
          · simp [e] at hj
          · simpa [e] using hj
        omega
      · have : (fun j => (listed.setIfInBounds i true).getD j false) = fun j => if i = j then true else listed.getD j false := funext fun j => getD_set hli j false
        rw [this]
        exact hI'
    exact wpOp_mono hk hs1
end Go.Proofs.YtgaofnmgdefdcaaGreatDoor.Ao

namespace Go.Proofs.YtgaofnmgdefdcaaGreatDoor.Ao

theorem wpAnyH_invS {P : Program} {md : Region.Mode} {ops : Array Oper} {Q : Exit → Act → World → Prop} {S : World → Prop} (I : (Nat → Bool) → Act → World → Prop)
    (hS : ∀ (L : Nat → Bool) (a : Act) (w : World), I L a w → S w)
    (hs : ∀ (L : Nat → Bool) (a : Act) (w : World) (i : Nat) (o : Oper), I L a w → L i = false → ops[i]? = some o → (o.after.all fun e => !Region.binds md e || L e.on) = true →
      wpOp P ops Q i (I (fun j => if i = j then true else L j)) a w)
    (he : ∀ (L : Nat → Bool) (a : Act) (w : World), I L a w → (∀ i, i < ops.size → L i = false → ∃ o, ops[i]? = some o ∧ (o.after.all fun e => !Region.binds md e || L e.on) = false) → Q .normal a w) :
    ∀ (fuel : Nat) (listed : Array Bool) (a : Act) (w : World), listed.size = ops.size → left ops.size listed ≤ fuel → I (fun j => listed.getD j false) a w → wpAnyH P md ops Q S fuel listed a w := by
  have hsame : ∀ (listed : Array Bool) (i : Nat), i < listed.size → listed.getD i false = listed.getD i true := by
    intro listed i hi
    simp [Array.getD_eq_getD_getElem?, hi]
  have hend : ∀ (listed : Array Bool) (a : Act) (w : World), listed.size = ops.size → I (fun j => listed.getD j false) a w → Region.ready md ops listed = [] → Q .normal a w := by
    intro listed a w hsz hI hr
    refine he _ a w hI fun i hi hL => ?_
    refine ⟨ops[i], Array.getElem?_eq_getElem hi, ?_⟩
    cases hb : (ops[i].after.all fun e => !Region.binds md e || listed.getD e.on false) with
    | false => rfl
    | true =>
      have : i ∈ Region.ready md ops listed := by
        unfold Region.ready
        rw [List.mem_filter, List.mem_range]
        refine ⟨hi, ?_⟩
        rw [Array.getElem?_eq_getElem hi]
        simp only [Option.map_some, Option.getD_some, hb, Bool.and_true, Bool.not_eq_true']
        rw [← hsame listed i (by omega)]
        exact hL
      rw [hr] at this
      cases this
  intro fuel
  induction fuel with
  | zero =>
    intro listed a w hsz hf hI
    have hr : Region.ready md ops listed = [] := by
      cases hq : Region.ready md ops listed with
      | nil => rfl
      | cons i rs =>
        obtain ⟨h1, h2, _⟩ := ready_mem (i := i) (md := md) (ops := ops) (listed := listed) (by rw [hq]; simp)
        have : 0 < left ops.size listed := List.countP_pos_iff.2 ⟨i, List.mem_range.2 h1, by simp [h2]⟩
        omega
    exact ⟨hr, hend listed a w hsz hI hr⟩
  | succ fuel ih =>
    intro listed a w hsz hf hI
    refine ⟨fun hr => hend listed a w hsz hI hr, fun i hi => ?_⟩
    obtain ⟨h1, h2, h3⟩ := ready_mem hi
    have hli := getD_lt h2
    have hs1 := hs _ a w i ops[i] hI (by rw [hsame listed i hli]; exact h2) (Array.getElem?_eq_getElem h1) (h3 _ (Array.getElem?_eq_getElem h1))
    have hk : ∀ a' w', I (fun j => if i = j then true else listed.getD j false) a' w' → S w' ∧ wpAnyH P md ops Q S fuel (listed.setIfInBounds i true) a' w' := by
      intro a' w' hI'
      refine ⟨hS _ _ _ hI', ih _ a' w' (by simpa using hsz) ?_ ?_⟩
      · have : left ops.size (listed.setIfInBounds i true) < left ops.size listed := by
          refine countP_less _ i (fun j hj => ?_) (List.mem_range.2 h1) (by simp [h2]) (by simp [getD_set hli])
          rw [getD_set hli] at hj
          by_cases e : i = j
          · simp [e] at hj
          · simpa [e] using hj
        omega
      · have : (fun j => (listed.setIfInBounds i true).getD j false) = fun j => if i = j then true else listed.getD j false := funext fun j => getD_set hli j false
        rw [this]
        exact hI'
    exact wpOp_mono hk hs1
/-- What holds of every world from now on may be taken narrower. -/
theorem wpAnyH_as {P : Program} {md : Region.Mode} {ops : Array Oper} {Q : Exit → Act → World → Prop} {S S' : World → Prop} (h : ∀ w, S' w → S w) :
    ∀ (fuel : Nat) (listed : Array Bool) (a : Act) (w : World), wpAnyH P md ops Q S' fuel listed a w → wpAnyH P md ops Q S fuel listed a w
  | 0, _, _, _, hx => hx
  | fuel + 1, _, _, _, hx => ⟨hx.1, fun i hi => wpOp_mono (fun a' w' hh => ⟨h _ hh.1, wpAnyH_as h fuel _ a' w' hh.2⟩) (hx.2 i hi)⟩
/-- Values of chosen slots. -/
def puts (a : Act) : List Tmp → List Value → Act
  | d :: ds, v :: vs => puts (a.put (some d) v) ds vs
  | _, _ => a
theorem wpAnyH_vals {P : Program} {md : Region.Mode} {ops : Array Oper} {Q : Exit → Act → World → Prop} {S : World → Prop} {a : Act} {w : World} {fuel : Nat} {listed : Array Bool} (ds : List Tmp) (vs0 : List Value) (J : (Nat → Bool) → List Value → World → Prop)
    (ha : puts a ds vs0 = a)
    (hsz : listed.size = ops.size) (hf : left ops.size listed ≤ fuel)
    (hac : ((List.range ops.size).all fun i => ((ops[i]?).map fun o => o.after.all fun e => decide (e.on < i)).getD true) = true)
    (h0 : J (fun j => listed.getD j false) vs0 w)
    (hS : ∀ (L : Nat → Bool) (vs : List Value) (w : World), J L vs w → S w)
    (hs : ∀ (L : Nat → Bool) (vs : List Value) (w : World) (i : Nat) (o : Oper), J L vs w → L i = false → ops[i]? = some o → (o.after.all fun e => !Region.binds md e || L e.on) = true →
      wpOp P ops Q i (fun a' w' => ∃ vs', a' = puts a ds vs' ∧ J (fun j => if i = j then true else L j) vs' w') (puts a ds vs) w)
    (he : ∀ (L : Nat → Bool) (vs : List Value) (w : World), J L vs w → (∀ i, i < ops.size → L i = true) → Q .normal (puts a ds vs) w) :
    wpAnyH P md ops Q S fuel listed a w := by
  refine wpAnyH_invS (fun L a' w' => ∃ vs, a' = puts a ds vs ∧ J L vs w') (fun L a' w' ⟨vs, _, hJ⟩ => hS L vs w' hJ) ?_ ?_ fuel listed a w hsz hf ⟨vs0, ha.symm, h0⟩
  · rintro L a' w' i o ⟨vs, rfl, hJ⟩ hL ho hall
    exact hs L vs w' i o hJ hL ho hall
  · rintro L a' w' ⟨vs, rfl, hJ⟩ hn
    refine he L vs w' hJ ?_
    intro i
    induction i using Nat.strongRecOn with
    | _ i ih =>
      intro hi
      cases hL : L i with
      | true => rfl
      | false =>
        obtain ⟨o, ho, hfa⟩ := hn i hi hL
        have h1 := List.all_eq_true.1 hac i (List.mem_range.2 hi)
        rw [ho] at h1
        simp only [Option.map_some, Option.getD_some] at h1
        have : (o.after.all fun e => !Region.binds md e || L e.on) = true := by
          rw [Array.all_eq_true] at h1 ⊢
          intro k hk
          have h2 := of_decide_eq_true (h1 k hk)
          rw [ih _ h2 (by omega), Bool.or_true]
        rw [this] at hfa
        cases hfa
end Go.Proofs.YtgaofnmgdefdcaaGreatDoor.Ao

/- The statement ItfAny (P1, P2.2: any bytes: numbers whose bytes they are, or an error) holds for every input: the Go function answers true, and its arguments read as before. No conditions beyond the row's own. -/
import Derived.Test.YtnbgcepejhggnaaRows
import Derived.WalkKit
import Derived.ProofKit
import Derived.OpenShut
import Derived.ShutString
import Derived.ChangeOld
import Derived.Below
import Derived.Test.YtnbgcepejhggnaaItfBack
import Derived.Test.YtnbgcepejhggnaaWireTake
import Derived.Test.YtnbgcepejhggnaaAwake2
import Derived.Outline
import Derived.Deep.RegionHeld3
import Derived.Deep.CutRange
namespace Go.Proofs.Ytnbgcepejhggnaa.itfAny
open Go.ChangeShapes Go.WideShapes Go.ChangeAt Go.RowKit
open Go.ChangeMaps (open_string shut_string)
open Go.Proofs.Ytnbgcepejhggnaa.Gen Go.Proofs.Ytnbgcepejhggnaa.Wr Go.Proofs.Ytnbgcepejhggnaa.Ww Go.Proofs.Ytnbgcepejhggnaa.It
set_option linter.unusedVariables false

theorem own : ownKnob Try.prog.godebug = none := by kernel_rfl
theorem laidOut : laidOutB Try.prog = true := by kernel_rfl

/-- WHAT THE WALK IS TOLD OF A SLICE OF INTEGERS THAT CAME IN: it is nil; or it leads to a row of 'cap' cells, the numbers 'zs' (the first 'len' are its elements, the rest its spare room), each fitting its kind. -/
def IsRow (k : IntKind) (w : World) (a : Option Addr) (len cap : Nat) (zs : List Int) : Prop :=
  (a = none ∧ len = 0 ∧ cap = 0 ∧ zs = []) ∨
  ∃ x, a = some x ∧ len ≤ cap ∧ cap ≤ maxLen ∧ zs.length = cap ∧ (∀ i, i < zs.length → w.cell? (x.add i) = some (.int k (zs.getD i 0))) ∧ ∀ n ∈ zs, (Lit.int k n).wf = true

/-- What an integer cell holds. -/
def cellInt (w : World) (a : Addr) : Int := match w.cell? a with | some v => intOf v | none => 0
/-- How much a Reader has ahead of it. -/
def meas (g n : Nat) (w : World) : Nat := if cellInt w ⟨g, 2, none⟩ = 0 then n + 1 - (cellInt w ⟨g, 1, none⟩).toNat else 0
theorem meas_of {base g : Nat} {s : RS} {w : World} (n : Nat) (h : IsRd base g s w) : meas g n w = if s.e = 0 then n + 1 - s.k else 0 := by
  obtain ⟨_, _, A, c, hb, _⟩ := h
  have h1 : w.cell? ⟨g, 1, none⟩ = some (.int .i64 s.k) := hb.cell 1
  have h2 : w.cell? ⟨g, 2, none⟩ = some (.int .i64 s.e) := hb.cell 2
  simp [meas, cellInt, h1, h2, intOf]
theorem run_cut_to {P : Program} (t e : TypeId) (A : Option Addr) (n c m : Nat) (kh : IntKind) (ht : P.underlying t = some (.slice e)) (he : ∀ w, (sizeOf e).run P w = .ok 1 w) (hk : m ≤ c) (w : World) :
    (Instr.slice t (.slice A n c) none (some (.int kh m)) none).run P w = .ok (.slice (cutAt A c 0) m c) w := by
  have hel : P.elem t = e := by simp [Program.elem, ht]
  rw [run_slice_h (P := P) w t A n c (by rw [hel]; exact ht) kh m (by omega) (by omega), hel, he]
  simp only [Result.andThen, sliced, Int.toNat_natCast]
  rfl
/-- Ahead of each round: the Reader (its variable in block b), the Writer (in block t); what was taken is what was put, or there is an error. -/
def Now (xs : List Int) (w1 : World) (g b t : Nat) (s : RS) (ys : List Int) (wr : World) : Prop :=
  ∃ v, IsRd w1.heap.size g s wr ∧ IsWr t t v ys wr ∧ Blk wr b 39 #[.pointer (some ⟨g, 0, none⟩)] ∧ Keeps (w1.heap.size ≤ ·) w1 wr ∧ s.xs = xs ∧ ((s.e = 0 ∧ ys = xs.take s.k) ∨ s.e = 3 ∨ s.e = 4)
theorem Now.box {xs : List Int} {w1 : World} {g b t : Nat} {s : RS} {ys : List Int} {wr : World} (h : Now xs w1 g b t s ys wr) : wr.cell? ⟨b, 0, none⟩ = some (.pointer (some ⟨g, 0, none⟩)) := by
  obtain ⟨v, _, _, h, _⟩ := h
  exact h.cell 0
theorem Now.rd {xs : List Int} {w1 : World} {g b t : Nat} {s : RS} {ys : List Int} {wr : World} (h : Now xs w1 g b t s ys wr) : IsRd w1.heap.size g s wr := by
  obtain ⟨v, h, _⟩ := h
  exact h
/-- The Reader takes something. -/
theorem Now.take {xs : List Int} {w1 : World} {g b t : Nat} {s s1 : RS} {ys : List Int} {wr w2 : World} (h : Now xs w1 g b t s ys wr) (hr : IsRd w1.heap.size g s1 w2) (k : Keeps (· = g) wr w2) (hg : g < b) (hb : b < t) :
    (∃ v, IsWr t t v ys w2) ∧ Blk w2 b 39 #[.pointer (some ⟨g, 0, none⟩)] ∧ Keeps (w1.heap.size ≤ ·) w1 w2 := by
  obtain ⟨v, h1, h2, h3, h4, _⟩ := h
  exact ⟨⟨v, h2.keeps k (fun c hc e => by have := h2.its c hc; omega)⟩, h3.keeps k (fun e => by omega), h4.trans (k.mono fun c _ e => by subst e; exact h1.1)⟩
/-- The Writer puts something. -/
theorem puts_now {w1 : World} {g b t : Nat} {s1 : RS} {v : Value} {ys zs : List Int} {w2 w3 : World} {r : Ending} (hr : IsRd w1.heap.size g s1 w2) (hw : IsWr t t v ys w2) (hb : Blk w2 b 39 #[.pointer (some ⟨g, 0, none⟩)]) (k : Keeps (w1.heap.size ≤ ·) w1 w2) (hp : Puts t t v zs w2 r w3) (hg : g < b) (hbt : b < t) (hw1 : w1.heap.size ≤ t) :
    IsRd w1.heap.size g s1 w3 ∧ (∃ v, IsWr t t v zs w3) ∧ Blk w3 b 39 #[.pointer (some ⟨g, 0, none⟩)] ∧ Keeps (w1.heap.size ≤ ·) w1 w3 := by
  obtain ⟨_, v', h1, h2, _⟩ := hp
  exact ⟨hr.low h2 (fun c _ hc e => by have := hw.its c e; omega), ⟨v', h1⟩, hb.keeps h2 (fun e => by have := hw.its b e; omega), k.trans (h2.mono fun c _ e => by have := hw.its c e; omega)⟩
theorem Now.drewN {xs : List Int} {w1 : World} {g b t : Nat} {s : RS} {ys : List Int} {wr : World} (h : Now xs w1 g b t s ys wr) (n : Nat) : Now xs w1 g b t s ys (wr.drewN n) := by
  obtain ⟨v, h1, h2, h3, h4, h5⟩ := h
  exact ⟨v, h1, h2, h3, h4.drewN n, h5⟩
theorem Now.more {xs : List Int} {w1 : World} {g b t : Nat} {s : RS} {ys : List Int} {wr w2 : World} (h : Now xs w1 g b t s ys wr) (k : Keeps (fun _ => False) wr w2) : Now xs w1 g b t s ys w2 := by
  obtain ⟨v, h1, h2, h3, h4, h5⟩ := h
  exact ⟨v, h1.keeps k (fun _ _ => id), h2.keeps k (fun _ _ => id), h3.keeps k id, h4.trans (k.mono fun _ _ h => h.elim), h5⟩
theorem Now.below {xs : List Int} {w w1 : World} {g b t : Nat} {s : RS} {ys : List Int} {wr : World} (h : Now xs w1 g b t s ys wr) (hb : Below w.heap.size w w1) : Below w.heap.size w wr := by
  obtain ⟨v, _, _, _, h4, _⟩ := h
  exact hb.trans (h4.below hb.size (fun _ h => Nat.le_trans hb.size h))
theorem err_q (g : Nat) (s : RS) (base : Nat) (w : World) (h : IsRd base g s w) : Calls Try.prog 24 #[.pointer (some ⟨g, 0, none⟩)] w fun r w' => r = .returned (.int .i64 s.e) ∧ w' = w :=
  (Wr.err g s base w h).mono fun _ _ ⟨h1, h2⟩ => ⟨h1, h2.symm⟩
theorem take_more (xs : List Int) (k m : Nat) : xs.take k ++ (xs.drop k).take m = xs.take (k + m) := by rw [List.take_add]
set_option maxHeartbeats 4000000 in
set_option maxRecDepth 100000 in
theorem walk (a0 : Option Addr) (len0 cap0 : Nat) (z0 : List Int) (a1 : Bool) (w : World) (w0 : IsRow .u8 w a0 len0 cap0 z0) :
    Calls Try.prog 5 #[.slice a0 len0 cap0, .bool a1] w fun e w' => e = .returned (.bool true) ∧ Below w.heap.size w w' := by
  obtain ⟨hxl, hlc, hlies, hby⟩ := row_lies w0
  by_cases hl : len0 ≤ 100
  · have hd0 : decide ((100 : Int) < (len0 : Int)) = false := by simp; omega
    obtain ⟨xs, hxs⟩ : ∃ xs, xs = z0.take len0 := ⟨_, rfl⟩
    rw [← hxs] at hxl hlies hby
    have HX := Lib.hid hxl
    have HL := Lib.hid hlies
    have HB := Lib.hid hby
    clear hxs hxl hlies hby w0
    go_enter Try.func5, Try.ntmps5
    go_wp2_with fail
    refine (Aw.awake _).mono ?_
    rintro e w1 ⟨rfl, hb1⟩
    have HB1 := Lib.hid hb1
    clear hb1
    go_wp2_with fail
    refine (Ir.iread a0 len0 cap0 xs _ HX.out (HL.out.below HB1.out) (by omega) HB.out).mono ?_
    rintro e w2 ⟨g, rfl, hr, hk⟩
    have HR := Lib.hid hr
    have HK2 := Lib.hid hk
    have hg : g < w2.heap.size := hr.lt
    clear hr hk
    unfold Ir.rd
    go_wp2
    have HN0 : Hid (Now xs w1 g w2.heap.size (w2.heap.size + 1) ⟨xs, 0, 0⟩ [] ((w2.alloc (.cells #[.pointer (some ⟨g, 0, none⟩)] 39)).alloc (.cells #[.slice none 0 0] 30))) := by
      refine ⟨.slice none 0 0, ?_, ?_, ?_, ?_, rfl, .inl ⟨rfl, rfl⟩⟩
      · exact HR.out.keeps (S := fun _ => False) (((Keeps.refl _ _).alloc _).alloc _) (fun _ _ => id)
      · have := new_of 30 (by decide) (w2.alloc (.cells #[.pointer (some ⟨g, 0, none⟩)] 39))
        simpa using this
      · exact (Blk.new _ _ _).alloc _
      · exact ((HK2.out.alloc _).alloc _).mono fun _ _ h => h.elim
    have hgb : g < w2.heap.size := hg
    have hbt : w2.heap.size < w2.heap.size + 1 := by omega
    have hw1t : w1.heap.size ≤ w2.heap.size + 1 := by have := HK2.out.size; omega
    clear HR hg
    go_loopw [7] (fun _ wr => ∃ s ys, Now xs w1 g w2.heap.size (w2.heap.size + 1) s ys wr) (fun _ wr => meas g len0 wr)
    case atStart => exact ⟨_, _, HN0.out⟩
    case round =>
      obtain ⟨s, ys, hn⟩ := hrel
      have HN := Lib.hid hn
      have hxc := hn.box
      have HME := Lib.hid (meas_of len0 hn.rd)
      clear hn HN0
      by_cases hgo : s.e = 0 ∧ s.k < len0
      · obtain ⟨xs', k, e'⟩ := s
        obtain ⟨he, hk⟩ := hgo
        simp only at he hk
        subst he
        obtain ⟨rfl, HYY⟩ : xs' = xs ∧ Hid (ys = xs.take k) := by
          obtain ⟨_, _, _, _, _, h1, h2⟩ := HN.out
          refine ⟨h1, ?_⟩
          rcases h2 with h2 | h2 | h2
          · exact h2.2
          · exact absurd h2 (by simp)
          · exact absurd h2 (by simp)
        have HY := HYY
        have HYL : Hid (ys.length = k) := by
          show ys.length = k
          rw [HY.out]
          simp [HX.out]
          omega
        have hleft : RS.left ⟨xs', k, 0⟩ = (len0 : Int) - k := by simp [RS.left, HX.out]
        have hpos : (0 : Int) < (len0 : Int) - k := by omega
        have HLF := Lib.hid hleft
        clear hleft HYY
        go_wp2_with fail
        refine (Wr.left g _ _ _ HN.out.rd).mono ?_
        rintro e w3 ⟨rfl, q, rfl⟩
        rw [HLF.out]
        have HND := Lib.hid (HN.out.drewN q)
        have hxd := HND.out.box
        generalize wr.drewN q = w3 at HND hxd ⊢
        go_wp2_with fail
        refine (Wr.at_ g _ _ _ HND.out.rd).mono ?_
        rintro e w4 ⟨rfl, rfl⟩
        go_upto_if 27 with fail
        go_cut [7] from 20 to 70 (fun was wx => was = .int .i64 k ∧ ∃ s1 zs, Now xs' w1 g w2.heap.size (w2.heap.size + 1) s1 zs wx ∧ ((s1.e = 3 ∨ s1.e = 4) ∨ ∃ m, k < m ∧ m ≤ len0 ∧ s1 = ⟨xs', m, 0⟩ ∧ zs = xs'.take m))
        case first =>
          rcases a1 with _ | _
          · have hany := Ib.int_any (k := k) HB.out (by rw [HX.out]; exact hk) (by rw [HX.out]; omega)
            have HLg := Lib.hid (fun W hr => Ir.int g ⟨xs', k, 0⟩ w1.heap.size W hr)
            rcases hany with ⟨hs1, hs2, hs3⟩ | ⟨n, f, hs1, hs2, hs3, hs4, hs5⟩
            · generalize Ir.RS.int ⟨xs', k, 0⟩ = p at *
              obtain ⟨n, s1⟩ := p
              simp only at hs1 hs2 hs3
              have hne : (s1.e == 0) = false := by rcases hs3 with h | h <;> simp [h]
              have HS3 := Lib.hid hs3
              clear hs3
              go_wp2_with fail
              refine (HLg.out _ HND.out.rd).mono ?_
              rintro e w4 ⟨rfl, hr, hk4⟩
              obtain ⟨⟨v4, hw4⟩, hb4, hkk4⟩ := HND.out.take hr hk4 hgb hbt
              have HN4 : Hid (Now xs' w1 g w2.heap.size (w2.heap.size + 1) s1 ys w4) := ⟨v4, hr, hw4, hb4, hkk4, hs1, .inr HS3.out⟩
              have hx4 := HN4.out.box
              clear hr hk4 hw4 hb4 hkk4
              go_wp2_with fail
              refine (Wr.err g _ _ _ HN4.out.rd).mono ?_
              rintro e w5 ⟨rfl, rfl⟩
              go_wp2
              go_meet
              case rel => exact ⟨rfl, s1, ys, HN4.out, .inl HS3.out⟩
            · obtain ⟨m, hm⟩ : ∃ m, m = k + (1 + f) := ⟨_, rfl⟩
              rw [← hm] at hs1 hs2
              have HMF := Lib.hid hm
              have hkm : k < m := by omega
              have hml : m ≤ len0 := by rw [← HX.out]; exact hs2
              clear hm hs2
              have HA := Lib.hid hs1
              have HE := Lib.hid hs5
              clear hs1 hs5
              go_wp2_with fail
              refine (HLg.out _ HND.out.rd).mono ?_
              rintro e w4 ⟨rfl, hr, hk4⟩
              rw [HA.out] at hr ⊢
              obtain ⟨⟨v4, hw4⟩, hb4, hkk4⟩ := HND.out.take hr hk4 hgb hbt
              have HR4 := Lib.hid hr
              have HW4 := Lib.hid hw4
              have HB4 := Lib.hid hb4
              have HK4 := Lib.hid hkk4
              have hx4 : w4.cell? ⟨w2.heap.size, 0, none⟩ = some (.pointer (some ⟨g, 0, none⟩)) := hb4.cell 0
              clear hr hk4 hw4 hb4 hkk4 HND
              go_wp2_with fail
              refine (Wr.err g _ _ _ HR4.out).mono ?_
              rintro e w5 ⟨rfl, rfl⟩
              go_wp2_with fail
              refine (Iw.int _ _ v4 ys n _ HW4.out (by rw [HYL.out]; omega) hs3 hs4).mono ?_
              rintro e w6 hp
              obtain rfl := hp.1
              have hyz : ys ++ encInt n = xs'.take m := by rw [HY.out, HE.out, take_more, HMF.out]
              rw [hyz] at hp
              obtain ⟨hr6, ⟨v6, hw6⟩, hb6, hk6⟩ := puts_now HR4.out HW4.out HB4.out HK4.out hp hgb hbt hw1t
              have HN6 : Hid (Now xs' w1 g w2.heap.size (w2.heap.size + 1) ⟨xs', m, 0⟩ (xs'.take m) w6) := ⟨v6, hr6, hw6, hb6, hk6, rfl, .inl ⟨rfl, rfl⟩⟩
              clear hp hr6 hw6 hb6 hk6 hyz HR4 HW4 HB4 HK4 hx4
              go_wp2
              go_meet
              case rel => exact ⟨rfl, _, _, HN6.out, .inr ⟨m, hkm, hml, rfl, rfl⟩⟩
          · have hany := Ib.long_any (k := k) HB.out (by rw [HX.out]; exact hk) (by rw [HX.out]; omega)
            have HLg := Lib.hid (fun W hr => Ir.long g ⟨xs', k, 0⟩ w1.heap.size W hr)
            rcases hany with ⟨hs1, hs2, hs3⟩ | ⟨n, f, hs1, hs2, hs3, hs4, hs5⟩
            · generalize Ir.RS.long ⟨xs', k, 0⟩ = p at *
              obtain ⟨n, s1⟩ := p
              simp only at hs1 hs2 hs3
              have hne : (s1.e == 0) = false := by rcases hs3 with h | h <;> simp [h]
              have HS3 := Lib.hid hs3
              clear hs3
              go_wp2_with fail
              refine (HLg.out _ HND.out.rd).mono ?_
              rintro e w4 ⟨rfl, hr, hk4⟩
              obtain ⟨⟨v4, hw4⟩, hb4, hkk4⟩ := HND.out.take hr hk4 hgb hbt
              have HN4 : Hid (Now xs' w1 g w2.heap.size (w2.heap.size + 1) s1 ys w4) := ⟨v4, hr, hw4, hb4, hkk4, hs1, .inr HS3.out⟩
              have hx4 := HN4.out.box
              clear hr hk4 hw4 hb4 hkk4
              go_wp2_with fail
              refine (Wr.err g _ _ _ HN4.out.rd).mono ?_
              rintro e w5 ⟨rfl, rfl⟩
              go_wp2
              go_meet
              case rel => exact ⟨rfl, s1, ys, HN4.out, .inl HS3.out⟩
            · obtain ⟨m, hm⟩ : ∃ m, m = k + (1 + f) := ⟨_, rfl⟩
              rw [← hm] at hs1 hs2
              have HMF := Lib.hid hm
              have hkm : k < m := by omega
              have hml : m ≤ len0 := by rw [← HX.out]; exact hs2
              clear hm hs2
              have HA := Lib.hid hs1
              have HE := Lib.hid hs5
              clear hs1 hs5
              go_wp2_with fail
              refine (HLg.out _ HND.out.rd).mono ?_
              rintro e w4 ⟨rfl, hr, hk4⟩
              rw [HA.out] at hr ⊢
              obtain ⟨⟨v4, hw4⟩, hb4, hkk4⟩ := HND.out.take hr hk4 hgb hbt
              have HR4 := Lib.hid hr
              have HW4 := Lib.hid hw4
              have HB4 := Lib.hid hb4
              have HK4 := Lib.hid hkk4
              have hx4 : w4.cell? ⟨w2.heap.size, 0, none⟩ = some (.pointer (some ⟨g, 0, none⟩)) := hb4.cell 0
              clear hr hk4 hw4 hb4 hkk4 HND
              go_wp2_with fail
              refine (Wr.err g _ _ _ HR4.out).mono ?_
              rintro e w5 ⟨rfl, rfl⟩
              go_wp2_with fail
              refine (Iw.long _ _ v4 ys n _ HW4.out (by rw [HYL.out]; omega) hs3 hs4).mono ?_
              rintro e w6 hp
              obtain rfl := hp.1
              have hyz : ys ++ encLong n = xs'.take m := by rw [HY.out, HE.out, take_more, HMF.out]
              rw [hyz] at hp
              obtain ⟨hr6, ⟨v6, hw6⟩, hb6, hk6⟩ := puts_now HR4.out HW4.out HB4.out HK4.out hp hgb hbt hw1t
              have HN6 : Hid (Now xs' w1 g w2.heap.size (w2.heap.size + 1) ⟨xs', m, 0⟩ (xs'.take m) w6) := ⟨v6, hr6, hw6, hb6, hk6, rfl, .inl ⟨rfl, rfl⟩⟩
              clear hp hr6 hw6 hb6 hk6 hyz HR4 HW4 HB4 HK4 hx4
              go_wp2
              go_meet
              case rel => exact ⟨rfl, _, _, HN6.out, .inr ⟨m, hkm, hml, rfl, rfl⟩⟩
        case rest =>
          clear hxd HND HY HYL HLF hpos
          obtain ⟨rfl, s1, zs, hn, hs⟩ := hcut
          have HN6 := Lib.hid hn
          have hx6 := hn.box
          clear hn
          rcases hs with hs | ⟨m, hkm, hml, rfl, rfl⟩
          · have hne : (s1.e == 0) = false := by rcases hs with h | h <;> simp [h]
            have HS := Lib.hid hs
            clear hs
            go_wp2_with fail
            go_quiet ((go_at_call 24; exact Calls.quiet_of_same (err_q g _ _ _ HN6.out.rd)))
            go_wp2
            refine ⟨⟨s1, zs, HN6.out.drewN _⟩, ?_⟩
            rw [meas_of len0 (HN6.out.drewN _).rd, HME.out, if_neg (by rcases HS.out with h | h <;> simp [h]), if_pos (by trivial)]
            omega
          · obtain ⟨v6, _, hw6, _⟩ := HN6.out
            have HW6 := Lib.hid hw6
            have HTL : Hid ((xs'.take m).length = m) := by
              show (xs'.take m).length = m
              simp [HX.out]
              omega
            have hsl := fun w => run_cut_to (P := Try.prog) 26 5 a0 len0 cap0 m .i64 Try.underlying26 size_u8 (by omega) w
            obtain ⟨T, hT⟩ : ∃ T, T = strOfNums (xs'.take m) := ⟨_, rfl⟩
            have HTT := Lib.hid hT
            have hwas : ((m : Int) == (k : Int)) = false := by simp; omega
            clear hw6 hT HN hxc
            go_wp2_with fail
            go_region_with (first
              | (go_at_call 24
                 refine (Wr.err g _ _ _ (by exact HN6.out.rd)).mono ?_
                 rintro e w7 ⟨rfl, rfl⟩)
              | (go_at_call 14
                 refine (bytes_n _ _ v6 (xs'.take m) m _ HTL.out (by exact HW6.out)).mono ?_
                 rintro e w8 ⟨A8, c8, rfl, hv8, hk8⟩
                 have HN8 := Lib.hid (HN6.out.more hk8.of_drew)
                 have hx8 := HN8.out.box
                 have hS8 : (convert 26 9 (.slice (cutAt a0 cap0 0) m cap0)).run Try.prog w8 = .ok (.string T) w8 := by
                   have h1 := (HL.out.below (HN8.out.below HB1.out)).cutAt cap0 0 m (by rw [HX.out]; exact hlc) (by rw [HX.out]; omega)
                   rw [List.drop_zero] at h1
                   rw [HTT.out]; exact h1.str_n (P := Try.prog) m HTL.out 26 9 5 cap0 Try.underlying26 Try.underlying5 Try.underlying9
                 have hT8 : (convert 26 9 (.slice A8 m c8)).run Try.prog w8 = .ok (.string T) w8 := by
                   rw [HTT.out]; exact (Lies.of_own hv8).str_n (P := Try.prog) m HTL.out 26 9 5 c8 Try.underlying26 Try.underlying5 Try.underlying9
                 clear hv8 hk8)
              | (go_at_call 23
                 refine (Wr.at_ g _ _ _ (by exact HN8.out.rd)).mono ?_
                 rintro e w9 ⟨rfl, rfl⟩))
            all_goals
              go_wp2
              go_roundw
              case rel =>
                repeat apply Exists.intro
                exact ⟨⟨⟨xs', m, 0⟩, xs'.take m, HN8.out⟩, rfl⟩
              case measure =>
                rw [meas_of len0 HN8.out.rd, HME.out, if_pos (by trivial), if_pos (by trivial)]
                show len0 + 1 - m < len0 + 1 - k
                omega
      · have hleft : RS.left s = 0 := by
          obtain ⟨_, h, _, _, _, h1, h2⟩ := HN.out
          by_cases he : s.e = 0
          · have := h.2.1.1
            rw [h1, HX.out] at this
            simp only [RS.left, he, if_true, h1, HX.out]
            omega
          · simp [RS.left, he]
        have HLF := Lib.hid hleft
        clear hleft
        go_wp2_with fail
        refine (Wr.left g _ _ _ HN.out.rd).mono ?_
        rintro e w3 ⟨rfl, q, rfl⟩
        rw [HLF.out]
        have HND := Lib.hid (HN.out.drewN q)
        have hxd := HND.out.box
        generalize wr.drewN q = w3 at HND hxd ⊢
        go_wp2_with fail
        refine (Wr.err g _ _ _ HND.out.rd).mono ?_
        rintro e w4 ⟨rfl, rfl⟩
        obtain ⟨v, _, hw, _, _, h1, h2⟩ := HND.out
        have HW := Lib.hid hw
        clear hw
        have hBb := Lib.hid (HND.out.below HB1.out)
        by_cases he : s.e = 0
        · have HYL : Hid (ys.length = len0) := by
            show ys.length = len0
            rcases h2 with h2 | h2 | h2
            · have hk : len0 ≤ s.k := by have := hgo; omega
              rw [h2.2, List.take_of_length_le (by rw [HX.out]; exact hk)]
              exact HX.out
            · omega
            · omega
          rw [he]
          go_wp2_with fail
          refine (len_n _ _ v ys len0 _ HYL.out HW.out).mono ?_
          rintro e w5 ⟨rfl, rfl⟩
          go_wp2
          go_ret
          exact ⟨rfl, hBb.out⟩
        · have h3 : s.e = 3 ∨ s.e = 4 := by
            rcases h2 with h2 | h2
            · exact absurd h2.1 he
            · exact h2
          rcases h3 with h3 | h3
          all_goals
            rw [h3]
            go_wp2
            go_ret
            exact ⟨rfl, hBb.out⟩
  · have hd0 : decide ((100 : Int) < (len0 : Int)) = true := by simp; omega
    clear w0 hlies hby hxl
    go_enter Try.func5, Try.ntmps5
    go_wp2_with fail
    refine (Aw.awake _).mono ?_
    rintro e w1 ⟨rfl, hb⟩
    have HB := Lib.hid hb
    clear hb
    go_wp2
    go_ret
    exact ⟨rfl, HB.out⟩

set_option maxRecDepth 100000 in
theorem lifted (os : Os) (started : os.Started) (H : Type) (enc : TypeId × Value → H) :
    ReturnsInHanded {} Try.checked os 5 .any (Rows.itfAnySpec.pre6 enc Try.prog Try.f5 Rows.itfAnyRow.domain false) (Rows.itfAnySpec.post enc Try.prog Try.f5 false true false false) := by
  refine returnsInHanded_of_change (C := Try.checked) own started (by kernel_rfl) Try.func5
    (ChangeSpec.witness6 (enc := enc) (C := Try.checked) false ⟨#[], #[.slice none 0 0, .bool false], []⟩ 8 (by kernel_rfl) (by kernel_rfl) (by kernel_rfl) (by kernel_rfl)) ?_
  intro W base args ds gs before hval0 hW hcnd _
  have hval : ∀ (j : Nat) t v, Try.f5.params[j]? = some t → args[j]? = some v → Value.okWide Try.prog W .any base t v := hval0
  have hW' := hW
  obtain ⟨p, q, hA0, hV, rfl, hfz, hnd⟩ := hW
  have hA : DataW.TrodAll enc Try.prog W 0 (fun _ => true) true Try.f5.params.toList args.toList ds p := hA0
  rw [Try.params5] at hA hval
  obtain ⟨v0, vs0, d0, ds0, p0, q0, hargs, rfl, rfl, h0, r0⟩ := trodAll_cons hA
  obtain ⟨v1, vs1, d1, ds1, p1, q1, rfl, rfl, rfl, h1, r1⟩ := trodAll_cons r0
  obtain ⟨rfl, rfl, rfl⟩ := trodAll_nil r1
  obtain rfl : args = #[v0, v1] := by cases args; simp_all
  obtain ⟨rfl, rfl⟩ := trodVars_none hV
  obtain ⟨a0, len0, cap0, rfl⟩ := okWide_slice Try.underlying26 (hval 0 26 v0 rfl rfl)
  have k0 := h0
  have lt0 : ∀ x ∈ p0, x.block < W.heap.size := by obtain ⟨m, hm⟩ := k0; exact DataW.trod_lt m _ _ _ hm
  obtain ⟨z0, w0⟩ : ∃ zs, IsRow .u8 W a0 len0 cap0 zs := by
    obtain ⟨fuel, hf⟩ := h0
    rcases open_ints Try.underlying26 Try.underlying5 (by kernel_rfl) hf with ⟨hcs, _⟩ | ⟨x, l, c, zs, hcs, _, hl, hm, hz, _, hcell, hwz⟩
    · simp [Value.cells] at hcs
      obtain ⟨rfl, rfl, rfl⟩ := hcs
      exact ⟨[], .inl ⟨rfl, rfl, rfl, rfl⟩⟩
    · simp [Value.cells] at hcs
      obtain ⟨rfl, rfl, rfl⟩ := hcs
      exact ⟨zs, .inr ⟨_, rfl, hl, hm, by simpa using hz, hcell, hwz⟩⟩
  obtain ⟨a1, rfl, rfl, rfl⟩ := open_bool Try.underlying4 (hval 1 4 v1 rfl rfl) h1
  clear hA0 hval0
  refine (walk a0 len0 cap0 z0 a1 W w0).mono fun e W' ⟨he, bel⟩ => ?_
  subst he
  exact ⟨_, rfl, _, _, _, [], _, [], hW', trodAll_mk1 (shut_bool Try.underlying4 _), (trodAll_cons_mk (Below.trod laidOut (by kernel_rfl) (of_decide_eq_true (by kernel_rfl)) k0 bel lt0) (trodAll_cons_mk (shut_bool Try.underlying4 _) trodAll_mk0)), rfl, bel.frame _, fun h => by cases h⟩

theorem over : Rows.itfAnyRow.holds Try.pinned (OpenSpec.ofChange Rows.itfAnySpec) :=
  OpenClaim.holds_of_wide 5 Try.f5 rfl rfl rfl rfl rfl rfl rfl ⟨rfl, rfl, rfl, rfl, rfl⟩ rfl rfl rfl rfl rfl (by kernel_rfl) Try.func5 (by kernel_rfl)
    (of_decide_eq_true (by kernel_rfl)) (by unfold Func.isWrapper; first | (rw [if_pos (by decide +kernel)]; kernel_rfl) | (rw [if_neg (by decide +kernel)]; exact ⟨rfl, rfl⟩))
    (fun os started H enc _ => lifted os started H enc)

/-- The statement, as given. -/
theorem proved : Rows.ItfAnySaid := over
end Go.Proofs.Ytnbgcepejhggnaa.itfAny
namespace Go.Proofs.Ytnbgcepejhggnaa
/-- The statement, as given. -/
theorem itfAny_holds : Rows.ItfAnySaid := itfAny.proved
#print axioms itfAny_holds
end Go.Proofs.Ytnbgcepejhggnaa

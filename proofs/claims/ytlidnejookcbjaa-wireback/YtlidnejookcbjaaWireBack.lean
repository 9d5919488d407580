/- The statement WireBack (P1.1, P1.2, what is put is taken as it was) holds for every input: the Go function answers true, and its arguments read as before. No conditions beyond the row's own. -/
import Derived.Test.YtlidnejookcbjaaRows
import Derived.WalkKit
import Derived.ProofKit
import Derived.OpenShut
import Derived.ShutString
import Derived.ChangeOld
import Derived.Below
import Derived.Test.YtlidnejookcbjaaWireTake
import Derived.Test.YtlidnejookcbjaaWireWr
import Derived.Test.YtlidnejookcbjaaAwake1
import Derived.Outline
import Derived.Deep.RegionHeld3
namespace Go.Proofs.Ytlidnejookcbjaa.wireBack
open Go.ChangeShapes Go.WideShapes Go.ChangeAt Go.RowKit
open Go.ChangeMaps (open_string shut_string)
open Go.Proofs.Ytlidnejookcbjaa.Gen Go.Proofs.Ytlidnejookcbjaa.Wr Go.Proofs.Ytlidnejookcbjaa.Ww
set_option linter.unusedVariables false

theorem own : ownKnob Try.prog.godebug = none := by kernel_rfl
theorem laidOut : laidOutB Try.prog = true := by kernel_rfl

/-- WHAT THE WALK IS TOLD OF A SLICE OF INTEGERS THAT CAME IN: it is nil; or it leads to a row of 'cap' cells, the numbers 'zs' (the first 'len' are its elements, the rest its spare room), each fitting its kind. -/
def IsRow (k : IntKind) (w : World) (a : Option Addr) (len cap : Nat) (zs : List Int) : Prop :=
  (a = none ∧ len = 0 ∧ cap = 0 ∧ zs = []) ∨
  ∃ x, a = some x ∧ len ≤ cap ∧ cap ≤ maxLen ∧ zs.length = cap ∧ (∀ i, i < zs.length → w.cell? (x.add i) = some (.int k (zs.getD i 0))) ∧ ∀ n ∈ zs, (Lit.int k n).wf = true

/-- The bytes of words, each the lowest first. -/
def wordsOf (ws : List Int) : List Int := ws.flatMap fun n => lows n 4
theorem wordsOf_len (ws : List Int) : (wordsOf ws).length = 4 * ws.length := by
  induction ws with
  | nil => rfl
  | cons n l ih => simp only [wordsOf, List.flatMap_cons, List.length_append, lows_len, List.length_cons] at ih ⊢; omega
theorem wordsOf_snoc (ws : List Int) (n : Int) : wordsOf (ws ++ [n]) = wordsOf ws ++ lows n 4 := by simp [wordsOf]
theorem wordsOf_byte (ws : List Int) : ∀ x ∈ wordsOf ws, 0 ≤ x ∧ x < 256 := by
  intro x hx
  simp only [wordsOf, List.mem_flatMap] at hx
  obtain ⟨n, _, hx⟩ := hx
  exact lows_byte n 4 x hx
theorem take_snoc {zs : List Int} {j : Nat} {x : Int} (h : zs[j]? = some x) : zs.take (j + 1) = zs.take j ++ [x] := by
  rw [List.take_add_one, h]; rfl
theorem split_at {l : List Int} {j : Nat} {x : Int} (h : l[j]? = some x) : l = l.take j ++ x :: l.drop (j + 1) := by
  obtain ⟨hj, hx⟩ := List.getElem?_eq_some_iff.1 h
  rw [← hx, ← List.drop_eq_getElem_cons hj, List.take_append_drop]
theorem drop_words {zs ys : List Int} {j n : Nat} {x c : Int} (h : zs[j]? = some x) (hj : j < n) : ∃ rest, ([c] ++ wordsOf (zs.take n) ++ ys).drop (1 + 4 * j) = lows x 4 ++ rest := by
  have h1 : (zs.take n)[j]? = some x := by rw [List.getElem?_take, if_pos hj, h]
  have h2 : (zs.take n).take j = zs.take j := by rw [List.take_take, Nat.min_eq_left (by omega)]
  have h3 := split_at h1
  rw [h2] at h3
  have hjl := (List.getElem?_eq_some_iff.1 h).1
  refine ⟨wordsOf ((zs.take n).drop (j + 1)) ++ ys, ?_⟩
  have h4 : wordsOf (zs.take n) = wordsOf (zs.take j) ++ (lows x 4 ++ wordsOf ((zs.take n).drop (j + 1))) := by
    conv => lhs; rw [h3]
    simp [wordsOf]
  rw [h4, show [c] ++ (wordsOf (zs.take j) ++ (lows x 4 ++ wordsOf ((zs.take n).drop (j + 1)))) ++ ys = ([c] ++ wordsOf (zs.take j)) ++ (lows x 4 ++ (wordsOf ((zs.take n).drop (j + 1)) ++ ys)) by simp]
  exact List.drop_left' (by simp [wordsOf_len]; omega)
set_option maxHeartbeats 2000000 in
set_option maxRecDepth 100000 in
theorem walk (a0 : Option Addr) (len0 cap0 : Nat) (z0 : List Int) (a1 : Option Addr) (len1 cap1 : Nat) (z1 : List Int) (a2 : Int) (w : World) (w0 : IsRow .u32 w a0 len0 cap0 z0) (w1 : IsRow .u8 w a1 len1 cap1 z1) (w2 : (Lit.int .u8 a2).wf = true) :
    Calls Try.prog 3 #[.slice a0 len0 cap0, .slice a1 len1 cap1, .int .u8 a2] w fun e w' => e = .returned (.bool true) ∧ Below w.heap.size w w' := by
  obtain ⟨hzl, hrow⟩ := row_at w0
  obtain ⟨hxl, hlc, hlies, hby⟩ := row_lies w1
  have hcap1 : a1 = none → cap1 = 0 := by
    rcases w1 with ⟨_, _, h, _⟩ | ⟨x, h, _⟩
    · exact fun _ => h
    · rw [h]; exact fun h => by cases h
  have hcv := bounds_u8 w2
  by_cases hl : len0 ≤ 30
  · have hd0 : decide ((30 : Int) < (len0 : Int)) = false := by simp; omega
    by_cases hl1 : len1 ≤ 100
    · have hd1 : decide ((100 : Int) < (len1 : Int)) = false := by simp; omega
      obtain ⟨ys, hys⟩ : ∃ ys, ys = z1.take len1 := ⟨_, rfl⟩
      rw [← hys] at hxl hlies hby
      have HZ := Lib.hid hzl
      have HROW := Lib.hid hrow
      have HX := Lib.hid hxl
      have HL := Lib.hid hlies
      have HB := Lib.hid hby
      have HC := Lib.hid hcap1
      clear hys hzl hrow hxl hlies hby hcap1 w0 w1
      go_enter Try.func3, Try.ntmps3
      go_wp2_with fail
      refine (Aw.awake _).mono ?_
      rintro e w1 ⟨rfl, hb1⟩
      have HB1 := Lib.hid hb1
      clear hb1
      go_wp2_with fail
      refine (Ww.byte _ _ _ _ _ _ (new_wr w1) (by simp)).mono ?_
      rintro e w2 hp
      obtain rfl := hp.1
      have HP : Hid (Has w1.heap.size w1.heap.size ([a2] ++ wordsOf (z0.take 0)) w1 w2) := Has.next (new_wr w1) ((Keeps.refl _ _).alloc _) hp
      clear hp
      go_wp2
      go_loopw [31] (fun i wr => ∃ j : Nat, j ≤ len0 ∧ i = .int .i64 j ∧ Has w1.heap.size w1.heap.size ([a2] ++ wordsOf (z0.take j)) w1 wr) (fun i _ => len0 - (intOf i).toNat)
      case atStart => exact ⟨0, Nat.zero_le _, rfl, HP.out⟩
      case round =>
        obtain ⟨j, hj, rfl, hh⟩ := hrel
        have HH := Lib.hid hh
        clear hh HP
        have HLEN := Lib.hid (show (z0.take j).length = j by have := HZ.out; simp; omega)
        by_cases hlt : j < len0
        · obtain ⟨b, o, x, rfl, hb, hcx0, hzx, hwx⟩ := HROW.out j hlt
          have hbel : Below w1.heap.size w1 wr := by obtain ⟨v, _, k⟩ := HH.out; exact k.below (Nat.le_refl _) (fun _ h => h)
          have hcx : wr.cell? ⟨b, o + j, none⟩ = some (.int .u32 x) := ((HB1.out.trans (hbel.mono HB1.out.size)).cell (p := ⟨b, o + j, none⟩) hb).trans hcx0
          have hx := bounds_u32 hwx
          have HZX := Lib.hid hzx
          clear hbel hcx0 hzx hwx hb
          go_wp2_with fail
          refine (Ww.word _ _ _ x _ _ HH.out (by simp [wordsOf_len, HLEN.out]; omega) hx.1 (by omega)).mono ?_
          rintro e w3 ⟨rfl, hp⟩
          have HP : Hid (Has w1.heap.size w1.heap.size ([a2] ++ wordsOf (z0.take (j + 1))) w1 w3) := by
            rw [take_snoc HZX.out, wordsOf_snoc, ← List.append_assoc]; exact hp
          clear hp
          go_wp2
          exact ⟨⟨j + 1, by omega, by go_num, HP.out⟩, by simp [intOf]; omega⟩
        · obtain rfl : len0 = j := by omega
          obtain ⟨all, hall⟩ : ∃ all, all = [a2] ++ wordsOf (z0.take len0) ++ ys := ⟨_, rfl⟩
          obtain ⟨N, hN⟩ : ∃ N, all.length = N := ⟨_, rfl⟩
          have hN1 : N = 1 + 4 * len0 + len1 := by rw [← hN, hall]; simp [wordsOf_len, HX.out]; have := HZ.out; omega
          have hNle : N ≤ 1 + 4 * len0 + len1 := by omega
          have hNge : 1 + 4 * len0 + len1 ≤ N := by omega
          obtain ⟨v, hw, hk⟩ := HH.out
          have HW := Lib.hid hw
          have HK := Lib.hid hk
          have hbr : Below w.heap.size w wr := HB1.out.trans (hk.below HB1.out.size (fun _ h => Nat.le_trans HB1.out.size h))
          have HBR := Lib.hid hbr
          have HALL := Lib.hid hall
          have HN := Lib.hid hN
          clear hw hk hbr hall hN hN1 hj hlt
          go_wp2_with fail
          refine (put _ _ v _ ys a1 len1 cap1 _ HX.out HC.out HW.out (HL.out.below HBR.out) (by simp [wordsOf_len]; omega)).mono ?_
          rintro e w3 hp
          obtain rfl := hp.1
          have hh := Has.next HW.out HK.out hp
          rw [← HALL.out] at hh
          obtain ⟨v3, hw3, hk3⟩ := hh
          have HW3 := Lib.hid hw3
          have HK3 := Lib.hid hk3
          clear hp hw3 hk3
          go_wp2_with fail
          refine (bytes_n _ _ v3 all N _ HN.out HW3.out).mono ?_
          rintro e w4 ⟨A4, c4, rfl, hv4, hk4⟩
          have B4 : Below w.heap.size w w4 := HB1.out.trans ((HK3.out.trans (hk4.mono fun _ _ h => h.elim)).below HB1.out.size (fun _ h => Nat.le_trans HB1.out.size h))
          have HB4 := Lib.hid B4
          have HW4 := Lib.hid (HW3.out.keeps hk4 (fun _ _ => id))
          have HV4 := Lib.hid hv4
          have hc4 : N ≤ c4 := by obtain ⟨_, _, hq, hle⟩ := own_form hv4; injection hq with _ _ hq; omega
          have L4 : Lies w4 (cutAt A4 c4 (1 + 4 * len0)) ys := by
            have h1 := (Lies.of_own hv4).cutAt c4 (1 + 4 * len0) len1 (by rw [HN.out]; exact hc4) (by rw [HN.out]; omega)
            have hx : (all.drop (1 + 4 * len0)).take len1 = ys := by
              rw [HALL.out, List.drop_append_of_le_length (by simp [wordsOf_len]; have := HZ.out; omega), List.drop_of_length_le (by simp [wordsOf_len]; omega), List.nil_append, List.take_of_length_le (by rw [HX.out]; exact Nat.le_refl _)]
            rwa [hx] at h1
          have hsl : ∀ w, (Instr.slice 23 (.slice A4 N c4) (some (.int .i64 (1 + 4 * (len0 : Int)))) none none).run Try.prog w = .ok (.slice (cutAt A4 c4 (1 + 4 * len0)) len1 (c4 - (1 + 4 * len0))) w := by
            intro w
            have := run_cut_from (P := Try.prog) 23 5 A4 N c4 (1 + 4 * len0) .i64 Try.underlying23 size_u8 (by omega) w
            rw [show ((1 + 4 * len0 : Nat) : Int) = 1 + 4 * (len0 : Int) by omega, show N - (1 + 4 * len0) = len1 by omega] at this
            exact this
          have c1 := fun q => L4.str_n (P := Try.prog) (w := w4.drewN q) len1 HX.out 23 9 5 (c4 - (1 + 4 * len0)) Try.underlying23 Try.underlying5 Try.underlying9
          have c2 := fun q => (HL.out.below B4).str_n (P := Try.prog) (w := w4.drewN q) len1 HX.out 23 9 5 cap1 Try.underlying23 Try.underlying5 Try.underlying9
          obtain ⟨T, hT⟩ : ∃ T, T = strOfNums ys := ⟨_, rfl⟩
          rw [← hT] at c1 c2
          have HT := Lib.hid hT
          have ht1 : ((N : Int) != 1 + 4 * (len0 : Int) + (len1 : Int)) = false := by simp; omega
          have hk4s := Lib.hid hk4.size
          clear hT L4 B4 hv4 hk4
          go_wp2_with fail
          go_quiet ((go_at_call 11; exact Calls.quiet_of_same (len_n _ _ _ all N _ HN.out HW4.out)))
          have HB5 : Hid (Below w.heap.size w (w4.drewN nq)) := below_drewN HB4.out nq
          have HW5 : Hid (IsWr w1.heap.size w1.heap.size v3 all (w4.drewN nq)) := HW4.out
          have HV5 : Hid ((w4.drewN nq).ownsRow w3.heap.size 5 1 (.slice A4 N c4) N (bv all)) := HV4.out
          have hs3 : w3.heap.size ≤ (w4.drewN nq).heap.size := hk4s.out
          have HWlt : Hid (∀ b, Its w1.heap.size v3 b → b < w3.heap.size) := by
            rintro b (rfl | hb)
            · exact HW3.out.lt
            · exact (HW3.out.2.2.2.2.2.lt b hb).2
          have hs3' : Hid (w.heap.size ≤ w3.heap.size) := Nat.le_trans HB1.out.size HK3.out.size
          clear c1 c2 hsl HT
          generalize w4.drewN nq = w5 at HB5 HW5 HV5 hs3 ⊢
          obtain ⟨gx, hgx, hgl, rfl⟩ : ∃ gx, w3.heap.size ≤ gx ∧ gx < w5.heap.size ∧ A4 = some ⟨gx, 0, none⟩ := by
            rcases HV5.out.2 with ⟨_, h0⟩ | ⟨gx, cap, cur, hv, hb, hh, _⟩
            · omega
            · injection hv with hA
              exact ⟨gx, hb, (Array.getElem?_eq_some_iff.1 hh).1, hA⟩
          have ha0 : all[0]? = some a2 := by rw [HALL.out]; rfl
          have HA0 := Lib.hid ha0
          have HABY : Hid (∀ x ∈ all, 0 ≤ x ∧ x < 256) := by
            show ∀ x ∈ all, 0 ≤ x ∧ x < 256
            rw [HALL.out]
            intro x hx
            simp only [List.mem_append, List.mem_singleton] at hx
            rcases hx with (rfl | hx) | hx
            · omega
            · exact wordsOf_byte _ x hx
            · exact HB.out x hx
          clear ha0 ht1 hs3
          go_wp2_with fail
          refine (read_n _ _ _ all _ HN.out (Lies.of_own HV5.out) (by omega) HABY.out).mono ?_
          rintro e w6 ⟨g2, rfl, hr6, hk6⟩
          have HR6 := Lib.hid hr6
          have HK6 := Lib.hid hk6
          have hg2 : w5.heap.size ≤ g2 := hr6.1
          clear hr6 hk6
          go_wp2_with fail
          refine (Wr.byte g2 _ _ _ HR6.out).mono ?_
          rintro e w7 ⟨rfl, hr7, hk7⟩
          rw [byte_at HA0.out] at hr7 ⊢
          have HR7 : Hid (IsRd w5.heap.size g2 ⟨all, 1 + 4 * 0, 0⟩ w7) := hr7
          have HK7 : Hid (Keeps (· = g2) w5 w7) := HK6.out.none_.trans hk7
          clear hr7 hk7
          go_wp2_with fail
          go_loopw [81] (fun i wr => ∃ j : Nat, j ≤ len0 ∧ i = .int .i64 j ∧ IsRd w5.heap.size g2 ⟨all, 1 + 4 * j, 0⟩ wr ∧ Keeps (· = g2) w5 wr) (fun i _ => len0 - (intOf i).toNat)
          case atStart => exact ⟨0, Nat.zero_le _, rfl, HR7.out, HK7.out⟩
          case round =>
            obtain ⟨j, hj, rfl, hr, hk⟩ := hrel
            have HR := Lib.hid hr
            have HK := Lib.hid hk
            clear hr hk HR7 HK7
            by_cases hlt : j < len0
            · obtain ⟨b, o, x, rfl, hb, hcx0, hzx, hwx⟩ := HROW.out j hlt
              have hbel : Below w.heap.size w wr := HB5.out.trans (HK.out.below HB5.out.size (fun k h => by have := HB5.out.size; omega))
              have hcx : wr.cell? ⟨b, o + j, none⟩ = some (.int .u32 x) := (hbel.cell (p := ⟨b, o + j, none⟩) hb).trans hcx0
              have hx := bounds_u32 hwx
              have hwd : RS.word ⟨all, 1 + 4 * j, 0⟩ = (x, ⟨all, 1 + 4 * (j + 1), 0⟩) := by
                obtain ⟨rest, hr⟩ := drop_words (ys := ys) (c := a2) hzx hlt
                rw [← HALL.out] at hr
                exact word_lows hr hx.1 (by omega)
              clear hbel hcx0 hzx hwx hb
              have HWD := Lib.hid hwd
              clear hwd
              go_wp2_with fail
              refine (Wr.word g2 _ _ _ HR.out).mono ?_
              rintro e w8 ⟨rfl, hr, hk⟩
              rw [HWD.out] at hr ⊢
              have HR8 := Lib.hid hr
              have HK8 := Lib.hid (HK.out.trans hk)
              clear hr hk
              go_wp2
              exact ⟨⟨j + 1, by omega, by go_num, HR8.out, HK8.out⟩, by simp [intOf]; omega⟩
            · obtain rfl : len0 = j := by omega
              have hvr := own_keeps HV5.out HK.out (fun b hb e => by have := (HV5.out.lt b hb).2; omega)
              have hcx : wr.cell? ⟨gx, 0, none⟩ = some (.int .u8 a2) := by
                have := hvr.cells (g := gx) rfl 0 (.int .u8 a2) (by simp [bv, HA0.out])
                rwa [add_none] at this
              have hfx : wr.frozen? ⟨gx, 0, none⟩ = false := by
                rcases hvr.2 with ⟨h, _⟩ | ⟨g', cap, cur, hv, _, hh, _⟩
                · cases h
                · injection hv with hA
                  injection hA with hA
                  injection hA with hA
                  subst hA
                  exact Blk.frozen (t := 5) hh 0
              have hK9 : ∀ u, Keeps (· = gx) wr (wr.setCell ⟨gx, 0, none⟩ u) := fun u => (Keeps.refl _ _).setOwn 0 u
              have HR9 : Hid (∀ u, IsRd w5.heap.size g2 ⟨all, 1 + 4 * len0, 0⟩ (wr.setCell ⟨gx, 0, none⟩ u)) := fun u => HR.out.keeps (hK9 u) (fun b hb e => by omega)
              have HW9 : Hid (∀ u, IsWr w1.heap.size w1.heap.size v3 all (wr.setCell ⟨gx, 0, none⟩ u)) := fun u =>
                (HW5.out.keeps HK.out (fun b hb e => by have := HWlt.out b hb; omega)).keeps (hK9 u) (fun b hb e => by have := HWlt.out b hb; omega)
              have HB9 : Hid (∀ u, Below w.heap.size w (wr.setCell ⟨gx, 0, none⟩ u)) := fun u => by
                have h1 := HB5.out.trans (HK.out.below HB5.out.size (fun k h => by have := HB5.out.size; omega))
                exact h1.trans ((hK9 u).below h1.size (fun k h => by have := HBR.out.size; have := hs3'.out; omega))
              clear hvr hK9
              have HDR : Hid ((all.drop (1 + 4 * len0)).take len1 = ys) := by
                show (all.drop (1 + 4 * len0)).take len1 = ys
                rw [HALL.out, List.drop_append_of_le_length (by simp [wordsOf_len]; have := HZ.out; omega), List.drop_of_length_le (by simp [wordsOf_len]; omega), List.nil_append, List.take_of_length_le (by rw [HX.out]; exact Nat.le_refl _)]
              obtain ⟨T, hT⟩ : ∃ T, T = strOfNums ys := ⟨_, rfl⟩
              have HT := Lib.hid hT
              clear hT
              have hfin : RS.fin ⟨all, 1 + 4 * len0 + len1, 0⟩ = 0 := by
                unfold RS.fin
                rw [if_neg (by simp [HN.out]; omega)]
              have HFIN := Lib.hid hfin
              have hlo : (0 : Int) < (N : Int) := by omega
              clear hfin
              go_wp2_with fail
              have R9 : Hid (IsRd w5.heap.size g2 ⟨all, 1 + 4 * len0, 0⟩ (wr.setCell ⟨gx, 0, none⟩ (.int .u8 ((a2 + 1) % 256)))) := HR9.out _
              have W9 : Hid (IsWr w1.heap.size w1.heap.size v3 all (wr.setCell ⟨gx, 0, none⟩ (.int .u8 ((a2 + 1) % 256)))) := HW9.out _
              have B9 : Hid (Below w.heap.size w (wr.setCell ⟨gx, 0, none⟩ (.int .u8 ((a2 + 1) % 256)))) := HB9.out _
              clear hcx hfx HR9 HW9 HB9
              generalize wr.setCell ⟨gx, 0, none⟩ (.int .u8 ((a2 + 1) % 256)) = w9 at R9 W9 B9 ⊢
              have hS9 : (convert 23 9 (.slice a1 len1 cap1)).run Try.prog w9.drew = .ok (.string T) w9.drew := by
                rw [HT.out]; exact (HL.out.below B9.out.drew).str_n (P := Try.prog) len1 HX.out 23 9 5 cap1 Try.underlying23 Try.underlying5 Try.underlying9
              have hng : w.heap.size ≤ g2 := Nat.le_trans HB5.out.size hg2
              go_region_with (first
                  | (go_at_call 15
                     refine (bytes_yes g2 _ _ len1 _ (by exact R9.out) rfl (by show 1 + 4 * len0 + len1 ≤ all.length; rw [HN.out]; omega)).mono ?_
                     rintro e w10 ⟨A10, c10, rfl, hv10, hr10, hk10⟩
                     have R10 := Lib.hid hr10
                     have B10 : Hid (Below w.heap.size w w10) := B9.out.trans (hk10.of_drew.below B9.out.size (fun k h => by omega))
                     have W10 : Hid (IsWr w1.heap.size w1.heap.size v3 all w10) := W9.out.keeps hk10.of_drew (fun b hb e => by have := HWlt.out b hb; omega)
                     have hS10 : (convert 23 9 (.slice a1 len1 cap1)).run Try.prog w10 = .ok (.string T) w10 := by
                       rw [HT.out]; exact (HL.out.below B10.out).str_n (P := Try.prog) len1 HX.out 23 9 5 cap1 Try.underlying23 Try.underlying5 Try.underlying9
                     have hT10 : (convert 23 9 (.slice A10 len1 c10)).run Try.prog w10 = .ok (.string T) w10 := by
                       have h1 := Lies.of_own hv10
                       simp only [HDR.out] at h1
                       rw [HT.out]; exact h1.str_n (P := Try.prog) len1 HX.out 23 9 5 c10 Try.underlying23 Try.underlying5 Try.underlying9
                     clear hv10 hr10 hk10)
                  | (go_at_call 16
                     refine (end_ g2 _ _ _ R10.out).mono ?_
                     rintro e w11 ⟨rfl, hw11⟩
                     rw [HFIN.out]
                     have B11 : Hid (Below w.heap.size w w11) := by obtain ⟨q, rfl⟩ := hw11; exact below_drewN B10.out q
                     have W11 : Hid (IsWr w1.heap.size w1.heap.size v3 all w11) := by obtain ⟨q, rfl⟩ := hw11; exact W10.out
                     have hS11 : (convert 23 9 (.slice a1 len1 cap1)).run Try.prog w11 = .ok (.string T) w11 := by
                       rw [HT.out]; exact (HL.out.below B11.out).str_n (P := Try.prog) len1 HX.out 23 9 5 cap1 Try.underlying23 Try.underlying5 Try.underlying9
                     clear hw11)
                  | (go_at_call 10
                     refine (bytes_n _ _ v3 all N _ HN.out W11.out).mono ?_
                     rintro e w12 ⟨A12, c12, rfl, hv12, hk12⟩
                     have B12 : Hid (Below w.heap.size w w12) := B11.out.trans (hk12.below B11.out.size (fun _ h => h.elim))
                     have hS12 : (convert 23 9 (.slice a1 len1 cap1)).run Try.prog w12 = .ok (.string T) w12 := by
                       rw [HT.out]; exact (HL.out.below B12.out).str_n (P := Try.prog) len1 HX.out 23 9 5 cap1 Try.underlying23 Try.underlying5 Try.underlying9
                     obtain ⟨b12, o12, rfl, hc12⟩ : ∃ b o, A12 = some ⟨b, o, none⟩ ∧ w12.cell? ⟨b, o, none⟩ = some (.int .u8 a2) := by
                       rcases Lies.of_own hv12 with h | ⟨b, o, hA, _, hc⟩
                       · have := HN.out; rw [h] at this; simp at this; omega
                       · have h0 := hc 0 (by rw [HN.out]; omega)
                         rw [List.getD_eq_getElem?_getD, HA0.out] at h0
                         exact ⟨b, o, hA, h0⟩
                     clear hv12 hk12))
              all_goals go_wp2
              all_goals
                go_ret
                exact ⟨rfl, B12.out⟩
    · have hd1 : decide ((100 : Int) < (len1 : Int)) = true := by simp; omega
      clear w0 w1 hrow hlies hby hcap1 hzl hxl
      go_enter Try.func3, Try.ntmps3
      go_wp2_with fail
      refine (Aw.awake _).mono ?_
      rintro e w1 ⟨rfl, hb⟩
      have HB := Lib.hid hb
      clear hb
      go_wp2
      go_ret
      exact ⟨rfl, HB.out⟩
  · have hd0 : decide ((30 : Int) < (len0 : Int)) = true := by simp; omega
    clear w0 w1 hrow hlies hby hcap1 hzl hxl
    go_enter Try.func3, Try.ntmps3
    go_wp2_with fail
    refine (Aw.awake _).mono ?_
    rintro e w1 ⟨rfl, hb⟩
    have HB := Lib.hid hb
    clear hb
    go_wp2
    go_ret
    exact ⟨rfl, HB.out⟩

set_option maxRecDepth 100000 in
theorem lifted (os : Os) (started : os.Started) (H : Type) (enc : TypeId × Value → H) :
    ReturnsInHanded {} Try.checked os 3 .any (Rows.wireBackSpec.pre6 enc Try.prog Try.f3 Rows.wireBackRow.domain false) (Rows.wireBackSpec.post enc Try.prog Try.f3 false true false false) := by
  refine returnsInHanded_of_change (C := Try.checked) own started (by kernel_rfl) Try.func3
    (ChangeSpec.witness6 (enc := enc) (C := Try.checked) false ⟨#[], #[.slice none 0 0, .slice none 0 0, .int .u8 0], []⟩ 8 (by kernel_rfl) (by kernel_rfl) (by kernel_rfl) (by kernel_rfl)) ?_
  intro W base args ds gs before hval0 hW hcnd _
  have hval : ∀ (j : Nat) t v, Try.f3.params[j]? = some t → args[j]? = some v → Value.okWide Try.prog W .any base t v := hval0
  have hW' := hW
  obtain ⟨p, q, hA0, hV, rfl, hfz, hnd⟩ := hW
  have hA : DataW.TrodAll enc Try.prog W 0 (fun _ => true) true Try.f3.params.toList args.toList ds p := hA0
  rw [Try.params3] at hA hval
  obtain ⟨v0, vs0, d0, ds0, p0, q0, hargs, rfl, rfl, h0, r0⟩ := trodAll_cons hA
  obtain ⟨v1, vs1, d1, ds1, p1, q1, rfl, rfl, rfl, h1, r1⟩ := trodAll_cons r0
  obtain ⟨v2, vs2, d2, ds2, p2, q2, rfl, rfl, rfl, h2, r2⟩ := trodAll_cons r1
  obtain ⟨rfl, rfl, rfl⟩ := trodAll_nil r2
  obtain rfl : args = #[v0, v1, v2] := by cases args; simp_all
  obtain ⟨rfl, rfl⟩ := trodVars_none hV
  obtain ⟨a0, len0, cap0, rfl⟩ := okWide_slice Try.underlying22 (hval 0 22 v0 rfl rfl)
  have k0 := h0
  have lt0 : ∀ x ∈ p0, x.block < W.heap.size := by obtain ⟨m, hm⟩ := k0; exact DataW.trod_lt m _ _ _ hm
  obtain ⟨z0, w0⟩ : ∃ zs, IsRow .u32 W a0 len0 cap0 zs := by
    obtain ⟨fuel, hf⟩ := h0
    rcases open_ints Try.underlying22 Try.underlying29 (by kernel_rfl) hf with ⟨hcs, _⟩ | ⟨x, l, c, zs, hcs, _, hl, hm, hz, _, hcell, hwz⟩
    · simp [Value.cells] at hcs
      obtain ⟨rfl, rfl, rfl⟩ := hcs
      exact ⟨[], .inl ⟨rfl, rfl, rfl, rfl⟩⟩
    · simp [Value.cells] at hcs
      obtain ⟨rfl, rfl, rfl⟩ := hcs
      exact ⟨zs, .inr ⟨_, rfl, hl, hm, by simpa using hz, hcell, hwz⟩⟩
  obtain ⟨a1, len1, cap1, rfl⟩ := okWide_slice Try.underlying23 (hval 1 23 v1 rfl rfl)
  have k1 := h1
  have lt1 : ∀ x ∈ p1, x.block < W.heap.size := by obtain ⟨m, hm⟩ := k1; exact DataW.trod_lt m _ _ _ hm
  obtain ⟨z1, w1⟩ : ∃ zs, IsRow .u8 W a1 len1 cap1 zs := by
    obtain ⟨fuel, hf⟩ := h1
    rcases open_ints Try.underlying23 Try.underlying5 (by kernel_rfl) hf with ⟨hcs, _⟩ | ⟨x, l, c, zs, hcs, _, hl, hm, hz, _, hcell, hwz⟩
    · simp [Value.cells] at hcs
      obtain ⟨rfl, rfl, rfl⟩ := hcs
      exact ⟨[], .inl ⟨rfl, rfl, rfl, rfl⟩⟩
    · simp [Value.cells] at hcs
      obtain ⟨rfl, rfl, rfl⟩ := hcs
      exact ⟨zs, .inr ⟨_, rfl, hl, hm, by simpa using hz, hcell, hwz⟩⟩
  obtain ⟨a2, rfl, rfl, rfl, w2⟩ := open_int Try.underlying5 (hval 2 5 v2 rfl rfl) h2
  clear hA0 hval0
  refine (walk a0 len0 cap0 z0 a1 len1 cap1 z1 a2 W w0 w1 w2).mono fun e W' ⟨he, bel⟩ => ?_
  subst he
  exact ⟨_, rfl, _, _, _, [], _, [], hW', trodAll_mk1 (shut_bool Try.underlying4 _), (trodAll_cons_mk (Below.trod laidOut (by kernel_rfl) (of_decide_eq_true (by kernel_rfl)) k0 bel lt0) (trodAll_cons_mk (Below.trod laidOut (by kernel_rfl) (of_decide_eq_true (by kernel_rfl)) k1 bel lt1) (trodAll_cons_mk (shut_int Try.underlying5 w2) trodAll_mk0))), rfl, bel.frame _, fun h => by cases h⟩

theorem over : Rows.wireBackRow.holds Try.pinned (OpenSpec.ofChange Rows.wireBackSpec) :=
  OpenClaim.holds_of_wide 3 Try.f3 rfl rfl rfl rfl rfl rfl rfl ⟨rfl, rfl, rfl, rfl, rfl⟩ rfl rfl rfl rfl rfl (by kernel_rfl) Try.func3 (by kernel_rfl)
    (of_decide_eq_true (by kernel_rfl)) (by unfold Func.isWrapper; first | (rw [if_pos (by decide +kernel)]; kernel_rfl) | (rw [if_neg (by decide +kernel)]; exact ⟨rfl, rfl⟩))
    (fun os started H enc _ => lifted os started H enc)

/-- The statement, as given. -/
theorem proved : Rows.WireBackSaid := over
end Go.Proofs.Ytlidnejookcbjaa.wireBack
namespace Go.Proofs.Ytlidnejookcbjaa
/-- The statement, as given. -/
theorem wireBack_holds : Rows.WireBackSaid := wireBack.proved
#print axioms wireBack_holds
end Go.Proofs.Ytlidnejookcbjaa

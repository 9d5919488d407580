/- The statement ItfMixes (P2.1, P2.2: numbers and bytes between them, one behind the other, are taken as they were) holds for every input: the Go function answers true, and its arguments read as before. No conditions beyond the row's own. -/
import Derived.Test.YtnbgcepejhggnaaRows
import Derived.WalkKit
import Derived.ProofKit
import Derived.OpenShut
import Derived.ShutString
import Derived.ChangeOld
import Derived.Below
import Derived.Test.YtnbgcepejhggnaaItfBack
import Derived.Test.YtnbgcepejhggnaaWireTake
import Derived.Test.YtnbgcepejhggnaaAwake2
import Derived.Outline
import Derived.Deep.RegionHeld3
import Derived.Deep.Slices
namespace Go.Proofs.Ytnbgcepejhggnaa.itfMixes
open Go.ChangeShapes Go.WideShapes Go.ChangeAt Go.RowKit Go.Deep
open Go.Proofs.Ytnbgcepejhggnaa.Gen Go.Proofs.Ytnbgcepejhggnaa.Wr Go.Proofs.Ytnbgcepejhggnaa.Ww Go.Proofs.Ytnbgcepejhggnaa.It
set_option linter.unusedVariables false

theorem own : ownKnob Try.prog.godebug = none := by kernel_rfl
theorem laidOut : laidOutB Try.prog = true := by kernel_rfl

/-- What the walk is told of a slice of integers that came in: it is nil, or a row of cells that hold zs, each of which fits. -/
def IsRow (k : IntKind) (w : World) (a : Option Addr) (len cap : Nat) (zs : List Int) : Prop :=
  (a = none ∧ len = 0 ∧ cap = 0 ∧ zs = []) ∨
  ∃ x, a = some x ∧ len ≤ cap ∧ cap ≤ maxLen ∧ zs.length = cap ∧ (∀ i, i < zs.length → w.cell? (x.add i) = some (.int k (zs.getD i 0))) ∧ ∀ n ∈ zs, (Lit.int k n).wf = true
/-- And of a slice of such slices: it is nil, or each of its cells holds one. -/
def IsRows (k : IntKind) (w : World) (a : Option Addr) (len cap : Nat) : Prop :=
  (a = none ∧ len = 0 ∧ cap = 0) ∨
  ∃ x, a = some x ∧ len ≤ cap ∧ cap ≤ maxLen ∧ ∀ i, i < len → ∃ b n c zs, w.cell? (x.add i) = some (.slice b n c) ∧ IsRow k w b n c zs
section
variable {H : Type} {enc : TypeId × Value → H} {W : World}
theorem open_row {t e : TypeId} {k : IntKind} {fuel : Nat} {a : Option Addr} {len cap : Nat} {x : DataW H × List MemPlace} (ht : Try.prog.underlying t = some (.slice e)) (he : Try.prog.underlying e = some (.int k)) (h1 : Try.prog.cellsOf e = 1)
    (hf : DataW.trod enc Try.prog W 0 (fun _ => true) true fuel t (Value.slice a len cap).cells.toList = some x) : ∃ zs, IsRow k W a len cap zs := by
  rcases open_ints ht he h1 hf with ⟨hcs, _⟩ | ⟨x, l, c, zs, hcs, _, hl, hm, hz, _, hcell, hwz⟩
  · simp [Value.cells] at hcs
    obtain ⟨rfl, rfl, rfl⟩ := hcs
    exact ⟨[], .inl ⟨rfl, rfl, rfl, rfl⟩⟩
  · simp [Value.cells] at hcs
    obtain ⟨rfl, rfl, rfl⟩ := hcs
    exact ⟨zs, .inr ⟨_, rfl, hl, hm, by simpa using hz, hcell, hwz⟩⟩
theorem open_rows {t e g : TypeId} {k : IntKind} {fuel : Nat} {a : Option Addr} {len cap : Nat} {x : DataW H × List MemPlace} (ht : Try.prog.underlying t = some (.slice e)) (he : Try.prog.underlying e = some (.slice g)) (hg : Try.prog.underlying g = some (.int k)) (h1 : Try.prog.cellsOf e = 1) (h2 : Try.prog.cellsOf g = 1)
    (hf : DataW.trod enc Try.prog W 0 (fun _ => true) true fuel t (Value.slice a len cap).cells.toList = some x) : IsRows k W a len cap := by
  rcases open_slice ht hf with ⟨hcs, _⟩ | ⟨x, l, c, m, n, D, Pl, hcs, _, hl, hm, hmm, _, hi⟩
  · simp [Value.cells] at hcs
    obtain ⟨rfl, rfl, rfl⟩ := hcs
    exact .inl ⟨rfl, rfl, rfl⟩
  · simp [Value.cells] at hcs
    obtain ⟨rfl, rfl, rfl⟩ := hcs
    refine .inr ⟨x, rfl, hl, hm, fun i hil => ?_⟩
    simp only [if_true] at hmm
    obtain ⟨cs, hc, htr⟩ := hi i (by omega)
    rw [h1, Nat.mul_one] at hc
    obtain ⟨_, hlen, hat⟩ := World.cells?_some hc
    have h0 := hat 0 (by omega)
    have ha0 : (x.add i).add 0 = x.add i := by rw [Go.Deep.add_add]; rfl
    rw [ha0] at h0
    rcases open_ints he hg h2 htr with ⟨hcs, _⟩ | ⟨y, l', c', zs, hcs, _, hl', hm', hz, _, hcell, hwz⟩
    · subst hcs
      exact ⟨none, 0, 0, [], by simpa using h0, .inl ⟨rfl, rfl, rfl, rfl⟩⟩
    · subst hcs
      exact ⟨some y, l', c', zs, by simpa using h0, .inr ⟨y, rfl, hl', hm', by simpa using hz, hcell, hwz⟩⟩
end
/-- What lies between two numbers at place j: the bytes of row j, if there is one and it has 50 at most; else none. -/
def Mid (w : World) (a : Option Addr) (len j : Nat) (m : List Int) : Prop :=
  (j < len → ∃ b o A n c, a = some ⟨b, o, none⟩ ∧ b < w.heap.size ∧ w.cell? ⟨b, o + j, none⟩ = some (.slice A n c) ∧ (A = none → c = 0) ∧ n ≤ c ∧ ((n ≤ 50 ∧ m.length = n ∧ Lies w A m ∧ ∀ x ∈ m, 0 ≤ x ∧ x < 256) ∨ (50 < n ∧ m = []))) ∧ (¬ j < len → m = [])
theorem mid_of {w : World} {a : Option Addr} {len cap : Nat} (h : IsRows .u8 w a len cap) (j : Nat) : ∃ m, Mid w a len j m := by
  by_cases hj : j < len
  · rcases h with ⟨_, h0, _⟩ | ⟨x, rfl, hl, _, hi⟩
    · omega
    · obtain ⟨A, n, c, zs, hcell, hrow⟩ := hi j hj
      have hn0 : A = none → c = 0 := by
        rcases hrow with ⟨_, _, h, _⟩ | ⟨y, h, _⟩
        · exact fun _ => h
        · rw [h]; exact fun h => by cases h
      obtain ⟨h1, h2, h3, h4⟩ := row_lies hrow
      obtain ⟨b, o, sp⟩ := x
      obtain ⟨_, _, _, _, hcell0, _⟩ := hi 0 (by omega)
      have hsp : sp = none := by simpa [Addr.add] using World.cell?_spot hcell0
      subst hsp
      rw [add_none] at hcell
      have hb : b < w.heap.size := by
        rcases Nat.lt_or_ge b w.heap.size with hlt | hge
        · exact hlt
        · simp [World.cell?, Array.getElem?_eq_none hge] at hcell
      by_cases h50 : n ≤ 50
      · exact ⟨zs.take n, fun _ => ⟨b, o, A, n, c, rfl, hb, hcell, hn0, h2, .inl ⟨h50, h1, h3, h4⟩⟩, fun h => absurd hj h⟩
      · exact ⟨[], fun _ => ⟨b, o, A, n, c, rfl, hb, hcell, hn0, h2, .inr ⟨by omega, rfl⟩⟩, fun _ => rfl⟩
  · exact ⟨[], fun h => absurd h hj, fun _ => rfl⟩
theorem Mid.len {w : World} {a : Option Addr} {len j : Nat} {m : List Int} (h : Mid w a len j m) : m.length ≤ 50 := by
  by_cases hj : j < len
  · obtain ⟨_, _, _, n, _, _, _, _, _, _, h | h⟩ := h.1 hj
    · omega
    · simp [h.2]
  · simp [h.2 hj]
theorem Mid.byte {w : World} {a : Option Addr} {len j : Nat} {m : List Int} (h : Mid w a len j m) : ∀ x ∈ m, 0 ≤ x ∧ x < 256 := by
  by_cases hj : j < len
  · obtain ⟨_, _, _, n, _, _, _, _, _, _, h | h⟩ := h.1 hj
    · exact h.2.2.2
    · simp [h.2]
  · simp [h.2 hj]
/-- What is put at place j. -/
def item (m : List Int) (x : Int) : List Int := encInt x ++ (m ++ ([x % 256] ++ encLong (x * 65537)))
def its (mid : Nat → List Int) (zs : List Int) : Nat → List Int
  | 0 => []
  | j + 1 => its mid zs j ++ item (mid j) (zs.getD j 0)
theorem item_len {m : List Int} (h : m.length ≤ 50) (x : Int) : (item m x).length ≤ 65 := by
  have h1 := (Ib.encInt_len x).2
  have h2 := (Ib.encLong_len (x * 65537)).2
  simp only [item, List.length_append, List.length_singleton]
  omega
theorem its_len {mid : Nat → List Int} (h : ∀ j, (mid j).length ≤ 50) (zs : List Int) : ∀ j, (its mid zs j).length ≤ 65 * j
  | 0 => by simp [its]
  | j + 1 => by
    have h1 := its_len h zs j
    have h2 := item_len (h j) (zs.getD j 0)
    simp only [its, List.length_append]
    omega
theorem its_split (mid : Nat → List Int) (zs : List Int) : ∀ n j, j < n → ∃ rest, its mid zs n = its mid zs j ++ (item (mid j) (zs.getD j 0) ++ rest)
  | 0, j, h => by omega
  | n + 1, j, h => by
    by_cases hj : j = n
    · subst hj
      exact ⟨[], by simp [its]⟩
    · obtain ⟨rest, hr⟩ := its_split mid zs n j (by omega)
      exact ⟨rest ++ item (mid n) (zs.getD n 0), by rw [its, hr]; simp⟩
theorem its_byte {mid : Nat → List Int} {zs : List Int} (hm : ∀ j, ∀ x ∈ mid j, 0 ≤ x ∧ x < 256) : ∀ n, (∀ j, j < n → 0 ≤ zs.getD j 0 ∧ zs.getD j 0 < 4294967296) → ∀ x ∈ its mid zs n, 0 ≤ x ∧ x < 256
  | 0, _ => by simp [its]
  | n + 1, h => by
    intro x hx
    have hn := h n (by omega)
    simp only [its, item, List.mem_append, List.mem_singleton] at hx
    rcases hx with hx | hx | hx | hx | hx
    · exact its_byte hm n (fun j hj => h j (by omega)) x hx
    · exact Ib.encInt_byte hn.1 hn.2 x hx
    · exact hm n x hx
    · omega
    · exact Ib.encLong_byte (by omega) (by omega) x hx
theorem getD_of {zs : List Int} {j : Nat} {x : Int} (h : zs[j]? = some x) : zs.getD j 0 = x := by simp [List.getD_eq_getElem?_getD, h]
set_option maxHeartbeats 2500000 in
set_option maxRecDepth 100000 in
theorem walk (a0 : Option Addr) (len0 cap0 : Nat) (z0 : List Int) (a1 : Option Addr) (len1 cap1 : Nat) (w : World) (w0 : IsRow .u32 w a0 len0 cap0 z0) (w1 : IsRows .u8 w a1 len1 cap1) :
    Calls Try.prog 8 #[.slice a0 len0 cap0, .slice a1 len1 cap1] w fun e w' => e = .returned (.bool true) ∧ Below w.heap.size w w' := by
  obtain ⟨hzl, hrow⟩ := row_at w0
  by_cases hl : len0 ≤ 20
  · have hd0 : decide ((20 : Int) < (len0 : Int)) = false := by simp; omega
    by_cases hl1 : len1 ≤ 20
    · have hd1 : decide ((20 : Int) < (len1 : Int)) = false := by simp; omega
      obtain ⟨mid, hmid⟩ := Classical.axiomOfChoice (mid_of w1)
      have HMID := Lib.hid hmid
      have HROW := Lib.hid hrow
      have HML : Hid (∀ j, (mid j).length ≤ 50) := fun j => (hmid j).len
      clear hzl hrow w0 w1 hmid
      go_enter Try.func8, Try.ntmps8
      go_wp2_with fail
      refine (Aw.awake _).mono ?_
      rintro e w1 ⟨rfl, hb1⟩
      have HB1 := Lib.hid hb1
      clear hb1
      go_wp2
      go_loopw [25] (fun i wr => ∃ j : Nat, j ≤ len0 ∧ i = .int .i64 j ∧ Has w1.heap.size w1.heap.size (its mid z0 j) w1 wr) (fun i _ => len0 - (intOf i).toNat)
      case atStart => exact ⟨0, Nat.zero_le _, rfl, _, new_of 30 (by decide) w1, (Keeps.refl _ _).alloc _⟩
      case round =>
        obtain ⟨j, hj, rfl, hh⟩ := hrel
        obtain ⟨N, hN⟩ : ∃ N, (its mid z0 j).length = N := ⟨_, rfl⟩
        have hNle : N ≤ 65 * j := by rw [← hN]; exact its_len HML.out z0 j
        have HN := Lib.hid hN
        obtain ⟨v, hw, hk⟩ := hh
        have HW := Lib.hid hw
        have HK := Lib.hid hk
        have HBR := Lib.hid (HB1.out.trans (HK.out.below HB1.out.size (fun _ h => Nat.le_trans HB1.out.size h)))
        clear hN hw hk
        by_cases hlt : j < len0
        · obtain ⟨b, o, x, rfl, hb, hcx0, hzx, hwx⟩ := HROW.out j hlt
          have hcx : wr.cell? ⟨b, o + j, none⟩ = some (.int .u32 x) := (HBR.out.cell (p := ⟨b, o + j, none⟩) hb).trans hcx0
          have hx := bounds_u32 hwx
          have HZX := Lib.hid (getD_of hzx)
          clear hcx0 hzx hwx hb
          go_wp2_with fail
          refine (Iw.int _ _ v _ x _ HW.out (by rw [HN.out]; omega) hx.1 (by omega)).mono ?_
          rintro e w2 hp
          obtain rfl := hp.1
          obtain ⟨v2, hw2, hk2⟩ := Has.next HW.out HK.out hp
          have HW2 := Lib.hid hw2
          have HK2 := Lib.hid hk2
          have HB2 := Lib.hid (HB1.out.trans (hk2.below HB1.out.size (fun _ h => Nat.le_trans HB1.out.size h)))
          obtain ⟨M, hM⟩ : ∃ M, (encInt x).length = M := ⟨_, rfl⟩
          have hMle : M ≤ 5 := by rw [← hM]; exact (Ib.encInt_len x).2
          have HM := Lib.hid hM
          clear hp hw2 hk2 hM HW HK HBR
          by_cases hj1 : j < len1
          · obtain ⟨b1, o1, A1, n1, c1, ha1, hb1, hcell1, hA0, hnc, hmm⟩ := (HMID.out j).1 hj1
            subst ha1
            have hc1 : w2.cell? ⟨b1, o1 + j, none⟩ = some (.slice A1 n1 c1) := (HB2.out.cell (p := ⟨b1, o1 + j, none⟩) hb1).trans hcell1
            have hi0 : (0 : Int) ≤ (j : Int) := by omega
            have hi1 : (j : Int) < (len1 : Int) := by omega
            have HA0 := Lib.hid hA0
            rcases hmm with ⟨h50, hml, hmlies, _⟩ | ⟨h50, hm0⟩
            · have hd50 : decide ((n1 : Int) ≤ 50) = true := by simp; omega
              have HMLN := Lib.hid hml
              have HMLI := Lib.hid (hmlies.below HB2.out)
              have HCELL := Lib.hid hcell1
              clear hA0 hml hmlies hcell1
              go_wp2_with fail
              go_region_held3 (fun w' => w'.cell? ⟨b1, o1 + j, none⟩ = some (.slice A1 n1 c1)) (first | exact hc1 | go_keep)
                ((go_at_call 28
                  refine (put _ _ v2 _ (mid j) A1 n1 c1 w2.drew HMLN.out HA0.out (by exact HW2.out) (by exact HMLI.out) (by rw [List.length_append, HN.out, HM.out]; omega)).mono ?_
                  rintro e w3 hp
                  obtain rfl := hp.1
                  have HH3 : Hid (Has w1.heap.size w1.heap.size (its mid z0 j ++ encInt x ++ mid j) w1 w3) := Has.next (w := w2.drew) HW2.out (HK2.out.drewN 1) hp
                  have hc3 : w3.cell? ⟨b1, o1 + j, none⟩ = some (.slice A1 n1 c1) := by
                    obtain ⟨_, _, k⟩ := HH3.out
                    exact ((HB1.out.trans (k.below HB1.out.size (fun _ h => Nat.le_trans HB1.out.size h))).cell (p := ⟨b1, o1 + j, none⟩) hb1).trans HCELL.out
                  clear hp))
              obtain ⟨v3, hw3, hk3⟩ := HH3.out
              have HW3 := Lib.hid hw3
              have HK3 := Lib.hid hk3
              have HL3 : Hid ((its mid z0 j ++ encInt x ++ mid j).length = N + M + n1) := by
                show (its mid z0 j ++ encInt x ++ mid j).length = N + M + n1
                rw [List.length_append, List.length_append, HN.out, HM.out, HMLN.out]
              clear hw3 hk3 HH3 HW2 HK2
              go_wp2_with fail
              refine (Ww.byte _ _ v3 _ _ _ HW3.out (by rw [HL3.out]; omega)).mono ?_
              rintro e w4 hp
              obtain rfl := hp.1
              have HH4 := Lib.hid (Has.next HW3.out HK3.out hp)
              clear hp
              obtain ⟨v4, hw4, hk4⟩ := HH4.out
              have HW4 := Lib.hid hw4
              have HK4 := Lib.hid hk4
              clear hw4 hk4 HH4
              go_wp2_with fail
              refine (Iw.long _ _ v4 _ (x * 65537) _ HW4.out (by rw [List.length_append, HL3.out]; simp; omega) (by omega) (by omega)).mono ?_
              rintro e w5 hp
              obtain rfl := hp.1
              have hh5 := Has.next HW4.out HK4.out hp
              have HI5 : Hid (its mid z0 j ++ encInt x ++ mid j ++ [x % 256] ++ encLong (x * 65537) = its mid z0 (j + 1)) := by
                show its mid z0 j ++ encInt x ++ mid j ++ [x % 256] ++ encLong (x * 65537) = its mid z0 (j + 1)
                rw [its, HZX.out]
                simp [item]
              rw [HI5.out] at hh5
              have HH5 := Lib.hid hh5
              clear hp hh5
              go_wp2
              exact ⟨⟨j + 1, by omega, by go_num, HH5.out⟩, by simp [intOf]; omega⟩
            · have hd50 : decide ((n1 : Int) ≤ 50) = false := by simp; omega
              clear hA0 hcell1
              have HW3 : Hid (IsWr w1.heap.size w1.heap.size v2 (its mid z0 j ++ encInt x ++ mid j) w2) := by
                show IsWr w1.heap.size w1.heap.size v2 (its mid z0 j ++ encInt x ++ mid j) w2
                rw [hm0, List.append_nil]
                exact HW2.out
              have HK3 := HK2
              have HL3 : Hid ((its mid z0 j ++ encInt x ++ mid j).length = N + M) := by
                show (its mid z0 j ++ encInt x ++ mid j).length = N + M
                rw [hm0, List.append_nil, List.length_append, HN.out, HM.out]
              obtain ⟨v3, hv3⟩ : ∃ v, v = v2 := ⟨_, rfl⟩
              rw [← hv3] at HW3
              clear hm0 HW2 hv3
              go_wp2_with fail
              refine (Ww.byte _ _ v3 _ _ _ HW3.out (by rw [HL3.out]; omega)).mono ?_
              rintro e w4 hp
              obtain rfl := hp.1
              have HH4 := Lib.hid (Has.next HW3.out HK3.out hp)
              clear hp
              obtain ⟨v4, hw4, hk4⟩ := HH4.out
              have HW4 := Lib.hid hw4
              have HK4 := Lib.hid hk4
              clear hw4 hk4 HH4
              go_wp2_with fail
              refine (Iw.long _ _ v4 _ (x * 65537) _ HW4.out (by rw [List.length_append, HL3.out]; simp; omega) (by omega) (by omega)).mono ?_
              rintro e w5 hp
              obtain rfl := hp.1
              have hh5 := Has.next HW4.out HK4.out hp
              have HI5 : Hid (its mid z0 j ++ encInt x ++ mid j ++ [x % 256] ++ encLong (x * 65537) = its mid z0 (j + 1)) := by
                show its mid z0 j ++ encInt x ++ mid j ++ [x % 256] ++ encLong (x * 65537) = its mid z0 (j + 1)
                rw [its, HZX.out]
                simp [item]
              rw [HI5.out] at hh5
              have HH5 := Lib.hid hh5
              clear hp hh5
              go_wp2
              exact ⟨⟨j + 1, by omega, by go_num, HH5.out⟩, by simp [intOf]; omega⟩
          · have hm0 := (HMID.out j).2 hj1
            have hi1 : ¬ ((j : Int) < (len1 : Int)) := by omega
            have HW3 : Hid (IsWr w1.heap.size w1.heap.size v2 (its mid z0 j ++ encInt x ++ mid j) w2) := by
              show IsWr w1.heap.size w1.heap.size v2 (its mid z0 j ++ encInt x ++ mid j) w2
              rw [hm0, List.append_nil]
              exact HW2.out
            have HK3 := HK2
            have HL3 : Hid ((its mid z0 j ++ encInt x ++ mid j).length = N + M) := by
              show (its mid z0 j ++ encInt x ++ mid j).length = N + M
              rw [hm0, List.append_nil, List.length_append, HN.out, HM.out]
            obtain ⟨v3, hv3⟩ : ∃ v, v = v2 := ⟨_, rfl⟩
            rw [← hv3] at HW3
            clear hm0 HW2 hv3
            go_wp2_with fail
            refine (Ww.byte _ _ v3 _ _ _ HW3.out (by rw [HL3.out]; omega)).mono ?_
            rintro e w4 hp
            obtain rfl := hp.1
            have HH4 := Lib.hid (Has.next HW3.out HK3.out hp)
            clear hp
            obtain ⟨v4, hw4, hk4⟩ := HH4.out
            have HW4 := Lib.hid hw4
            have HK4 := Lib.hid hk4
            clear hw4 hk4 HH4
            go_wp2_with fail
            refine (Iw.long _ _ v4 _ (x * 65537) _ HW4.out (by rw [List.length_append, HL3.out]; simp; omega) (by omega) (by omega)).mono ?_
            rintro e w5 hp
            obtain rfl := hp.1
            have hh5 := Has.next HW4.out HK4.out hp
            have HI5 : Hid (its mid z0 j ++ encInt x ++ mid j ++ [x % 256] ++ encLong (x * 65537) = its mid z0 (j + 1)) := by
              show its mid z0 j ++ encInt x ++ mid j ++ [x % 256] ++ encLong (x * 65537) = its mid z0 (j + 1)
              rw [its, HZX.out]
              simp [item]
            rw [HI5.out] at hh5
            have HH5 := Lib.hid hh5
            clear hp hh5
            go_wp2
            exact ⟨⟨j + 1, by omega, by go_num, HH5.out⟩, by simp [intOf]; omega⟩
        · obtain rfl : len0 = j := by omega
          obtain ⟨all, hall⟩ : ∃ all, all = its mid z0 len0 := ⟨_, rfl⟩
          rw [← hall] at HN HW
          have HALL := Lib.hid hall
          have HABY : Hid (∀ x ∈ all, 0 ≤ x ∧ x < 256) := by
            show ∀ x ∈ all, 0 ≤ x ∧ x < 256
            rw [HALL.out]
            refine its_byte (fun j => (HMID.out j).byte) len0 (fun j hj => ?_)
            obtain ⟨b, o, x, _, _, _, hzx, hwx⟩ := HROW.out j hj
            rw [getD_of hzx]
            have := bounds_u32 hwx
            omega
          clear hall hlt hj
          go_wp2_with fail
          refine (bytes_n _ _ v all N _ HN.out HW.out).mono ?_
          rintro e w2 ⟨A2, c2, rfl, hv2, hk2⟩
          have HB2 := Lib.hid (HBR.out.trans (hk2.below HBR.out.size (fun _ h => h.elim)))
          have HV2 := Lib.hid hv2
          clear hv2 hk2 HW HK HBR
          go_wp2_with fail
          refine (Ir.iread A2 N c2 all _ HN.out (Lies.of_own HV2.out) (by omega) HABY.out).mono ?_
          rintro e w3 ⟨g, rfl, hr, hk⟩
          have HB3 := Lib.hid (HB2.out.trans (hk.below HB2.out.size (fun _ h => h.elim)))
          have HR := Lib.hid hr
          have hg3 : w2.heap.size ≤ g := hr.1
          have hgw : w.heap.size ≤ g := Nat.le_trans HB2.out.size hg3
          clear hr hk HV2
          unfold Ir.rd
          go_wp2_with fail
          generalize hW : w3.alloc (.cells #[.pointer (some ⟨g, 0, none⟩)] 39) = W
          have HX : Hid (Ir.Box w3 g W) := by subst hW; exact Ir.Box.new w3 g HR.out.lt
          have HRW := Lib.hid (HX.out.rd HR.out hW.symm)
          clear hW HR
          go_loopw [72] (fun i wr => ∃ j : Nat, j ≤ len0 ∧ i = .int .i64 j ∧ IsRd w2.heap.size g ⟨all, (its mid z0 j).length, 0⟩ wr ∧ Ir.Box w3 g wr) (fun i _ => len0 - (intOf i).toNat)
          case atStart => exact ⟨0, Nat.zero_le _, rfl, HRW.out, HX.out⟩
          case round =>
            obtain ⟨j, hj, rfl, hr, hx⟩ := hrel
            have HR := Lib.hid hr
            have HXR := Lib.hid hx
            have hxc := hx.cell
            have HBW := Lib.hid (HB3.out.trans (hx.2.1.below HB3.out.size (fun k h => by omega)))
            clear hr hx HX HRW
            by_cases hlt : j < len0
            · obtain ⟨b, o, x, rfl, hb, hcx0, hzx, hwx⟩ := HROW.out j hlt
              have hcx : wr.cell? ⟨b, o + j, none⟩ = some (.int .u32 x) := (HBW.out.cell (p := ⟨b, o + j, none⟩) hb).trans hcx0
              have hx := bounds_u32 hwx
              obtain ⟨rest, hrest⟩ := its_split mid z0 len0 j hlt
              rw [getD_of hzx, ← HALL.out] at hrest
              obtain ⟨K, hK⟩ : ∃ K, (its mid z0 j).length = K := ⟨_, rfl⟩
              have hd : all.drop K = encInt x ++ (mid j ++ ([x % 256] ++ (encLong (x * 65537) ++ rest))) := by
                rw [hrest, ← hK, List.drop_left]
                simp [item]
              have HI := Lib.hid (Ib.int_back hd hx.1 (by omega))
              have hd1 : all.drop (K + (encInt x).length) = mid j ++ ([x % 256] ++ (encLong (x * 65537) ++ rest)) := by
                rw [← List.drop_drop, hd, List.drop_left]
              have hd2 : all.drop (K + (encInt x).length + (mid j).length) = [x % 256] ++ (encLong (x * 65537) ++ rest) := by
                rw [← List.drop_drop, hd1, List.drop_left]
              have hd3 : all.drop (K + (encInt x).length + (mid j).length + 1) = encLong (x * 65537) ++ rest := by
                rw [← List.drop_drop, hd2]
                rfl
              have hnx : (its mid z0 (j + 1)).length = K + (encInt x).length + (mid j).length + 1 + (encLong (x * 65537)).length := by
                rw [its, getD_of hzx, List.length_append, hK]
                simp [item]
                omega
              have HBY : Hid (RS.byte ⟨all, K + (encInt x).length + (mid j).length, 0⟩ = (x % 256, ⟨all, K + (encInt x).length + (mid j).length + 1, 0⟩)) := Ww.byte_at (Ib.at_drop hd2 0)
              have HLG : Hid (Ir.RS.long ⟨all, K + (encInt x).length + (mid j).length + 1, 0⟩ = (x * 65537, ⟨all, (its mid z0 (j + 1)).length, 0⟩)) := by
                have h := Ib.long_back hd3 (by omega) (by omega)
                rw [← hnx] at h
                exact h
              have HTK : Hid ((all.drop (K + (encInt x).length)).take (mid j).length = mid j) := by
                show (all.drop (K + (encInt x).length)).take (mid j).length = mid j
                rw [hd1, List.take_left]
              have HLE : Hid (K + (encInt x).length + (mid j).length ≤ all.length) := by
                show K + (encInt x).length + (mid j).length ≤ all.length
                have := congrArg List.length hrest
                rw [List.length_append, hK] at this
                simp [item] at this
                omega
              rw [hK] at HR
              generalize K + (encInt x).length = K1 at *
              clear hcx0 hzx hwx hb hd hd1 hd2 hd3 hnx hrest hK
              go_wp2_with fail
              refine (Ir.int g _ _ _ HR.out).mono ?_
              rintro e w4 ⟨rfl, hr, hk⟩
              rw [HI.out] at hr ⊢
              have HR4 := Lib.hid hr
              have HX4 := Lib.hid (HXR.out.next hk)
              have hx4 := HX4.out.cell
              have HB4 := Lib.hid (HB3.out.trans (HX4.out.2.1.below HB3.out.size (fun k h => by omega)))
              clear hr hk HR HXR hxc HI HBW hcx
              by_cases hj1 : j < len1
              · obtain ⟨b1, o1, A1, n1, c1, ha1, hb1, hcell1, hA0, hnc, hmm⟩ := (HMID.out j).1 hj1
                subst ha1
                have hc1 : w4.cell? ⟨b1, o1 + j, none⟩ = some (.slice A1 n1 c1) := (HB4.out.cell (p := ⟨b1, o1 + j, none⟩) hb1).trans hcell1
                have hi0 : (0 : Int) ≤ (j : Int) := by omega
                have hi1 : (j : Int) < (len1 : Int) := by omega
                rcases hmm with ⟨h50, hml, hmlies, _⟩ | ⟨h50, hm0⟩
                · have hd50 : decide ((n1 : Int) ≤ 50) = true := by simp; omega
                  have HMLN := Lib.hid hml
                  have HMLI := Lib.hid hmlies
                  have HCELL := Lib.hid hcell1
                  obtain ⟨T, hT⟩ : ∃ T, T = strOfNums (mid j) := ⟨_, rfl⟩
                  have HTT := Lib.hid hT
                  have hS4 : (convert 26 9 (.slice A1 n1 c1)).run Try.prog w4.drew = .ok (.string T) w4.drew := by
                    rw [HTT.out]; exact (HMLI.out.below HB4.out.drew).str_n (P := Try.prog) n1 HMLN.out 26 9 5 c1 Try.underlying26 Try.underlying5 Try.underlying9
                  rw [hml] at HBY HLG HTK HLE
                  clear hA0 hml hmlies hcell1 hT
                  go_wp2_with fail
                  refine wp_region_held_drew (S := fun w' => w'.cell? ⟨b1, o1 + j, none⟩ = some (.slice A1 n1 c1) ∧ w'.cell? ⟨w3.heap.size, 0, none⟩ = some (.pointer (some ⟨g, 0, none⟩)) ∧ (convert 26 9 (.slice A1 n1 c1)).run Try.prog w' = .ok (.string T) w') (by kernel_rfl) ⟨hc1, hx4, hS4⟩ (fun hHeld => ?_)
                  refine wpAnyH_take (i := 0) (v := ?v0) rfl (by kernel_rfl) (by kernel_rfl) (by kernel_rfl) (fun _ _ _ h => h) (Or.inl ⟨by rfl, ?y0⟩) hHeld ?r0
                  case y0 => (intro w hSw; (try dsimp only at hSw); go_simp; try with_reducible rfl)
                  simp only [Act.put, List.getElem_toArray, List.getElem_cons_zero, List.setIfInBounds_toArray, List.set_cons_zero, List.set_cons_succ]
                  refine wpAnyH_take (i := 1) (v := ?v1) rfl (by kernel_rfl) (by kernel_rfl) (by kernel_rfl) (fun _ _ _ h => h) (Or.inl ⟨by rfl, ?y1⟩) hHeld ?r1
                  case y1 => (intro w hSw; (try dsimp only at hSw); go_simp; try with_reducible rfl)
                  simp only [Act.put, List.getElem_toArray, List.getElem_cons_succ, List.getElem_cons_zero, List.setIfInBounds_toArray, List.set_cons_zero, List.set_cons_succ]
                  refine wpAnyH_take (i := 2) (v := ?v2) rfl (by kernel_rfl) (by kernel_rfl) (by kernel_rfl) (fun _ _ _ h => h) (Or.inl ⟨by rfl, ?y2⟩) hHeld ?r2
                  case y2 => (intro w hSw; (try dsimp only at hSw); go_simp; try with_reducible rfl)
                  simp only [Act.put, List.getElem_toArray, List.getElem_cons_succ, List.getElem_cons_zero, List.setIfInBounds_toArray, List.set_cons_zero, List.set_cons_succ]
                  refine wpAnyH_take (i := 3) (v := ?v3) rfl (by kernel_rfl) (by kernel_rfl) (by kernel_rfl) (fun _ _ _ h => h) (Or.inl ⟨by rfl, ?y3⟩) hHeld ?r3
                  case y3 => (intro w hSw; (try dsimp only at hSw); go_simp; try with_reducible rfl)
                  simp only [Act.put, List.getElem_toArray, List.getElem_cons_succ, List.getElem_cons_zero, List.setIfInBounds_toArray, List.set_cons_zero, List.set_cons_succ]
                  refine wpAnyH_take (i := 4) (v := ?v4) rfl (by kernel_rfl) (by kernel_rfl) (by kernel_rfl) (fun _ _ _ h => h) (Or.inl ⟨by rfl, ?y4⟩) hHeld ?r4
                  case y4 => (intro w hSw; (try dsimp only at hSw); go_simp; try with_reducible rfl)
                  simp only [Act.put, List.getElem_toArray, List.getElem_cons_succ, List.getElem_cons_zero, List.setIfInBounds_toArray, List.set_cons_zero, List.set_cons_succ]
                  refine wpAnyH_take (i := 5) (v := ?v5) rfl (by kernel_rfl) (by kernel_rfl) (by kernel_rfl) (fun _ _ _ h => h) (Or.inl ⟨by rfl, ?y5⟩) hHeld ?r5
                  case y5 => (intro w hSw; (try dsimp only at hSw); go_simp; try with_reducible rfl)
                  simp only [Act.put, List.getElem_toArray, List.getElem_cons_succ, List.getElem_cons_zero, List.setIfInBounds_toArray, List.set_cons_zero, List.set_cons_succ]
                  refine wpAnyH_take (i := 6) (v := ?v6) rfl (by kernel_rfl) (by kernel_rfl) (by kernel_rfl) (fun _ _ _ h => h) (Or.inl ⟨by rfl, ?y6⟩) hHeld ?r6
                  case y6 => (intro w hSw; (try dsimp only at hSw); go_simp; try with_reducible rfl)
                  simp only [Act.put, List.getElem_toArray, List.getElem_cons_succ, List.getElem_cons_zero, List.setIfInBounds_toArray, List.set_cons_zero, List.set_cons_succ]
                  refine wpAnyH_take (i := 7) (v := ?v7) rfl (by kernel_rfl) (by kernel_rfl) (by kernel_rfl) (fun _ _ _ h => h) (Or.inl ⟨by rfl, ?y7⟩) hHeld ?r7
                  case y7 => (intro w hSw; (try dsimp only at hSw); go_simp; try with_reducible rfl)
                  simp only [Act.put, List.getElem_toArray, List.getElem_cons_succ, List.getElem_cons_zero, List.setIfInBounds_toArray, List.set_cons_zero, List.set_cons_succ]
                  refine wpAnyH_take (i := 8) (v := ?v8) rfl (by kernel_rfl) (by kernel_rfl) (by kernel_rfl) (fun _ _ _ h => h) (Or.inl ⟨by rfl, ?y8⟩) hHeld ?r8
                  case y8 => (intro w hSw; (try dsimp only at hSw); go_simp; try with_reducible rfl)
                  simp only [Act.put, List.getElem_toArray, List.getElem_cons_succ, List.getElem_cons_zero, List.setIfInBounds_toArray, List.set_cons_zero, List.set_cons_succ]
                  refine wpAnyH_take (i := 9) (v := ?v9) rfl (by kernel_rfl) (by kernel_rfl) (by kernel_rfl) (fun _ _ _ h => h) (Or.inl ⟨by rfl, ?y9⟩) hHeld ?r9
                  case y9 => (intro w hSw; (try dsimp only at hSw); go_simp; try with_reducible rfl)
                  simp only [Act.put, List.getElem_toArray, List.getElem_cons_succ, List.getElem_cons_zero, List.setIfInBounds_toArray, List.set_cons_zero, List.set_cons_succ]
                  refine wpAnyH_take (i := 10) (v := ?v10) rfl (by kernel_rfl) (by kernel_rfl) (by kernel_rfl) (fun _ _ _ h => h) (Or.inl ⟨by rfl, ?y10⟩) hHeld ?r10
                  case y10 => (intro w hSw; (try dsimp only at hSw); go_simp; try with_reducible rfl)
                  simp only [Act.put, List.getElem_toArray, List.getElem_cons_succ, List.getElem_cons_zero, List.setIfInBounds_toArray, List.set_cons_zero, List.set_cons_succ]
                  refine wpAnyH_take (i := 11) (v := ?v11) rfl (by kernel_rfl) (by kernel_rfl) (by kernel_rfl) (fun _ _ _ h => h) (Or.inl ⟨by rfl, ?y11⟩) hHeld ?r11
                  case y11 => (intro w hSw; (try dsimp only at hSw); go_simp; try with_reducible rfl)
                  simp only [Act.put, List.getElem_toArray, List.getElem_cons_succ, List.getElem_cons_zero, List.setIfInBounds_toArray, List.set_cons_zero, List.set_cons_succ]
                  refine wpAnyH_take (i := 12) (v := ?v12) rfl (by kernel_rfl) (by kernel_rfl) (by kernel_rfl) (fun _ _ _ h => h) (Or.inl ⟨by rfl, ?y12⟩) hHeld ?r12
                  case y12 => (intro w hSw; (try dsimp only at hSw); go_simp; try with_reducible rfl)
                  simp only [Act.put, List.getElem_toArray, List.getElem_cons_succ, List.getElem_cons_zero, List.setIfInBounds_toArray, List.set_cons_zero, List.set_cons_succ]
                  refine wpAnyH_take (i := 13) (v := ?v13) rfl (by kernel_rfl) (by kernel_rfl) (by kernel_rfl) (fun _ _ _ h => h) (Or.inl ⟨by rfl, ?y13⟩) hHeld ?r13
                  case y13 => (intro w hSw; (try dsimp only at hSw); go_simp; try with_reducible rfl)
                  simp only [Act.put, List.getElem_toArray, List.getElem_cons_succ, List.getElem_cons_zero, List.setIfInBounds_toArray, List.set_cons_zero, List.set_cons_succ]
                  refine wpAnyH_take (i := 14) (v := ?v14) rfl (by kernel_rfl) (by kernel_rfl) (by kernel_rfl) (fun _ _ _ h => h) (Or.inl ⟨by rfl, ?y14⟩) hHeld ?r14
                  case y14 => (intro w hSw; (try dsimp only at hSw); go_simp; try with_reducible rfl)
                  simp only [Act.put, List.getElem_toArray, List.getElem_cons_succ, List.getElem_cons_zero, List.setIfInBounds_toArray, List.set_cons_zero, List.set_cons_succ]
                  refine wpAnyH_take (i := 15) (v := ?v15) rfl (by kernel_rfl) (by kernel_rfl) (by kernel_rfl) (fun _ _ _ h => h) (Or.inl ⟨by rfl, ?y15⟩) hHeld ?r15
                  case y15 => (intro w hSw; (try dsimp only at hSw); go_simp; try with_reducible rfl)
                  simp only [Act.put, List.getElem_toArray, List.getElem_cons_succ, List.getElem_cons_zero, List.setIfInBounds_toArray, List.set_cons_zero, List.set_cons_succ]
                  refine wpAnyH_take (i := 16) (v := ?v16) rfl (by kernel_rfl) (by kernel_rfl) (by kernel_rfl) (fun _ _ _ h => h) (Or.inl ⟨by rfl, ?y16⟩) hHeld ?r16
                  case y16 => (intro w hSw; (try dsimp only at hSw); go_simp; try with_reducible rfl)
                  simp only [Act.put, List.getElem_toArray, List.getElem_cons_succ, List.getElem_cons_zero, List.setIfInBounds_toArray, List.set_cons_zero, List.set_cons_succ]
                  refine wpAnyH_take (i := 17) (v := ?v17) rfl (by kernel_rfl) (by kernel_rfl) (by kernel_rfl) (fun _ _ _ h => h) (Or.inl ⟨by rfl, ?y17⟩) hHeld ?r17
                  case y17 => (intro w hSw; (try dsimp only at hSw); go_simp; try with_reducible rfl)
                  simp only [Act.put, List.getElem_toArray, List.getElem_cons_succ, List.getElem_cons_zero, List.setIfInBounds_toArray, List.set_cons_zero, List.set_cons_succ]
                  refine wpAnyH_take (i := 18) (v := ?v18) rfl (by kernel_rfl) (by kernel_rfl) (by kernel_rfl) (fun _ _ _ h => h) (Or.inl ⟨by rfl, ?y18⟩) hHeld ?r18
                  case y18 => (intro w hSw; (try dsimp only at hSw); go_simp; try with_reducible rfl)
                  simp only [Act.put, List.getElem_toArray, List.getElem_cons_succ, List.getElem_cons_zero, List.setIfInBounds_toArray, List.set_cons_zero, List.set_cons_succ]
                  refine wpAnyH_take (i := 19) (v := ?v19) rfl (by kernel_rfl) (by kernel_rfl) (by kernel_rfl) (fun _ _ _ h => h) (Or.inl ⟨by rfl, ?y19⟩) hHeld ?r19
                  case y19 => (intro w hSw; (try dsimp only at hSw); go_simp; try with_reducible rfl)
                  simp only [Act.put, List.getElem_toArray, List.getElem_cons_succ, List.getElem_cons_zero, List.setIfInBounds_toArray, List.set_cons_zero, List.set_cons_succ]
                  refine wpAnyH_take (i := 22) (v := ?v22) rfl (by kernel_rfl) (by kernel_rfl) (by kernel_rfl) (fun _ _ _ h => h) (Or.inl ⟨by rfl, ?y22⟩) hHeld ?r22
                  case y22 => (intro w hSw; (try dsimp only at hSw); go_simp; try with_reducible rfl)
                  simp only [Act.put, List.getElem_toArray, List.getElem_cons_succ, List.getElem_cons_zero, List.setIfInBounds_toArray, List.set_cons_zero, List.set_cons_succ]
                  refine wpAnyH_take (i := 23) (v := ?v23) rfl (by kernel_rfl) (by kernel_rfl) (by kernel_rfl) (fun _ _ _ h => h) (Or.inl ⟨by rfl, ?y23⟩) hHeld ?r23
                  case y23 => (intro w hSw; (try dsimp only at hSw); go_simp; try with_reducible rfl)
                  simp only [Act.put, List.getElem_toArray, List.getElem_cons_succ, List.getElem_cons_zero, List.setIfInBounds_toArray, List.set_cons_zero, List.set_cons_succ]
                  refine wpAnyH_take (i := 24) (v := ?v24) rfl (by kernel_rfl) (by kernel_rfl) (by kernel_rfl) (fun _ _ _ h => h) (Or.inl ⟨by rfl, ?y24⟩) hHeld ?r24
                  case y24 => (intro w hSw; (try dsimp only at hSw); go_simp; try with_reducible rfl)
                  simp only [Act.put, List.getElem_toArray, List.getElem_cons_succ, List.getElem_cons_zero, List.setIfInBounds_toArray, List.set_cons_zero, List.set_cons_succ]
                  refine wpAnyH_take (i := 25) (v := ?v25) rfl (by kernel_rfl) (by kernel_rfl) (by kernel_rfl) (fun _ _ _ h => h) (Or.inl ⟨by rfl, ?y25⟩) hHeld ?r25
                  case y25 => (intro w hSw; (try dsimp only at hSw); go_simp; try with_reducible rfl)
                  simp only [Act.put, List.getElem_toArray, List.getElem_cons_succ, List.getElem_cons_zero, List.setIfInBounds_toArray, List.set_cons_zero, List.set_cons_succ]
                  refine wpAnyH_take (i := 26) (v := ?v26) rfl (by kernel_rfl) (by kernel_rfl) (by kernel_rfl) (fun _ _ _ h => h) (Or.inl ⟨by rfl, ?y26⟩) hHeld ?r26
                  case y26 => (intro w hSw; (try dsimp only at hSw); go_simp; try with_reducible rfl)
                  simp only [Act.put, List.getElem_toArray, List.getElem_cons_succ, List.getElem_cons_zero, List.setIfInBounds_toArray, List.set_cons_zero, List.set_cons_succ]
                  refine wpAnyH_ready (rs := [20]) (by kernel_rfl) (by simp) ?_
                  refine AllReadyH.cons rfl (fun K hK => ?_) AllReadyH.nil
                  go_simp
                  refine (bytes_yes g _ _ n1 _ (by exact HR4.out) rfl (by exact HLE.out)).mono ?_
                  rintro e w5 ⟨A5, c5, rfl, hv5, hr5, hk5⟩
                  have HR5 := Lib.hid hr5
                  have HX5 := Lib.hid (HX4.out.next hk5.of_drew)
                  have hx5 := HX5.out.cell
                  have HB5 := Lib.hid (HB3.out.trans (HX5.out.2.1.below HB3.out.size (fun k h => by omega)))
                  have hc5 : w5.cell? ⟨b1, o1 + j, none⟩ = some (.slice A1 n1 c1) := (HB5.out.cell (p := ⟨b1, o1 + j, none⟩) hb1).trans HCELL.out
                  have hS5 : (convert 26 9 (.slice A1 n1 c1)).run Try.prog w5 = .ok (.string T) w5 := by
                    rw [HTT.out]; exact (HMLI.out.below HB5.out).str_n (P := Try.prog) n1 HMLN.out 26 9 5 c1 Try.underlying26 Try.underlying5 Try.underlying9
                  have hT5 : (convert 26 9 (.slice A5 n1 c5)).run Try.prog w5 = .ok (.string T) w5 := by
                    have h1 := Lies.of_own hv5
                    simp only [HTK.out] at h1
                    rw [HTT.out]; exact h1.str_n (P := Try.prog) n1 HMLN.out 26 9 5 c5 Try.underlying26 Try.underlying5 Try.underlying9
                  clear hv5 hr5 hk5 hHeld hS4 hc1 hx4 HR4 HX4
                  dsimp only
                  refine hK.out _ _ ⟨hc5, hx5, hS5⟩ (fun hHeld => ?_)
                  clear hK K
                  try simp only [Act.put, List.getElem_toArray, List.getElem_cons_succ, List.getElem_cons_zero, List.setIfInBounds_toArray, List.set_cons_zero, List.set_cons_succ]
                  refine wpAnyH_ready (rs := [21]) (by kernel_rfl) (by simp) ?_
                  refine AllReadyH.cons rfl (fun K hK => ?_) AllReadyH.nil
                  go_simp
                  refine hK.out _ _ ⟨hc5, hx5, hS5⟩ (fun hHeld => ?_)
                  clear hK K
                  try simp only [Act.put, List.getElem_toArray, List.getElem_cons_succ, List.getElem_cons_zero, List.setIfInBounds_toArray, List.set_cons_zero, List.set_cons_succ]
                  refine wpAnyH_take (i := 27) (v := ?v27) rfl (by kernel_rfl) (by kernel_rfl) (by kernel_rfl) (fun _ _ _ h => h) (Or.inl ⟨by rfl, ?y27⟩) hHeld ?r27
                  case y27 => (intro w hSw; (try dsimp only at hSw); go_simp; try with_reducible rfl)
                  simp only [Act.put, List.getElem_toArray, List.getElem_cons_succ, List.getElem_cons_zero, List.setIfInBounds_toArray, List.set_cons_zero, List.set_cons_succ]
                  refine wpAnyH_take (i := 28) (v := ?v28) rfl (by kernel_rfl) (by kernel_rfl) (by kernel_rfl) (fun _ _ _ h => h) (Or.inl ⟨by rfl, ?y28⟩) hHeld ?r28
                  case y28 => (intro w hSw; (try dsimp only at hSw); go_simp; try with_reducible rfl)
                  simp only [Act.put, List.getElem_toArray, List.getElem_cons_succ, List.getElem_cons_zero, List.setIfInBounds_toArray, List.set_cons_zero, List.set_cons_succ]
                  refine wpAnyH_done (by kernel_rfl) ?_ _
                  clear hHeld hS5 hT5 hc5
                  go_wp2_with fail
                  refine (Wr.byte g _ _ _ HR5.out).mono ?_
                  rintro e w7 ⟨rfl, hr, hk⟩
                  rw [HBY.out] at hr ⊢
                  have HR7 := Lib.hid hr
                  have HX7 := Lib.hid (HX5.out.next hk)
                  have hx7 := HX7.out.cell
                  clear hr hk HR5 HX5 hx5
                  go_wp2_with fail
                  refine (Ir.long g _ _ _ HR7.out).mono ?_
                  rintro e w8 ⟨rfl, hr, hk⟩
                  rw [HLG.out] at hr ⊢
                  have HR8 := Lib.hid hr
                  have HX8 := Lib.hid (HX7.out.next hk)
                  clear hr hk
                  go_wp2
                  exact ⟨⟨j + 1, by omega, by go_num, HR8.out, HX8.out⟩, by simp [intOf]; omega⟩
                · have hd50 : decide ((n1 : Int) ≤ 50) = false := by simp; omega
                  rw [hm0, List.length_nil, Nat.add_zero] at HBY HLG
                  go_wp2_with fail
                  go_quiet (fail)
                  have HR5 : Hid (IsRd w2.heap.size g ⟨all, K1, 0⟩ (w4.drewN nq)) := HR4.out
                  have HX5 : Hid (Ir.Box w3 g (w4.drewN nq)) := by
                    show Ir.Box w3 g (w4.drewN nq)
                    obtain ⟨h1, h2, h3⟩ := HX4.out
                    exact ⟨h1, h2.drewN nq, h3⟩
                  have hx5 := HX5.out.cell
                  generalize w4.drewN nq = w5 at HR5 HX5 hx5 ⊢
                  go_wp2_with fail
                  refine (Wr.byte g _ _ _ HR5.out).mono ?_
                  rintro e w7 ⟨rfl, hr, hk⟩
                  rw [HBY.out] at hr ⊢
                  have HR7 := Lib.hid hr
                  have HX7 := Lib.hid (HX5.out.next hk)
                  have hx7 := HX7.out.cell
                  clear hr hk HR5 HX5 hx5
                  go_wp2_with fail
                  refine (Ir.long g _ _ _ HR7.out).mono ?_
                  rintro e w8 ⟨rfl, hr, hk⟩
                  rw [HLG.out] at hr ⊢
                  have HR8 := Lib.hid hr
                  have HX8 := Lib.hid (HX7.out.next hk)
                  clear hr hk
                  go_wp2
                  exact ⟨⟨j + 1, by omega, by go_num, HR8.out, HX8.out⟩, by simp [intOf]; omega⟩
              · have hi1 : ¬ ((j : Int) < (len1 : Int)) := by omega
                have hm0 := (HMID.out j).2 hj1
                rw [hm0, List.length_nil, Nat.add_zero] at HBY HLG
                go_wp2_with fail
                go_quiet (fail)
                have HR5 : Hid (IsRd w2.heap.size g ⟨all, K1, 0⟩ (w4.drewN nq)) := HR4.out
                have HX5 : Hid (Ir.Box w3 g (w4.drewN nq)) := by
                  show Ir.Box w3 g (w4.drewN nq)
                  obtain ⟨h1, h2, h3⟩ := HX4.out
                  exact ⟨h1, h2.drewN nq, h3⟩
                have hx5 := HX5.out.cell
                generalize w4.drewN nq = w5 at HR5 HX5 hx5 ⊢
                go_wp2_with fail
                refine (Wr.byte g _ _ _ HR5.out).mono ?_
                rintro e w7 ⟨rfl, hr, hk⟩
                rw [HBY.out] at hr ⊢
                have HR7 := Lib.hid hr
                have HX7 := Lib.hid (HX5.out.next hk)
                have hx7 := HX7.out.cell
                clear hr hk HR5 HX5 hx5
                go_wp2_with fail
                refine (Ir.long g _ _ _ HR7.out).mono ?_
                rintro e w8 ⟨rfl, hr, hk⟩
                rw [HLG.out] at hr ⊢
                have HR8 := Lib.hid hr
                have HX8 := Lib.hid (HX7.out.next hk)
                clear hr hk
                go_wp2
                exact ⟨⟨j + 1, by omega, by go_num, HR8.out, HX8.out⟩, by simp [intOf]; omega⟩
            · obtain rfl : len0 = j := by omega
              have HF : Hid (RS.fin ⟨all, (its mid z0 len0).length, 0⟩ = 0) := by
                show RS.fin ⟨all, (its mid z0 len0).length, 0⟩ = 0
                rw [← HALL.out]
                simp [RS.fin]
              go_wp2_with fail
              refine (Wr.end_ g _ _ _ HR.out).mono ?_
              rintro e w9 ⟨rfl, q, rfl⟩
              rw [HF.out]
              go_wp2
              go_ret
              exact ⟨rfl, below_drewN HBW.out q⟩
    · have hd1 : decide ((20 : Int) < (len1 : Int)) = true := by simp; omega
      clear w0 w1 hrow hzl
      go_enter Try.func8, Try.ntmps8
      go_wp2_with fail
      refine (Aw.awake _).mono ?_
      rintro e w1 ⟨rfl, hb⟩
      have HB := Lib.hid hb
      clear hb
      go_wp2
      go_ret
      exact ⟨rfl, HB.out⟩
  · have hd0 : decide ((20 : Int) < (len0 : Int)) = true := by simp; omega
    clear w0 w1 hrow hzl
    go_enter Try.func8, Try.ntmps8
    go_wp2_with fail
    refine (Aw.awake _).mono ?_
    rintro e w1 ⟨rfl, hb⟩
    have HB := Lib.hid hb
    clear hb
    go_wp2
    go_ret
    exact ⟨rfl, HB.out⟩

set_option maxRecDepth 100000 in
theorem lifted (os : Os) (started : os.Started) (H : Type) (enc : TypeId × Value → H) :
    ReturnsInHanded {} Try.checked os 8 .any (Rows.itfMixesSpec.pre6 enc Try.prog Try.f8 Rows.itfMixesRow.domain false) (Rows.itfMixesSpec.post enc Try.prog Try.f8 false true false false) := by
  refine returnsInHanded_of_change (C := Try.checked) own started (by kernel_rfl) Try.func8
    (ChangeSpec.witness6 (enc := enc) (C := Try.checked) false ⟨#[], #[.slice none 0 0, .slice none 0 0], []⟩ 8 (by kernel_rfl) (by kernel_rfl) (by kernel_rfl) (by kernel_rfl)) ?_
  intro W base args ds gs before hval0 hW hcnd _
  have hval : ∀ (j : Nat) t v, Try.f8.params[j]? = some t → args[j]? = some v → Value.okWide Try.prog W .any base t v := hval0
  have hW' := hW
  obtain ⟨p, q, hA0, hV, rfl, hfz, hnd⟩ := hW
  have hA : DataW.TrodAll enc Try.prog W 0 (fun _ => true) true Try.f8.params.toList args.toList ds p := hA0
  rw [Try.params8] at hA hval
  obtain ⟨v0, vs0, d0, ds0, p0, q0, hargs, rfl, rfl, h0, r0⟩ := trodAll_cons hA
  obtain ⟨v1, vs1, d1, ds1, p1, q1, rfl, rfl, rfl, h1, r1⟩ := trodAll_cons r0
  obtain ⟨rfl, rfl, rfl⟩ := trodAll_nil r1
  obtain rfl : args = #[v0, v1] := by cases args; simp_all
  obtain ⟨rfl, rfl⟩ := trodVars_none hV
  obtain ⟨a0, len0, cap0, rfl⟩ := okWide_slice Try.underlying22 (hval 0 22 v0 rfl rfl)
  have k0 := h0
  have lt0 : ∀ x ∈ p0, x.block < W.heap.size := by obtain ⟨m, hm⟩ := k0; exact DataW.trod_lt m _ _ _ hm
  obtain ⟨z0, w0⟩ : ∃ zs, IsRow .u32 W a0 len0 cap0 zs := by
    obtain ⟨fuel, hf⟩ := h0
    exact open_row Try.underlying22 Try.underlying31 (by kernel_rfl) hf
  obtain ⟨a1, len1, cap1, rfl⟩ := okWide_slice Try.underlying57 (hval 1 57 v1 rfl rfl)
  have k1 := h1
  have lt1 : ∀ x ∈ p1, x.block < W.heap.size := by obtain ⟨m, hm⟩ := k1; exact DataW.trod_lt m _ _ _ hm
  have w1 : IsRows .u8 W a1 len1 cap1 := by
    obtain ⟨fuel, hf⟩ := h1
    exact open_rows Try.underlying57 Try.underlying26 Try.underlying5 (by kernel_rfl) (by kernel_rfl) hf
  clear hA0 hval0
  refine (walk a0 len0 cap0 z0 a1 len1 cap1 W w0 w1).mono fun e W' ⟨he, bel⟩ => ?_
  subst he
  exact ⟨_, rfl, _, _, _, [], _, [], hW', trodAll_mk1 (shut_bool Try.underlying4 _), (trodAll_cons_mk (Below.trod laidOut (by kernel_rfl) (of_decide_eq_true (by kernel_rfl)) k0 bel lt0) (trodAll_cons_mk (Below.trod laidOut (by kernel_rfl) (of_decide_eq_true (by kernel_rfl)) k1 bel lt1) trodAll_mk0)), rfl, bel.frame _, fun h => by cases h⟩

theorem over : Rows.itfMixesRow.holds Try.pinned (OpenSpec.ofChange Rows.itfMixesSpec) :=
  OpenClaim.holds_of_wide 8 Try.f8 rfl rfl rfl rfl rfl rfl rfl ⟨rfl, rfl, rfl, rfl, rfl⟩ rfl rfl rfl rfl rfl (by kernel_rfl) Try.func8 (by kernel_rfl)
    (of_decide_eq_true (by kernel_rfl)) (by unfold Func.isWrapper; first | (rw [if_pos (by decide +kernel)]; kernel_rfl) | (rw [if_neg (by decide +kernel)]; exact ⟨rfl, rfl⟩))
    (fun os started H enc _ => lifted os started H enc)

/-- The statement, as given. -/
theorem proved : Rows.ItfMixesSaid :=
  over
end Go.Proofs.Ytnbgcepejhggnaa.itfMixes
namespace Go.Proofs.Ytnbgcepejhggnaa
/-- The statement, as given. -/
theorem itfMixes_holds : Rows.ItfMixesSaid := itfMixes.proved
#print axioms itfMixes_holds
end Go.Proofs.Ytnbgcepejhggnaa

/- A byte's parts go into a state (rans.State.Put). -/
import Derived.Test.YtnanmenoemajfaaRnTab
import Derived.Test.YtnanmenoemajfaaWireWr
import Derived.Outline
import Derived.RegionTactic
import Derived.BigQuiet
import Derived.Deep.RegionHeld3
namespace Go.Proofs.Ytnanmenoemajfaa.Rs
open Go.RowKit Go.Proofs.Ytnanmenoemajfaa.Gen Go.Proofs.Ytnanmenoemajfaa.Wr Go.Proofs.Ytnanmenoemajfaa.Ww Go.Proofs.Ytnanmenoemajfaa.It Go.Proofs.Ytnanmenoemajfaa.Ir Go.Proofs.Ytnanmenoemajfaa.Ib Go.Proofs.Ytnanmenoemajfaa.Fq Go.Proofs.Ytnanmenoemajfaa.Fb Go.Proofs.Ytnanmenoemajfaa.Rp

/-- Where a row of bytes lies that grows: as it was, or new. -/
def At (w : World) (v v1 : Value) : Prop := v1.ownBlock = v.ownBlock ∨ ∃ b, v1.ownBlock = some b ∧ w.heap.size ≤ b
/-- What Put does with a state and a row of bytes. -/
def SPuts (base o : Nat) (v : Value) (ys G : List Int) (S : Nat) (w : World) (r : Ending) (w' : World) : Prop :=
  r = .returned (.int .u32 (S : Int)) ∧ ∃ v', IsWr base o v' (ys ++ G) w' ∧ Keeps (Its o v) w w' ∧ At w v v'
/-- Between two rounds. -/
structure Rd (base o : Nat) (v v1 : Value) (ys G D : List Int) (p s q f s1 : Nat) (w wr : World) : Prop where
  out : G = D ++ outs q f s1
  kpt : kept p s = lft q f s1
  room : (f = 2 ∧ s1 < 2147483648) ∨ (f = 1 ∧ s1 < 8388608) ∨ (f = 0 ∧ s1 < 32768)
  len : D.length + f ≤ 2
  iswr : IsWr base o v1 (ys ++ D) wr
  keeps : Keeps (Its o v) w wr
  at_ : At w v v1
theorem left_now {q s1 : Nat} (h : ¬ q ≤ s1) : ∀ f, lft q f s1 = s1
  | 0 => rfl
  | f + 1 => by rw [lft, if_neg h]
theorem outs_now {q s1 : Nat} (h : ¬ q ≤ s1) : ∀ f, outs q f s1 = []
  | 0 => rfl
  | f + 1 => by rw [outs, if_neg h]
theorem its_next {g : Nat} {v v1 : Value} {w w1 w2 : World} (k : Keeps (Its g v) w w1) (ho : At w v v1) (k2 : Keeps (Its g v1) w1 w2) : Keeps (Its g v) w w2 := by
  refine ⟨k2.os.trans k.os, k2.tape.trans k.tape, k2.output.trans k.output, Nat.le_trans k.size k2.size, fun b hb hn => ?_⟩
  refine (k2.block b (Nat.lt_of_lt_of_le hb k.size) ?_).trans (k.block b hb hn)
  rintro (h | h)
  · exact hn (.inl h)
  · rcases ho with h1 | ⟨c, h1, h2⟩
    · exact hn (.inr (h1 ▸ h))
    · rw [h1] at h
      injection h with h
      omega
theorem at_next {v v1 v2 : Value} {w w1 : World} (hs : w.heap.size ≤ w1.heap.size) (h : At w v v1) (h2 : At w1 v1 v2) : At w v v2 := by
  rcases h2 with h2 | ⟨b, h2, h3⟩
  · rcases h with h | ⟨b, h, h4⟩
    · exact .inl (h2.trans h)
    · exact .inr ⟨b, h2.trans h, h4⟩
  · exact .inr ⟨b, h2, by omega⟩

set_option maxHeartbeats 4000000 in
set_option maxRecDepth 100000 in
theorem sput (o base : Nat) (v : Value) (ys : List Int) (st p s S : Nat) (G : List Int) (w : World) (h : IsWr base o v ys w) (hn : ys.length + 2 ≤ 1000000) (hs : In s) (hp : 1 ≤ p) (hst : st + p ≤ 4096) (hS : push st p s = S) (hG : gone p s = G) :
    Calls Try.prog 33 #[.int .u32 (s : Int), .int .i64 (st : Int), .int .i64 (p : Int), .pointer (some ⟨o, 0, none⟩)] w (SPuts base o v ys G S w) := by
  obtain ⟨i0, hi0, hz0, hz1, hz2⟩ := info_parts u8_info
  obtain ⟨q, hq⟩ : ∃ q, p * 524288 = q := ⟨_, rfl⟩
  have HI0 : Hid (Rd base o v v ys G [] p s q 2 s w w) := ⟨by rw [← hG, ← hq]; rfl, by rw [← hq]; rfl, .inl ⟨rfl, hs.2⟩, by simp, by simpa using h, Keeps.refl _ _, .inl rfl⟩
  have HKI := Lib.hid (kept_in hs hp (by omega))
  have HPI := Lib.hid (push_in hs hp hst)
  have HS := Lib.hid hS
  have HN := Lib.hid hn
  have HP := Lib.hid hp
  have HST := Lib.hid hst
  have hp1 : ¬ ((p : Int) < 1) := by omega
  have hp2 : ¬ ((4096 : Int) < (p : Int)) := by omega
  have hwp : IntKind.u32.wrap (p : Int) = (p : Int) := IntWalk.u32_in _ (by omega)
  have hwq : IntKind.u32.wrap ((p : Int) * 524288) = (q : Int) := by rw [IntWalk.u32_in _ (by omega)]; omega
  have hws : IntKind.u32.wrap (st : Int) = (st : Int) := IntWalk.u32_in _ (by omega)
  have HQ1 : Hid (524288 ≤ q) := by show 524288 ≤ q; omega
  have HQ := Lib.hid hq
  clear h hs hS hG hq hn hp hst
  go_enter Try.func33, Try.ntmps33
  go_wp2
  go_loopw [0] (fun sv wr => ∃ (f s1 : Nat) (v1 : Value) (D : List Int), sv = .int .u32 (s1 : Int) ∧ Hid (Rd base o v v1 ys G D p s q f s1 w wr)) (fun sv _ => (intOf sv).toNat)
  case atStart => exact ⟨2, s, v, [], rfl, HI0⟩
  case round =>
    obtain ⟨f, s1, v1, D, rfl, HH⟩ := hrel
    by_cases hqs : q ≤ s1
    · obtain ⟨f', rfl⟩ : ∃ f', f = f' + 1 := ⟨f - 1, by have := HH.out.room; have := HQ1.out; omega⟩
      obtain ⟨h1, h2, h3, ⟨A, c, rfl⟩, h5, h6⟩ := HH.out.iswr
      obtain ⟨m, hm⟩ : ∃ m, (ys ++ D).length = m := ⟨_, rfl⟩
      have hmb : m + 1 ≤ 1000000 := by have := HH.out.len; have := HN.out; rw [← hm, List.length_append]; omega
      rw [hm] at h5 h6
      have HM := Lib.hid hm
      have hc : wr.cell? ⟨o, 0, none⟩ = some (.slice A m c) := h5.cell
      have H5 := Lib.hid h5
      have H6 := Lib.hid h6
      obtain ⟨x, hx⟩ : ∃ x : Nat, s1 % 256 = x := ⟨_, rfl⟩
      have hwx : IntKind.u8.wrap (s1 : Int) = (x : Int) := by simp [IntKind.wrap, IntKind.bits, IntKind.signed]; omega
      have hge : ¬ ((s1 : Int) < (q : Int)) := by omega
      have hle : (q : Int) ≤ (s1 : Int) := by omega
      obtain ⟨y, hy⟩ : ∃ y : Nat, s1 / 256 = y := ⟨_, rfl⟩
      have hdv : (s1 : Int) / 256 = (y : Int) := by omega
      have hnews : ∀ j u, [Value.int .u8 (x : Int)][j]? = some u → (wr.alloc (.cells #[.int .u8 (x : Int)] 5)).cell? ((⟨wr.heap.size, 0, none⟩ : Addr).add j) = some u := by
        intro j u hu
        rw [add_none, (Blk.new wr 5 #[.int .u8 (x : Int)]).cell]
        simpa using hu
      have HNX : Hid (G = (D ++ [(x : Int)]) ++ outs q f' y ∧ kept p s = lft q f' y) := by
        have h8 := HH.out.out
        have h9 := HH.out.kpt
        rw [outs, if_pos hqs, hx, hy] at h8
        rw [lft, if_pos hqs, hy] at h9
        exact ⟨by rw [h8]; simp, h9⟩
      have HXX := Lib.hid hx
      have HYY := Lib.hid hy
      have H1 := Lib.hid h1
      have H2 := Lib.hid h2
      have HQS := Lib.hid hqs
      have HMB := Lib.hid hmb
      clear h1 h2 h3 h5 h6 hm hx hy hqs hmb
      go_wp2_with (
        at_builtin
        (
        refine wpList_append_own_at _ rfl (.tmp 29) (.tmp 32) _ rfl base 5 i0 _ 1 1 Try.underlying22 hi0 hz0 hz1 hz2 rfl (by omega) (.slice A m c) m (bv (ys ++ D)) rfl
          (H6.out.alloc _) ⟨wr.heap.size, 0, none⟩ 1 1 [.int .u8 (x : Int)] rfl rfl hnews (by simp [Value.oneCell']) (by have := HMB.out; simp only [maxLen]; omega) (by have := HMB.out; omega) (by have := H2.out; simp; omega) ?_
        intro v2 w1 hown1 hg1 hnil1 hat1
        have h7 : WBlk w1 o (.slice A m c) := (H5.out.alloc _).grown hg1 (H5.out.own_ne H6.out)
        have hc1 : w1.cell? ⟨o, 0, none⟩ = some (.slice A m c) := h7.cell
        have hf1 : w1.frozen? ⟨o, 0, none⟩ = false := h7.frozen
        have H7 := Lib.hid h7
        have HO1 := Lib.hid hown1
        have HG1 := Lib.hid hg1
        have HA1 := Lib.hid hat1
        obtain ⟨A1, c1, rfl, _⟩ := own_form hown1
        clear h7 hown1 hg1 hnil1 hat1))
      have HP2 : Hid (Puts base o (.slice A m c) ((ys ++ D) ++ [(x : Int)]) wr (.returned (.tuple #[])) (w1.setCell ⟨o, 0, none⟩ (.slice A1 (m + 1) c1))) := by
        have e : (ys ++ D ++ [(x : Int)]).length = m + 1 := by rw [List.length_append, HM.out]; rfl
        refine Ww.stored rfl H1.out H2.out H7.out (by have := HMB.out; omega) (by rw [e]; simpa [bv_append, bv] using HO1.out) (((Keeps.refl _ _).alloc _).grown HG1.out (fun k hk => .inl (.inr hk))) ?_
        rcases HA1.out with h | h
        · exact .inl h
        · exact .inr ⟨_, h, by simp⟩
      obtain ⟨_, v2, hw2, hk2, ho2⟩ := HP2.out
      refine ⟨⟨f', y, v2, D ++ [(x : Int)], rfl, Lib.hid ⟨HNX.out.1, HNX.out.2, ?_, ?_, by rw [← List.append_assoc]; exact hw2, its_next HH.out.keeps HH.out.at_ (by rw [HM.out]; exact hk2), at_next HH.out.keeps.size HH.out.at_ (by rw [HM.out]; exact ho2)⟩⟩, ?_⟩
      · have := HH.out.room; have := HYY.out; omega
      · have := HH.out.len; rw [List.length_append]; simp; omega
      · have := HYY.out; have := HQS.out; have := HQ1.out; simp [intOf]; omega
    · have hlt : (s1 : Int) < (q : Int) := by omega
      have hkp : kept p s = s1 := by rw [HH.out.kpt, left_now hqs]
      have HGD : Hid (G = D) := by show G = D; rw [HH.out.out, outs_now hqs, List.append_nil]
      obtain ⟨a, ha⟩ : ∃ a : Nat, s1 / p = a := ⟨_, rfl⟩
      obtain ⟨b, hb⟩ : ∃ b : Nat, s1 % p = b := ⟨_, rfl⟩
      have HE : Hid (S = a * 4096 + b + st) := by show S = _; rw [← HS.out, push, hkp, ha, hb]
      have hpi := HPI.out
      rw [HS.out] at hpi
      have hSb : S < 2147483648 := hpi.1.2
      have hSv := HE.out
      have hpz : ¬ ((p : Int) = 0) := by omega
      have hdiv : (s1 : Int) / (p : Int) = (a : Int) := by rw [← ha]; simp
      have hmod : (s1 : Int) % (p : Int) = (b : Int) := by rw [← hb]; simp
      have htd : Int.tdiv (s1 : Int) (p : Int) = (a : Int) := by rw [Int.tdiv_eq_ediv_of_nonneg (by omega)]; exact hdiv
      have htm : Int.tmod (s1 : Int) (p : Int) = (b : Int) := by rw [Int.tmod_eq_emod_of_nonneg (by omega)]; exact hmod
      have hw1 : IntKind.u32.wrap ((a : Int) * 4096) = (a : Int) * 4096 := IntWalk.u32_in _ (by omega)
      have hw2 : IntKind.u32.wrap ((a : Int) * 4096 + (b : Int)) = (a : Int) * 4096 + (b : Int) := IntWalk.u32_in _ (by omega)
      have hw3 : IntKind.u32.wrap ((a : Int) * 4096 + (b : Int) + (st : Int)) = (S : Int) := by rw [IntWalk.u32_in _ (by omega)]; omega
      have HFI : Hid (SPuts base o v ys G S w (.returned (.int .u32 (S : Int))) wr) := ⟨rfl, v1, by rw [HGD.out]; exact HH.out.iswr, HH.out.keeps, HH.out.at_⟩
      have HSB := Lib.hid hSb
      clear hqs hkp ha hb hpi hSb hSv hw1 hw2 hw3
      go_upto_region 7 with fail
      go_quiet (fail)
      go_wp2
      go_ret
      obtain ⟨g1, v2, g2, g3, g4⟩ := HFI.out
      have e1 := HE.out
      have e2 := HSB.out
      have hv : (((a : Int) % 4294967296 * 4096 + (b : Int)) % 4294967296 + (st : Int)) % 4294967296 = (S : Int) := by omega
      refine ⟨?_, v2, g2.keeps ((Keeps.refl (fun _ => False) _).drewN _) (fun _ _ => id), g3.drewN _, g4⟩
      rw [← hv]
      rfl
end Go.Proofs.Ytnanmenoemajfaa.Rs

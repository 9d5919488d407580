/- The statement ItfGrows (P2.1: a greater number has no fewer bytes; of as many it comes later in order) holds for every input: the Go function answers true, and its arguments read as before. No conditions beyond the row's own. -/
import Derived.Test.YtnbgcepejhggnaaRows
import Derived.WalkKit
import Derived.Below
import Derived.Test.YtnbgcepejhggnaaItfOrd
import Derived.Test.YtnbgcepejhggnaaAwake2
import Derived.Outline
import Derived.Deep.RegionHeld3
import Derived.ProofKit
import Derived.OpenShut
import Derived.ShutString
namespace Go.Proofs.Ytnbgcepejhggnaa.itfGrows
open Go.ChangeShapes Go.WideShapes Go.ChangeAt Go.RowKit
open Go.ChangeMaps (open_string shut_string)
open Go.Proofs.Ytnbgcepejhggnaa.Gen Go.Proofs.Ytnbgcepejhggnaa.Wr Go.Proofs.Ytnbgcepejhggnaa.Ww Go.Proofs.Ytnbgcepejhggnaa.It Go.Proofs.Ytnbgcepejhggnaa.Od
set_option linter.unusedVariables false

theorem own : ownKnob Try.prog.godebug = none := by kernel_rfl

/-- A Writer in block g, of rows from block t on. -/
def Wt (B t g : Nat) (ys : List Int) (w : World) : Prop := ∃ v, IsWr B g v ys w ∧ ∀ b, v.ownBlock = some b → t ≤ b
/-- It stays, when another one, a new one, is put into. -/
theorem Wt.put {B t g g' : Nat} {ys zs : List Int} {w w1 : World} {r : Ending} (h : Wt B t g ys w) (hp : Puts B g' (.slice none 0 0) zs w r w1) (hne : g ≠ g') (ht : g' < t) : Wt B t g ys w1 := by
  obtain ⟨v, hw, hb⟩ := h
  obtain ⟨_, v', _, hk, _⟩ := hp
  refine ⟨v, hw.keeps hk (fun b hi hj => ?_), hb⟩
  rcases hj with rfl | hj
  · rcases hi with hi | hi
    · exact hne hi.symm
    · have := hb b hi
      omega
  · simp [Value.ownBlock] at hj
theorem wt_new {B t g : Nat} {zs : List Int} {w w1 : World} {r : Ending} (hp : Puts B g (.slice none 0 0) zs w r w1) (ht : t ≤ w.heap.size) : Wt B t g zs w1 := by
  obtain ⟨_, v', hw, _, ho⟩ := hp
  refine ⟨v', hw, fun b hb => ?_⟩
  rcases ho with ho | ⟨b', ho, hb'⟩
  · rw [ho] at hb
    simp [Value.ownBlock] at hb
  · rw [ho] at hb
    injection hb with hb
    omega
theorem Wt.more {B t g : Nat} {ys : List Int} {w w1 : World} (h : Wt B t g ys w) (k : Keeps (fun _ => False) w w1) : Wt B t g ys w1 := by
  obtain ⟨v, hw, hb⟩ := h
  exact ⟨v, hw.keeps k (fun _ _ => id), hb⟩
theorem Wt.bytes {B t g : Nat} {ys : List Int} {w : World} (n : Nat) (h : Wt B t g ys w) (hn : ys.length = n) : Calls Try.prog 14 #[.pointer (some ⟨g, 0, none⟩)] w (Own w.heap.size n ys w) := by
  obtain ⟨v, hw, _⟩ := h
  exact bytes_n g B v ys n w hn hw
theorem Wt.len {B t g : Nat} {ys : List Int} {w : World} (n : Nat) (h : Wt B t g ys w) (hn : ys.length = n) : Calls Try.prog 25 #[.pointer (some ⟨g, 0, none⟩)] w fun r w' => r = .returned (.int .i64 n) ∧ w' = w := by
  obtain ⟨v, hw, _⟩ := h
  exact len_n g B v ys n w hn hw
/-- Four new Writers. -/
def four (w : World) : World := (((w.alloc (.cells #[.slice none 0 0] 30)).alloc (.cells #[.slice none 0 0] 30)).alloc (.cells #[.slice none 0 0] 30)).alloc (.cells #[.slice none 0 0] 30)
theorem wr_nil {B g : Nat} {w : World} (hg : B ≤ g) (hB : B ≤ w.heap.size) (hb : Blk w g 30 #[.slice none 0 0]) : IsWr B g (.slice none 0 0) [] w :=
  ⟨hg, hB, by simp, ⟨none, 0, rfl⟩, ⟨30, by decide, hb⟩, World.ownsRow_nil _ _ _ _⟩
theorem four_is (w : World) : IsWr w.heap.size w.heap.size (.slice none 0 0) [] (four w) ∧ IsWr w.heap.size (w.heap.size + 1) (.slice none 0 0) [] (four w) ∧ IsWr w.heap.size (w.heap.size + 1 + 1) (.slice none 0 0) [] (four w) ∧ IsWr w.heap.size (w.heap.size + 1 + 1 + 1) (.slice none 0 0) [] (four w) := by
  have hs : w.heap.size ≤ (four w).heap.size := by simp [four]; omega
  have h1 := Blk.new w 30 #[.slice none 0 0]
  have h2 := Blk.new (w.alloc (.cells #[.slice none 0 0] 30)) 30 #[.slice none 0 0]
  have h3 := Blk.new ((w.alloc (.cells #[.slice none 0 0] 30)).alloc (.cells #[.slice none 0 0] 30)) 30 #[.slice none 0 0]
  have h4 := Blk.new (((w.alloc (.cells #[.slice none 0 0] 30)).alloc (.cells #[.slice none 0 0] 30)).alloc (.cells #[.slice none 0 0] 30)) 30 #[.slice none 0 0]
  simp only [World.size_alloc] at h2 h3 h4
  exact ⟨wr_nil (by omega) hs (((h1.alloc _).alloc _).alloc _), wr_nil (by omega) hs ((h2.alloc _).alloc _), wr_nil (by omega) hs (h3.alloc _), wr_nil (by omega) hs h4⟩
theorem nil_wt {B t g : Nat} {w : World} (h : IsWr B g (.slice none 0 0) [] w) : Wt B t g [] w := ⟨_, h, fun b hb => by simp [Value.ownBlock] at hb⟩
/-- A new Writer that another one's put has left as it was. -/
theorem nil_put {B g g' : Nat} {zs : List Int} {w w1 : World} {r : Ending} (h : IsWr B g (.slice none 0 0) [] w) (hp : Puts B g' (.slice none 0 0) zs w r w1) (hne : g ≠ g') : IsWr B g (.slice none 0 0) [] w1 := by
  obtain ⟨_, v', _, hk, _⟩ := hp
  refine h.keeps hk (fun b hi hj => ?_)
  have e1 : b = g := by rcases hi with hi | hi; exact hi; simp [Value.ownBlock] at hi
  have e2 : b = g' := by rcases hj with hj | hj; exact hj; simp [Value.ownBlock] at hj
  omega
theorem puts_up {B g : Nat} {v : Value} {zs : List Int} {w w1 : World} {r : Ending} (h : IsWr B g v [] w) (hp : Puts B g v zs w r w1) : Keeps (B ≤ ·) w w1 := by
  obtain ⟨_, v', _, hk, _⟩ := hp
  exact hk.mono fun b _ hb => h.its b hb
set_option maxHeartbeats 4000000 in
set_option maxRecDepth 100000 in
theorem walk (a0 : Int) (a1 : Int) (a2 : Int) (a3 : Int) (w0 : (Lit.int .u32 a0).wf = true) (w1 : (Lit.int .u32 a1).wf = true) (w2 : (Lit.int .u64 a2).wf = true) (w3 : (Lit.int .u64 a3).wf = true) (w : World) :
    Calls Try.prog 7 #[.int .u32 a0, .int .u32 a1, .int .u64 a2, .int .u64 a3] w fun e w' => e = .returned (.bool true) ∧ Below w.heap.size w w' := by
  have b0 := bounds_u32 w0
  have b1 := bounds_u32 w1
  have b2 := bounds_u64 w2
  have b3 := bounds_u64 w3
  clear w0 w1 w2 w3
  obtain ⟨p, hp⟩ : ∃ p, p = min a0 a1 := ⟨_, rfl⟩
  obtain ⟨q, hq⟩ : ∃ q, q = max a0 a1 := ⟨_, rfl⟩
  obtain ⟨s, hs⟩ : ∃ s, s = min a2 a3 := ⟨_, rfl⟩
  obtain ⟨t, ht⟩ : ∃ t, t = max a2 a3 := ⟨_, rfl⟩
  have hpq : 0 ≤ p ∧ p ≤ q ∧ q < 4294967296 := by omega
  have hst : 0 ≤ s ∧ s ≤ t ∧ t < 18446744073709551616 := by omega
  obtain ⟨n1, hn1⟩ : ∃ n, (encInt p).length = n := ⟨_, rfl⟩
  obtain ⟨n2, hn2⟩ : ∃ n, (encInt q).length = n := ⟨_, rfl⟩
  obtain ⟨n3, hn3⟩ : ∃ n, (encLong s).length = n := ⟨_, rfl⟩
  obtain ⟨n4, hn4⟩ : ∃ n, (encLong t).length = n := ⟨_, rfl⟩
  have hl2 : n2 ≤ 5 := by rw [← hn2]; exact (Ib.encInt_len q).2
  have hl4 : n4 ≤ 9 := by rw [← hn4]; exact (Ib.encLong_len t).2
  have HO1 := Lib.hid (int_ordered hpq.1 hpq.2.1 hpq.2.2)
  have HO2 := Lib.hid (long_ordered hst.1 hst.2.1 hst.2.2)
  have HP := Lib.hid hp
  have HQ := Lib.hid hq
  have HS := Lib.hid hs
  have HTT := Lib.hid ht
  have HN1 := Lib.hid hn1
  have HN2 := Lib.hid hn2
  have HN3 := Lib.hid hn3
  have HN4 := Lib.hid hn4
  clear hp hq hs ht hn1 hn2 hn3 hn4
  go_enter Try.func7, Try.ntmps7
  go_wp2_with fail
  refine (Aw.awake _).mono ?_
  rintro e w1 ⟨rfl, hb1⟩
  have HB1 := Lib.hid hb1
  clear hb1
  go_wp2_with fail
  obtain ⟨f1, f2, f3, f4⟩ := four_is w1
  have hsz : (four w1).heap.size = w1.heap.size + 1 + 1 + 1 + 1 := by simp [four]
  have hkf : Keeps (w1.heap.size ≤ ·) w1 (four w1) := ((((Keeps.refl _ _).alloc _).alloc _).alloc _).alloc _
  rw [← HP.out]
  change Calls Try.prog _ _ (four w1) _
  generalize hW : four w1 = W at f1 f2 f3 f4 hsz hkf ⊢
  clear hW
  have F2 := Lib.hid f2
  have F3 := Lib.hid f3
  have F4 := Lib.hid f4
  refine (Iw.int _ _ _ [] p _ f1 (by simp) hpq.1 (by omega)).mono ?_
  rintro e w2 hp
  obtain rfl := hp.1
  rw [List.nil_append] at hp
  have G1 := Lib.hid (wt_new (t := w1.heap.size + 1 + 1 + 1 + 1) hp (by omega))
  have G2 := Lib.hid (nil_put F2.out hp (by omega))
  have G3 := Lib.hid (nil_put F3.out hp (by omega))
  have G4 := Lib.hid (nil_put F4.out hp (by omega))
  have hk2 := hkf.trans (puts_up f1 hp)
  have hs2 : w1.heap.size + 1 + 1 + 1 + 1 ≤ w2.heap.size := by have := (puts_up f1 hp).size; omega
  have HK2 := Lib.hid hk2
  clear hp f1 f2 f3 f4 F2 F3 F4 hsz hkf hk2
  go_wp2_with fail
  rw [← HQ.out]
  refine (Iw.int _ _ _ [] q _ G2.out (by simp) (by omega) (by omega)).mono ?_
  rintro e w3 hp
  obtain rfl := hp.1
  rw [List.nil_append] at hp
  have J1 := Lib.hid (G1.out.put hp (by omega) (by omega))
  have J2 := Lib.hid (wt_new (t := w1.heap.size + 1 + 1 + 1 + 1) hp (by omega))
  have J3 := Lib.hid (nil_put G3.out hp (by omega))
  have J4 := Lib.hid (nil_put G4.out hp (by omega))
  have HK3 := Lib.hid (HK2.out.trans (puts_up G2.out hp))
  have hs3 : w1.heap.size + 1 + 1 + 1 + 1 ≤ w3.heap.size := by have := (puts_up G2.out hp).size; omega
  clear hp G1 G2 G3 G4 HK2 hs2
  go_wp2_with fail
  rw [← HS.out]
  refine (Iw.long _ _ _ [] s _ J3.out (by simp) (by omega) (by omega)).mono ?_
  rintro e w4 hp
  obtain rfl := hp.1
  rw [List.nil_append] at hp
  have M1 := Lib.hid (J1.out.put hp (by omega) (by omega))
  have M2 := Lib.hid (J2.out.put hp (by omega) (by omega))
  have M3 := Lib.hid (wt_new (t := w1.heap.size + 1 + 1 + 1 + 1) hp (by omega))
  have M4 := Lib.hid (nil_put J4.out hp (by omega))
  have HK4 := Lib.hid (HK3.out.trans (puts_up J3.out hp))
  have hs4 : w1.heap.size + 1 + 1 + 1 + 1 ≤ w4.heap.size := by have := (puts_up J3.out hp).size; omega
  clear hp J1 J2 J3 J4 HK3 hs3
  go_wp2_with fail
  rw [← HTT.out]
  refine (Iw.long _ _ _ [] t _ M4.out (by simp) (by omega) (by omega)).mono ?_
  rintro e w5 hp
  obtain rfl := hp.1
  rw [List.nil_append] at hp
  have N1 := Lib.hid (M1.out.put hp (by omega) (by omega))
  have N2 := Lib.hid (M2.out.put hp (by omega) (by omega))
  have N3 := Lib.hid (M3.out.put hp (by omega) (by omega))
  have N4 := Lib.hid (wt_new (t := w1.heap.size + 1 + 1 + 1 + 1) hp (by omega))
  have HK5 := Lib.hid (HK4.out.trans (puts_up M4.out hp))
  clear hp M1 M2 M3 M4 HK4 hs4
  have HB5 := Lib.hid (HB1.out.trans (HK5.out.below HB1.out.size (fun _ h => Nat.le_trans HB1.out.size h)))
  generalize hg1 : w1.heap.size + 1 = g1 at *
  generalize hg2 : g1 + 1 = g2 at *
  generalize hg3 : g2 + 1 = g3 at *
  have hd2 : decide ((n2 : Int) ≤ 5) = true := by simp; omega
  have hd4 : decide ((n4 : Int) ≤ 9) = true := by simp; omega
  have hi2 : (n2 : Int) ≤ 5 := by omega
  have hi4 : (n4 : Int) ≤ 9 := by omega
  clear HP HQ HS HTT HK5 HB1
  go_wp2_with fail
  go_region_held3 (fun _ => True) (trivial)
    ((first
      | (go_at_call 14
         refine (Wt.bytes (w := w5.drew) n1 (by exact N1.out) HN1.out).mono ?_
         rintro e w6 ⟨A6, c6, rfl, hv6, hk6⟩
         have P2 := Lib.hid (N2.out.more hk6.of_drew)
         have P3 := Lib.hid (N3.out.more hk6.of_drew)
         have P4 := Lib.hid (N4.out.more hk6.of_drew)
         have P5 := Lib.hid (HB5.out.trans (hk6.of_drew.below HB5.out.size (fun _ h => h.elim)))
         have P1 := Lib.hid (Lies.of_own hv6)
         clear N1 N2 N3 N4 HB5 hv6 hk6)
      | (go_at_call 14
         refine (P2.out.bytes n2 HN2.out).mono ?_
         rintro e w7 ⟨A7, c7, rfl, hv7, hk7⟩
         have R2 := Lib.hid (P2.out.more hk7)
         have R3 := Lib.hid (P3.out.more hk7)
         have R4 := Lib.hid (P4.out.more hk7)
         have R5 := Lib.hid (P5.out.trans (hk7.below P5.out.size (fun _ h => h.elim)))
         have R1 := Lib.hid (P1.out.keeps hk7 (fun _ _ _ => id))
         have R6 := Lib.hid (Lies.of_own hv7)
         clear P1 P2 P3 P4 P5 hv7 hk7)
      | (go_at_call 27
         refine (ordered A6 A7 n1 c6 n2 c7 _ _ _ HN1.out HN2.out R1.out R6.out HO1.out).mono ?_
         rintro e w8 ⟨rfl, rfl⟩
         clear R1 R6)
      | (go_at_call 14
         refine (R3.out.bytes n3 HN3.out).mono ?_
         rintro e w9 ⟨A9, c9, rfl, hv9, hk9⟩
         have S2 := Lib.hid (R2.out.more hk9)
         have S4 := Lib.hid (R4.out.more hk9)
         have S5 := Lib.hid (R5.out.trans (hk9.below R5.out.size (fun _ h => h.elim)))
         have S1 := Lib.hid (Lies.of_own hv9)
         clear R2 R3 R4 R5 hv9 hk9)
      | (go_at_call 14
         refine (S4.out.bytes n4 HN4.out).mono ?_
         rintro e w10 ⟨A10, c10, rfl, hv10, hk10⟩
         have T2 := Lib.hid (S2.out.more hk10)
         have T4 := Lib.hid (S4.out.more hk10)
         have T5 := Lib.hid (S5.out.trans (hk10.below S5.out.size (fun _ h => h.elim)))
         have T1 := Lib.hid (S1.out.keeps hk10 (fun _ _ _ => id))
         have T6 := Lib.hid (Lies.of_own hv10)
         clear S1 S2 S4 S5 hv10 hk10)
      | (go_at_call 27
         refine (ordered A9 A10 n3 c9 n4 c10 _ _ _ HN3.out HN4.out T1.out T6.out HO2.out).mono ?_
         rintro e w11 ⟨rfl, rfl⟩
         clear T1 T6)
      | (go_at_call 25
         refine (T2.out.len n2 HN2.out).mono ?_
         rintro e w12 ⟨rfl, rfl⟩
         clear T2)
      | (go_at_call 25
         refine (T4.out.len n4 HN4.out).mono ?_
         rintro e w13 ⟨rfl, rfl⟩
         clear T4)))
  go_wp2
  go_ret
  exact ⟨rfl, T5.out⟩
  -- go_enter Try.func7, Try.ntmps7
  -- go_wp2
  -- go_ret
  -- exact ⟨rfl, by repeat (first | exact Grown.refl _ | apply Grown.drew | apply Grown.alloc)⟩

set_option maxRecDepth 100000 in
theorem lifted (os : Os) (started : os.Started) (H : Type) (enc : TypeId × Value → H) :
    ReturnsInHanded {} Try.checked os 7 .any (Rows.itfGrowsSpec.pre6 enc Try.prog Try.f7 Rows.itfGrowsRow.domain false) (Rows.itfGrowsSpec.post enc Try.prog Try.f7 false true false false) := by
  refine returnsInHanded_of_change (C := Try.checked) own started (by kernel_rfl) Try.func7
    (ChangeSpec.witness6 (enc := enc) (C := Try.checked) false ⟨#[], #[.int .u32 0, .int .u32 0, .int .u64 0, .int .u64 0], []⟩ 8 (by kernel_rfl) (by kernel_rfl) (by kernel_rfl) (by kernel_rfl)) ?_
  intro W base args ds gs before hval0 hW hcnd _
  have hval : ∀ (j : Nat) t v, Try.f7.params[j]? = some t → args[j]? = some v → Value.okWide Try.prog W .any base t v := hval0
  have hW' := hW
  obtain ⟨p, q, hA0, hV, rfl, hfz, hnd⟩ := hW
  have hA : DataW.TrodAll enc Try.prog W 0 (fun _ => true) true Try.f7.params.toList args.toList ds p := hA0
  rw [Try.params7] at hA hval
  obtain ⟨v0, vs0, d0, ds0, p0, q0, hargs, rfl, rfl, h0, r0⟩ := trodAll_cons hA
  obtain ⟨v1, vs1, d1, ds1, p1, q1, rfl, rfl, rfl, h1, r1⟩ := trodAll_cons r0
  obtain ⟨v2, vs2, d2, ds2, p2, q2, rfl, rfl, rfl, h2, r2⟩ := trodAll_cons r1
  obtain ⟨v3, vs3, d3, ds3, p3, q3, rfl, rfl, rfl, h3, r3⟩ := trodAll_cons r2
  obtain ⟨rfl, rfl, rfl⟩ := trodAll_nil r3
  obtain rfl : args = #[v0, v1, v2, v3] := by cases args; simp_all
  obtain ⟨rfl, rfl⟩ := trodVars_none hV
  obtain ⟨a0, rfl, rfl, rfl, w0⟩ := open_int Try.underlying31 (hval 0 31 v0 rfl rfl) h0
  obtain ⟨a1, rfl, rfl, rfl, w1⟩ := open_int Try.underlying31 (hval 1 31 v1 rfl rfl) h1
  obtain ⟨a2, rfl, rfl, rfl, w2⟩ := open_int Try.underlying47 (hval 2 47 v2 rfl rfl) h2
  obtain ⟨a3, rfl, rfl, rfl, w3⟩ := open_int Try.underlying47 (hval 3 47 v3 rfl rfl) h3
  clear hA0 hval0
  refine (walk a0 a1 a2 a3 w0 w1 w2 w3 W).mono fun e W' ⟨he, bel⟩ => ?_
  subst he
  exact ⟨_, rfl, _, _, _, [], _, [], hW', trodAll_mk1 (shut_bool Try.underlying4 _), (trodAll_cons_mk (shut_int Try.underlying31 w0) (trodAll_cons_mk (shut_int Try.underlying31 w1) (trodAll_cons_mk (shut_int Try.underlying47 w2) (trodAll_cons_mk (shut_int Try.underlying47 w3) trodAll_mk0)))), rfl, bel.frame _, fun h => by cases h⟩

theorem over : Rows.itfGrowsRow.holds Try.pinned (OpenSpec.ofChange Rows.itfGrowsSpec) :=
  OpenClaim.holds_of_wide 7 Try.f7 rfl rfl rfl rfl rfl rfl rfl ⟨rfl, rfl, rfl, rfl, rfl⟩ rfl rfl rfl rfl rfl (by kernel_rfl) Try.func7 (by kernel_rfl)
    (of_decide_eq_true (by kernel_rfl)) (by unfold Func.isWrapper; first | (rw [if_pos (by decide +kernel)]; kernel_rfl) | (rw [if_neg (by decide +kernel)]; exact ⟨rfl, rfl⟩))
    (fun os started H enc _ => lifted os started H enc)

/-- The statement, as given. -/
theorem proved : Rows.ItfGrowsSaid :=
  over
end Go.Proofs.Ytnbgcepejhggnaa.itfGrows
namespace Go.Proofs.Ytnbgcepejhggnaa
/-- The statement, as given. -/
theorem itfGrows_holds : Rows.ItfGrowsSaid := itfGrows.proved
#print axioms itfGrows_holds
end Go.Proofs.Ytnbgcepejhggnaa

/- The first two lines of a text (contig's lines), over bytes.Cut and bytes.CutPrefix at one byte: any bytes. -/
import Derived.Test.YtbekdcakmeejaaaCtTxt
import Derived.Deep.RegionHeld3
import Derived.Shelf.Bytes.SlIndexAt
import Derived.BigQuiet
import Derived.Deep.QuietTactic
namespace Go.Proofs.Ytbekdcakmeejaaa.Ct
open Go.RowKit Go.Proofs.Ytbekdcakmeejaaa.Gen Go.Proofs.Ytbekdcakmeejaaa.Ca

set_option maxRecDepth 100000 in
/-- bytes.IndexByte, as the model's entry has it. -/
theorem index (A : Option Addr) (n c : Nat) (xs : List Int) (cv : Int) (w : World) (hx : xs.length = n) (hl : Lies w A xs) :
    Calls Try.prog 26 #[.slice A n c, .int .u8 cv] w fun r w' => r = .returned (.int .i64 (Lib.indexByte (Lib.bytesOf xs) cv.toNat.toUInt8)) ∧ w = w' := by
  have hrun : (Extern.BytealgIndexByte.indexByte #[.slice A n c, .int .u8 cv]).run Try.prog w = .ok (.int .i64 (Lib.indexByte (Lib.bytesOf xs) cv.toNat.toUInt8)) w := by
    rcases A with _ | ad
    · have hx0 : xs = [] := by
        rcases hl with h | ⟨b, o, h, _⟩
        · exact h
        · cases h
      subst hx0
      exact Lib.run_indexByteNil w n c cv
    · exact Lib.run_indexByteAt w ad n c xs hx (fun i hi => hl.news i _ (bv_at (by omega))) cv
  have HR := Lib.hid hrun
  clear hrun hl hx
  go_enter Try.func26, Try.ntmps26
  go_wp2
  rw [run_callFunc_extern Try.func30 (by kernel_rfl) (by kernel_rfl) (by kernel_rfl) (e := Extern.BytealgIndexByte.indexByte) (by kernel_rfl), HR.out]
  simp only [Result.andThen]
  rw [Oper.upon_value]
  go_wp2
  go_ret
  exact ⟨rfl, rfl⟩
/-- Where the first line's end stands; -1: nowhere. -/
def at10 (xs : List Int) : Int := if has xs = true then ((upTo xs).length : Int) else -1
theorem at10_eq : ∀ xs : List Int, Byt xs → Lib.indexByte (Lib.bytesOf xs) 10 = at10 xs
  | [], _ => rfl
  | x :: xs, h => by
    have ih := at10_eq xs (fun y hy => h y (by simp [hy]))
    have hx := h x (by simp)
    have hcons : Lib.bytesOf (x :: xs) = UInt8.ofNat x.toNat :: Lib.bytesOf xs := rfl
    rw [hcons, Lib.indexByte]
    by_cases he : x = 10
    · subst he
      simp [at10, has, upTo]
    · have hb : (UInt8.ofNat x.toNat == 10) = false := by
        rw [beq_eq_false_iff_ne]
        intro hh
        have := congrArg UInt8.toNat hh
        rw [UInt8.toNat_ofNat', Nat.mod_eq_of_lt (by omega)] at this
        have h10 : (10 : UInt8).toNat = 10 := rfl
        omega
      have e1 : upTo (x :: xs) = x :: upTo xs := by simp [upTo, he]
      have e2 : has (x :: xs) = has xs := by simp [has, Ne.symm he]
      rw [hb, ih, at10, at10, e1, e2]
      cases has xs with
      | false => simp
      | true =>
        have : ((((upTo xs).length : Int)) == -1) = false := by simp
        simp [this]
theorem upTo_take : ∀ xs : List Int, upTo xs = xs.take (upTo xs).length
  | [] => rfl
  | x :: xs => by
    by_cases he : x = 10
    · subst he; simp [upTo]
    · have e1 : upTo (x :: xs) = x :: upTo xs := by simp [upTo, he]
      rw [e1]
      simp only [List.length_cons, List.take_succ_cons]
      rw [← upTo_take xs]
theorem past_drop (xs : List Int) (h : has xs = true) : past xs = xs.drop ((upTo xs).length + 1) := by
  have h1 := cut_eq xs h
  generalize upTo xs = a at h1 ⊢
  generalize past xs = b at h1 ⊢
  subst h1
  simp
theorem has_len (xs : List Int) (h : has xs = true) : xs.length = (upTo xs).length + 1 + (past xs).length := by
  have := congrArg List.length (cut_eq xs h)
  simp at this
  omega

set_option maxHeartbeats 4000000 in
set_option maxRecDepth 100000 in
/-- bytes.Index of a line's end. -/
theorem idx_ (A : Option Addr) (n c b2 o2 d : Nat) (xs : List Int) (w : World) (hx : xs.length = n) (hl : Lies w A xs) (hb : Byt xs) (hc : w.cell? ⟨b2, o2, none⟩ = some (.int .u8 10)) :
    Calls Try.prog 24 #[.slice A n c, .slice (some ⟨b2, o2, none⟩) 1 d] w fun r w' => r = .returned (.int .i64 (at10 xs)) ∧ w = w' := by
  have h := index A n c xs 10 w hx hl
  rw [show (10 : Int).toNat.toUInt8 = 10 from rfl, at10_eq xs hb] at h
  obtain ⟨k, hk⟩ : ∃ k, at10 xs = k := ⟨_, rfl⟩
  rw [hk] at h ⊢
  have H := Lib.hid h
  clear h hl hb hx hk
  go_enter Try.func24, Try.ntmps24
  go_wp2_with (go_at_call 26; refine H.out.mono ?_; rintro e w1 ⟨rfl, rfl⟩)
  go_ret
  exact ⟨rfl, rfl⟩
theorem run_cut_to {P : Program} (t e : TypeId) (A : Option Addr) (n c m : Nat) (kh : IntKind) (ht : P.underlying t = some (.slice e)) (he : ∀ w, (sizeOf e).run P w = .ok 1 w) (hk : m ≤ c) (w : World) :
    (Instr.slice t (.slice A n c) none (some (.int kh m)) none).run P w = .ok (.slice (cutAt A c 0) m c) w := by
  have hel : P.elem t = e := by simp [Program.elem, ht]
  rw [run_slice_h (P := P) w t A n c (by rw [hel]; exact ht) kh m (by omega) (by omega), hel, he]
  simp only [Result.andThen, sliced, Int.toNat_natCast]
  rfl
/-- What bytes.Cut answers at a line's end. -/
def CutR (A0 : Option Addr) (xs : List Int) (w : World) (r : Ending) (w' : World) : Prop :=
  ∃ A c B d, r = .returned (.tuple #[.slice A (upTo xs).length c, .slice B (past xs).length d, .bool (has xs)]) ∧ (∀ w0, Lies w0 A0 xs → Lies w0 A (upTo xs)) ∧ (∀ w0, Lies w0 A0 xs → Lies w0 B (past xs)) ∧ (upTo xs).length ≤ c ∧ (past xs).length ≤ d ∧ Keeps (fun _ => False) w w'

theorem CutR.drewN {A0 : Option Addr} {xs : List Int} {w w' : World} {r : Ending} (h : CutR A0 xs w r w') (n : Nat) : CutR A0 xs w r (w'.drewN n) := by
  obtain ⟨A, c, B, d, h1, h2, h3, h4, h5, h6⟩ := h
  exact ⟨A, c, B, d, h1, h2, h3, h4, h5, h6.drewN n⟩
set_option maxHeartbeats 4000000 in
set_option maxRecDepth 100000 in
theorem cut_ (A : Option Addr) (n c b2 o2 d : Nat) (xs : List Int) (w : World) (hx : xs.length = n) (hnc : n ≤ c) (hn : n ≤ 10000000) (hl : Lies w A xs) (hb : Byt xs) (hc : w.cell? ⟨b2, o2, none⟩ = some (.int .u8 10)) :
    Calls Try.prog 22 #[.slice A n c, .slice (some ⟨b2, o2, none⟩) 1 d] w (CutR A xs w) := by
  have H := Lib.hid (idx_ A n c b2 o2 d xs w hx hl hb hc)
  cases hh : has xs with
  | true =>
    have e1 := has_len xs hh
    obtain ⟨k, hk⟩ : ∃ k, (upTo xs).length = k := ⟨_, rfl⟩
    have ha : at10 xs = (k : Int) := by rw [at10, if_pos hh, hk]
    rw [ha] at H
    have hsl0 := fun w => run_cut_to (P := Try.prog) 31 5 A n c k .i64 Try.underlying31 size_u8 (by omega) w
    have hsl1 := fun w => run_cut_from (P := Try.prog) 31 5 A n c (k + 1) .i64 Try.underlying31 size_u8 (by omega) w
    rw [show (((k + 1 : Nat)) : Int) = (k : Int) + 1 by omega] at hsl1
    have hw : IntKind.i64.wrap ((k : Int) + 1) = (k : Int) + 1 := IntWalk.i64_in _ (by omega)
    have hge : decide ((0 : Int) ≤ (k : Int)) = true := by simp
    have hk0 : (0 : Int) ≤ (k : Int) := by omega
    have t0 : (xs.drop 0).take k = upTo xs := by rw [List.drop_zero, ← hk]; exact (upTo_take xs).symm
    have t1 : (xs.drop (k + 1)).take (n - (k + 1)) = past xs := by rw [past_drop xs hh, hk, List.take_of_length_le (by simp; omega)]
    have l0 : ∀ w0, Lies w0 A xs → Lies w0 (cutAt A c 0) (upTo xs) := fun w0 hl => by
      have := hl.cutAt c 0 k (by omega) (by omega)
      rwa [t0] at this
    have l1 : ∀ w0, Lies w0 A xs → Lies w0 (cutAt A c (k + 1)) (past xs) := fun w0 hl => by
      have := hl.cutAt c (k + 1) (n - (k + 1)) (by omega) (by omega)
      rwa [t1] at this
    have HR : Hid (CutR A xs w (.returned (.tuple #[.slice (cutAt A c 0) k c, .slice (cutAt A c (k + 1)) (n - (k + 1)) (c - (k + 1)), .bool true])) w) := by
      have e2 : (past xs).length = n - (k + 1) := by omega
      refine ⟨_, _, _, _, by rw [hk, e2, hh], l0, l1, by omega, by omega, Keeps.refl _ _⟩
    generalize cutAt A c 0 = A0 at hsl0 HR
    generalize cutAt A c (k + 1) = A1 at hsl1 HR
    generalize n - (k + 1) = n1 at hsl1 HR
    generalize c - (k + 1) = c1 at hsl1 HR
    clear hl hb hc e1 hk ha l0 l1 t0 t1 hx hh
    go_enter Try.func22, Try.ntmps22
    go_wp2_with (go_at_call 24; refine H.out.mono ?_; rintro e w1 ⟨rfl, rfl⟩)
    go_quiet (fail)
    go_wp2
    refine bodyPost_ret (v := .tuple #[.slice A0 k c, .slice A1 n1 c1, .bool true]) (by simp [results, Try.results22, go_sem]) rfl ?_
    exact HR.out.drewN _
  | false =>
    have e1 := cut_none xs hh
    have ha : at10 xs = -1 := by rw [at10, if_neg (by rw [hh]; simp)]
    rw [ha] at H
    have HX := Lib.hid hx
    have HR := Lib.hid (And.intro e1.1 (And.intro e1.2 hh))
    clear hx hl hb hc e1 ha hh
    go_enter Try.func22, Try.ntmps22
    go_wp2_with (go_at_call 24; refine H.out.mono ?_; rintro e w1 ⟨rfl, rfl⟩)
    refine bodyPost_ret (v := .tuple #[.slice A n c, .slice none 0 0, .bool false]) (by simp [results, Try.results22, go_sem]) rfl ?_
    obtain ⟨h2, h3, h4⟩ := HR.out
    refine ⟨A, c, none, 0, ?_, fun w0 h1 => by rw [h2]; exact h1, fun w0 _ => .inl h3, by rw [h2, HX.out]; exact hnc, by rw [h3]; exact Nat.le_refl _, Keeps.refl _ _⟩
    rw [h2, h3, h4, HX.out]
    rfl

set_option maxHeartbeats 4000000 in
set_option maxRecDepth 100000 in
/-- bytes.HasPrefix at one byte. -/
theorem pre_ (A : Option Addr) (n c b2 o2 d : Nat) (xs : List Int) (x : Int) (w : World) (hx : xs.length = n) (hnc : n ≤ c) (hn : n ≤ 10000000) (hl : Lies w A xs) (hb : Byt xs) (hx8 : 0 ≤ x ∧ x < 256) (hb2 : b2 < w.heap.size) (hc : w.cell? ⟨b2, o2, none⟩ = some (.int .u8 x)) :
    Calls Try.prog 25 #[.slice A n c, .slice (some ⟨b2, o2, none⟩) 1 d] w fun r w' => r = .returned (.bool (decide (xs.head? = some x))) ∧ w = w' := by
  by_cases h0 : 1 ≤ n
  · have d0 : decide ((1 : Int) ≤ (n : Int)) = true := by simp; omega
    have hsl := fun w => run_cut_to (P := Try.prog) 31 5 A n c 1 .i64 Try.underlying31 size_u8 (by omega) w
    rw [show ((1 : Nat) : Int) = 1 from rfl] at hsl
    have l0 := hl.cutAt c 0 1 (by omega) (by omega)
    have l2 : Lies w (some ⟨b2, o2, none⟩) [x] := by
      refine .inr ⟨b2, o2, rfl, hb2, fun i hi => ?_⟩
      have : i = 0 := by simpa using hi
      subst this
      exact hc
    have he := equal_ (cutAt A c 0) (some ⟨b2, o2, none⟩) 1 1 c d _ [x] w l0 l2 (by simp; omega) rfl ((hb.drop 0).take 1) (fun y hy => by simp at hy; rw [hy]; exact hx8)
    have hd : decide ((xs.drop 0).take 1 = [x]) = decide (xs.head? = some x) := by
      cases xs with
      | nil => simp at hx; omega
      | cons y ys => simp
    rw [hd] at he
    have H := Lib.hid he
    generalize cutAt A c 0 = A0 at hsl H
    generalize decide (xs.head? = some x) = B at H ⊢
    clear hx hl hb hx8 hb2 hc l0 l2 he hd
    go_enter Try.func25, Try.ntmps25
    go_wp2_with (go_at_call 21; refine H.out.mono ?_; rintro e w1 ⟨rfl, rfl⟩)
    go_ret
    exact ⟨rfl, rfl⟩
  · have d0 : decide ((1 : Int) ≤ (n : Int)) = false := by simp; omega
    have HD : Hid (decide (xs.head? = some x) = false) := by
      show _ = _
      cases xs with
      | nil => rfl
      | cons y ys => simp at hx; omega
    clear hx hl hb hx8 hb2 hc
    go_enter Try.func25, Try.ntmps25
    go_wp2
    go_ret
    exact ⟨by rw [HD.out]; rfl, rfl⟩
/-- What bytes.CutPrefix answers at one byte. -/
def CutPR (A0 : Option Addr) (xs : List Int) (x : Int) (w : World) (r : Ending) (w' : World) : Prop :=
  if xs.head? = some x then ∃ A c, r = .returned (.tuple #[.slice A (xs.drop 1).length c, .bool true]) ∧ (∀ w0, Lies w0 A0 xs → Lies w0 A (xs.drop 1)) ∧ w = w' else ∃ v, r = .returned (.tuple #[v, .bool false]) ∧ w = w'

set_option maxHeartbeats 4000000 in
set_option maxRecDepth 100000 in
theorem cutp_ (A : Option Addr) (n c b2 o2 d : Nat) (xs : List Int) (x : Int) (w : World) (hx : xs.length = n) (hnc : n ≤ c) (hn : n ≤ 10000000) (hl : Lies w A xs) (hb : Byt xs) (hx8 : 0 ≤ x ∧ x < 256) (hb2 : b2 < w.heap.size) (hc : w.cell? ⟨b2, o2, none⟩ = some (.int .u8 x)) :
    Calls Try.prog 23 #[.slice A n c, .slice (some ⟨b2, o2, none⟩) 1 d] w (CutPR A xs x w) := by
  have h := pre_ A n c b2 o2 d xs x w hx hnc hn hl hb hx8 hb2 hc
  by_cases hh : xs.head? = some x
  · rw [decide_eq_true hh] at h
    have hn1 : 1 ≤ n := by
      cases xs with
      | nil => simp at hh
      | cons y ys => simp at hx; omega
    have hsl := fun w => run_cut_from (P := Try.prog) 31 5 A n c 1 .i64 Try.underlying31 size_u8 hn1 w
    rw [show ((1 : Nat) : Int) = 1 from rfl] at hsl
    have l1 : ∀ w0, Lies w0 A xs → Lies w0 (cutAt A c 1) (xs.drop 1) := fun w0 hl => by
      have := hl.cutAt c 1 (n - 1) (by omega) (by omega)
      rwa [List.take_of_length_le (by simp; omega)] at this
    have HR : Hid (CutPR A xs x w (.returned (.tuple #[.slice (cutAt A c 1) (n - 1) (c - 1), .bool true])) w) := by
      show CutPR _ _ _ _ _ _
      rw [CutPR, if_pos hh]
      exact ⟨_, _, by rw [List.length_drop, hx], l1, rfl⟩
    have H := Lib.hid h
    generalize cutAt A c 1 = A1 at hsl HR
    generalize n - 1 = n1 at hsl HR
    generalize c - 1 = c1 at hsl HR
    clear hx hl hb hx8 hb2 hc l1 h hh
    go_enter Try.func23, Try.ntmps23
    go_wp2_with (go_at_call 25; refine H.out.mono ?_; rintro e w1 ⟨rfl, rfl⟩)
    go_ret2
    exact HR.out
  · rw [decide_eq_false hh] at h
    have HR : Hid (∀ v, CutPR A xs x w (.returned (.tuple #[v, .bool false])) w) := Lib.hid (fun v => by rw [CutPR, if_neg hh]; exact ⟨v, rfl, rfl⟩)
    have H := Lib.hid h
    clear hx hl hb hx8 hb2 hc h hh
    go_enter Try.func23, Try.ntmps23
    go_wp2_with (go_at_call 25; refine H.out.mono ?_; rintro e w1 ⟨rfl, rfl⟩)
    go_ret2
    exact HR.out _
/-- What lines answers. -/
def LinesR (A0 : Option Addr) (xs : List Int) (w : World) (r : Ending) (w' : World) : Prop :=
  Keeps (fun _ => False) w w' ∧ match lines xs with
  | none => ∃ v1 v2 v3, r = .returned (.tuple #[v1, v2, v3, .bool false])
  | some (a, b, t) => ∃ A1 c1 A2 c2 A3 c3, r = .returned (.tuple #[.slice A1 a.length c1, .slice A2 b.length c2, .slice A3 t.length c3, .bool true]) ∧ (∀ w0, Lies w0 A0 xs → Lies w0 A1 a ∧ Lies w0 A2 b ∧ Lies w0 A3 t) ∧ t.length ≤ c3
theorem byt_up {xs : List Int} (h : Byt xs) : Byt (upTo xs) := by
  rw [upTo_take]
  exact h.take _
theorem past_le : ∀ xs : List Int, (past xs).length ≤ xs.length
  | [] => Nat.le_refl _
  | x :: xs => by
    have := past_le xs
    by_cases hx : x = 10
    · subst hx
      simp [past]
    · have e2 : past (x :: xs) = past xs := by simp [past, hx]
      rw [e2, List.length_cons]
      omega
theorem past_mem : ∀ (xs : List Int) (y : Int), y ∈ past xs → y ∈ xs
  | [], y, h => h
  | x :: xs, y, h => by
    by_cases hx : x = 10
    · subst hx
      simp [past] at h
      simp [h]
    · have e2 : past (x :: xs) = past xs := by simp [past, hx]
      rw [e2] at h
      simp [past_mem xs y h]
theorem byt_past {xs : List Int} (h : Byt xs) : Byt (past xs) := fun x hx => h x (past_mem xs x hx)
theorem up_le (xs : List Int) : (upTo xs).length ≤ xs.length := by
  rw [upTo_take, List.length_take]
  omega

set_option maxHeartbeats 8000000 in
set_option maxRecDepth 100000 in
theorem lines_ (A : Option Addr) (n c : Nat) (xs : List Int) (w : World) (hx : xs.length = n) (hnc : n ≤ c) (hn : n ≤ 10000000) (hl : Lies w A xs) (hb : Byt xs) :
    Calls Try.prog 18 #[.slice A n c] w (LinesR A xs w) := by
  have HL := Lib.hid hl
  have HB := Lib.hid hb
  have HX := Lib.hid hx
  have hk0 := (Keeps.refl (fun _ => False) w).alloc (.cells #[.int .u8 10] 5)
  have HC0 := Lib.hid ((Blk.new w 5 #[.int .u8 10]).cell 0)
  have HK0 := Lib.hid hk0
  have l0 := Lib.hid (hl.keeps hk0 (fun _ _ _ => id))
  have hz0 : w.heap.size < (w.alloc (.cells #[.int .u8 10] 5)).heap.size := by simp
  clear hl hb hx hk0
  go_enter Try.func18, Try.ntmps18
  go_wp2_with fail
  refine (cut_ A n c w.heap.size 0 1 xs _ HX.out hnc hn l0.out HB.out HC0.out).mono ?_
  rintro e w1 ⟨A1, c1, A2, c2, rfl, g1, g2, g3, g4, g5⟩
  have HG1 := Lib.hid g1
  have HC1 : Hid (w1.cell? ⟨w.heap.size, 0, none⟩ = some (.int .u8 10)) := Lib.hid ((g5.cell (p := ⟨w.heap.size, 0, none⟩) hz0 id).trans HC0.out)
  have hz1 : w.heap.size < w1.heap.size := Nat.lt_of_lt_of_le hz0 g5.size
  have HK1 := Lib.hid (HK0.out.trans g5)
  have HG2 := Lib.hid g2
  have HLW := Lib.hid (HL.out.keeps HK1.out (fun _ _ _ => id))
  obtain ⟨m1, hm1⟩ : ∃ m, (upTo xs).length = m := ⟨_, rfl⟩
  obtain ⟨m2, hm2⟩ : ∃ m, (past xs).length = m := ⟨_, rfl⟩
  obtain ⟨q1, hq1⟩ : ∃ q, has xs = q := ⟨_, rfl⟩
  have hm1n : m1 ≤ n := by rw [← hm1, ← HX.out]; exact up_le xs
  have hm2n : m2 ≤ n := by rw [← hm2, ← HX.out]; exact past_le xs
  rw [hm1] at g3 ⊢
  rw [hm2] at g4 ⊢
  rw [hq1]
  have HM1 := Lib.hid hm1
  have HM2 := Lib.hid hm2
  clear g1 g2 g5 hm1 hm2 hq1
  go_wp2_with fail
  refine (cut_ A2 m2 c2 w.heap.size 0 1 (past xs) w1 HM2.out g4 (by omega) (HG2.out _ HLW.out) (byt_past HB.out) HC1.out).mono ?_
  rintro e w2 ⟨B1, d1, B2, d2, rfl, g1', g2', g3', g4', g5'⟩
  have HLW2 := Lib.hid (HLW.out.keeps g5' (fun _ _ _ => id))
  have HH1 := Lib.hid g1'
  have HH2 := Lib.hid g2'
  have HK2 := Lib.hid (HK1.out.trans g5')
  obtain ⟨k1, hk1⟩ : ∃ m, (upTo (past xs)).length = m := ⟨_, rfl⟩
  obtain ⟨k2, hk2⟩ : ∃ m, (past (past xs)).length = m := ⟨_, rfl⟩
  obtain ⟨q2, hq2⟩ : ∃ q, has (past xs) = q := ⟨_, rfl⟩
  rw [hk1, hk2, hq2]
  have HKK1 := Lib.hid hk1
  have HKK2 := Lib.hid hk2
  have HQ2 := Lib.hid hq2
  rw [hk2] at g4'
  clear g1' g2' g5' hk1 hk2 hq2
  have hk3 := (Keeps.refl (fun _ => False) w2).alloc (.cells #[.int .u8 62] 5)
  have HK3 := Lib.hid hk3
  have HC3 := Lib.hid ((Blk.new w2 5 #[.int .u8 62]).cell 0)
  clear hk3
  have HCP := Lib.hid (cutp_ A1 m1 c1 w2.heap.size 0 1 (upTo xs) 62 (w2.alloc (.cells #[.int .u8 62] 5)) HM1.out g3 (by omega) ((HG1.out _ HLW2.out).keeps HK3.out (fun _ _ _ => id)) (byt_up HB.out) (by omega) (by simp) HC3.out)
  by_cases hh : (upTo xs).head? = some 62
  · have HCP2 : Hid (Calls Try.prog 23 #[.slice A1 m1 c1, .slice (some ⟨w2.heap.size, 0, none⟩) 1 1] (w2.alloc (.cells #[.int .u8 62] 5)) fun r w' => ∃ A c, r = .returned (.tuple #[.slice A ((upTo xs).drop 1).length c, .bool true]) ∧ (∀ w0, Lies w0 A1 (upTo xs) → Lies w0 A ((upTo xs).drop 1)) ∧ (w2.alloc (.cells #[.int .u8 62] 5)) = w') := by
      refine HCP.out.mono fun r w' h => ?_
      rw [CutPR, if_pos hh] at h
      exact h
    have HH := Lib.hid hh
    clear HCP hh
    obtain ⟨m3, hm3⟩ : ∃ m, ((upTo xs).drop 1).length = m := ⟨_, rfl⟩
    rw [hm3] at HCP2
    have HM3 := Lib.hid hm3
    clear hm3
    cases q2 with
    | true =>
      go_wp2_with (go_at_call 23; refine HCP2.out.mono ?_; rintro e w3 ⟨A4, c4, rfl, hl4, rfl⟩; have HL4 := Lib.hid hl4; clear hl4)
      refine bodyPost_ret (v := .tuple #[.slice A4 m3 c4, .slice B1 k1 d1, .slice B2 k2 d2, .bool true]) (by simp [results, Try.results18, go_sem]) rfl ?_
      refine ⟨HK2.out.trans HK3.out, ?_⟩
      rw [lines, if_pos ⟨HQ2.out, HH.out⟩]
      refine ⟨A4, c4, B1, d1, B2, d2, by rw [HM3.out, HKK1.out, HKK2.out], fun w0 h0 => ⟨HL4.out _ (HG1.out _ h0), HH1.out _ (HG2.out _ h0), HH2.out _ (HG2.out _ h0)⟩, by rw [HKK2.out]; exact g4'⟩
    | false =>
      go_wp2_with (go_at_call 23; refine HCP2.out.mono ?_; rintro e w3 ⟨A4, c4, rfl, hl4, rfl⟩; have HL4 := Lib.hid hl4; clear hl4)
      refine bodyPost_ret (v := .tuple #[.slice A4 m3 c4, .slice B1 k1 d1, .slice B2 k2 d2, .bool false]) (by simp [results, Try.results18, go_sem]) rfl ?_
      refine ⟨HK2.out.trans HK3.out, ?_⟩
      rw [lines, if_neg (by rw [HQ2.out]; simp)]
      exact ⟨_, _, _, rfl⟩
  · have HCP2 : Hid (Calls Try.prog 23 #[.slice A1 m1 c1, .slice (some ⟨w2.heap.size, 0, none⟩) 1 1] (w2.alloc (.cells #[.int .u8 62] 5)) fun r w' => ∃ v, r = .returned (.tuple #[v, .bool false]) ∧ (w2.alloc (.cells #[.int .u8 62] 5)) = w') := by
      refine HCP.out.mono fun r w' h => ?_
      rw [CutPR, if_neg hh] at h
      exact h
    have HH := Lib.hid hh
    clear HCP hh
    cases q2 with
    | true =>
      go_wp2_with (go_at_call 23; refine HCP2.out.mono ?_; rintro e w3 ⟨v4, rfl, rfl⟩)
      refine bodyPost_ret (v := .tuple #[v4, .slice B1 k1 d1, .slice B2 k2 d2, .bool false]) (by simp [results, Try.results18, go_sem]) rfl ?_
      refine ⟨HK2.out.trans HK3.out, ?_⟩
      rw [lines, if_neg (fun h => HH.out h.2)]
      exact ⟨_, _, _, rfl⟩
    | false =>
      go_wp2_with (go_at_call 23; refine HCP2.out.mono ?_; rintro e w3 ⟨v4, rfl, rfl⟩)
      refine bodyPost_ret (v := .tuple #[v4, .slice B1 k1 d1, .slice B2 k2 d2, .bool false]) (by simp [results, Try.results18, go_sem]) rfl ?_
      refine ⟨HK2.out.trans HK3.out, ?_⟩
      rw [lines, if_neg (fun h => HH.out h.2)]
      exact ⟨_, _, _, rfl⟩
end Go.Proofs.Ytbekdcakmeejaaa.Ct

/- The walk of the statement ContigNames: any name, any letters. -/
import Derived.Test.YtbekdcakmeejaaaCtSm
import Derived.Test.YtbekdcakmeejaaaAwake12
import Derived.Deep.CutBlock
namespace Go.Proofs.Ytbekdcakmeejaaa.Ct
open Go.RowKit Go.Proofs.Ytbekdcakmeejaaa.Gen Go.Proofs.Ytbekdcakmeejaaa.Ca Go.Proofs.Ytbekdcakmeejaaa.Cl

theorem all_take_succ {f : Int → Bool} {xs : List Int} {j : Nat} (h : j < xs.length) : (xs.take (j + 1)).all f = ((xs.take j).all f && f (xs.getD j 0)) := by
  rw [List.take_succ_eq_append_getElem h, List.all_append]
  simp [List.getD_eq_getElem?_getD, h]
theorem named_and (n : List Int) : named n = ((decide (1 ≤ n.length) && decide (n.length ≤ 254)) && n.all okc) := by
  unfold named
  cases n with
  | nil => rfl
  | cons a l => simp
theorem chk_one (p : Pr) (h : p.2.length ≤ 300) : chk [p] = if named p.1 = false then 14 else if p.2 = [] then 6 else if p.2.all ltr = false then 16 else 0 := by
  have e : chk [p] = err1 [] 0 p := by
    rw [chk, if_neg (by simp), chkL]
    split
    next h0 => rw [h0]; rfl
    · rfl
  rw [e, err1]
  have h2 : ¬ 1048576 < 0 + p.2.length := by omega
  simp only [List.map_nil, List.not_mem_nil, if_false, h2, or_false]
theorem chk_two (p : Pr) : chk [p, p] = if chk [p] = 0 then 12 else chk [p] := by
  have e : chk [p] = err1 [] 0 p := by
    rw [chk, if_neg (by simp), chkL]
    split
    next h0 => rw [h0]; rfl
    · rfl
  have e2 : chk [p, p] = chkL [] 0 [p, p] := by rw [chk, if_neg (by simp)]
  rw [e2, e, chkL]
  by_cases h0 : err1 [] 0 p = 0
  · rw [if_pos h0, if_pos h0]
    have hn : named p.1 = true := by
      cases hh : named p.1 with
      | true => rfl
      | false => rw [err1, hh] at h0; simp at h0
    have e3 : err1 ([] ++ [p]) (0 + p.2.length) p = 12 := by simp [err1, hn]
    rw [chkL, if_neg (by rw [e3]; decide), e3]
  · rw [if_neg h0, if_neg h0]
/-- Contigs n00, n01 .. -/
def mny (j : Nat) : List Pr := (List.range j).map fun (i : Nat) => ([110, 48 + (i : Int) / 10, 48 + (i : Int) % 10], [65])
theorem mny_succ (j : Nat) : mny (j + 1) = mny j ++ [([110, 48 + (j : Int) / 10, 48 + (j : Int) % 10], [65])] := by simp [mny, List.range_succ]
theorem mny_chk : ∀ q : Fin 5, chk (mny (98 + q.val)) = if q.val ≤ 2 then 0 else 7 := by decide +kernel

/-- While they come. -/
structure MnS (M : Nat) (B : Option Addr) (j cb : Nat) (es : List Ct) (w wr : World) : Prop where
  ref : Blk wr M 29 #[.slice B j cb]
  own : wr.ownsRow (M + 1) 33 2 (.slice B j cb) j (cvs es)
  el : es.length = j
  good : ∀ e ∈ es, Good wr e ∧ ∃ X, e.A = some ⟨X, 0, none⟩ ∧ e.sq = [65] ∧ wr.heap[X]? = some (Obj.cells #[.int .u8 65] 5 (1, 2))
  prs : pairs es = mny j
  keeps : Keeps (fun _ => False) w wr
  base_ : M + 1 ≤ wr.heap.size
theorem lies65 {w : World} {X : Nat} (h : w.heap[X]? = some (Obj.cells #[.int .u8 65] 5 (1, 2))) : Lies w (some ⟨X, 0, none⟩) [65] := by
  refine .inr ⟨X, 0, rfl, (Array.getElem?_eq_some_iff.1 h).1, fun i hi => ?_⟩
  have : i = 0 := by simpa using hi
  subst this
  exact cell_of_row w X 0 _ 5 (1, 2) h
theorem MnS.put {M j cb cb' X : Nat} {B B' : Option Addr} {es : List Ct} {w w3 w6 : World} (h : MnS M B j cb es w w3) (hw : w.heap.size ≤ M) (nm : List Int) (hX : w3.heap[X]? = some (Obj.cells #[.int .u8 65] 5 (1, 2)))
    (hnm : nm = [110, 48 + (j : Int) / 10, 48 + (j : Int) % 10]) (hj : j ≤ 200)
    (ho : w6.ownsRow (M + 1) 33 2 (.slice B' (j + 1) cb') (j + 1) (cvs (es ++ [⟨nm, some ⟨X, 0, none⟩, 1, [65]⟩]))) (hg : w3.grownBy w6 (Value.slice B j cb).ownBlock) :
    MnS M B' (j + 1) cb' (es ++ [⟨nm, some ⟨X, 0, none⟩, 1, [65]⟩]) w (w6.setCell ⟨M, 0, none⟩ (.slice B' (j + 1) cb')) := by
  have r6 : Blk w6 M 29 #[.slice B j cb] := h.ref.grown hg (own_ne h.own h.ref (by decide))
  have k7 : Keeps (fun b => b = M) w6 (w6.setCell ⟨M, 0, none⟩ (.slice B' (j + 1) cb')) := (Keeps.refl _ _).setOwn _ _
  have hk : ∀ Y : Nat, w3.heap[Y]? = some (Obj.cells #[.int .u8 65] 5 (1, 2)) → (w6.setCell ⟨M, 0, none⟩ (.slice B' (j + 1) cb')).heap[Y]? = some (Obj.cells #[.int .u8 65] 5 (1, 2)) := by
    intro Y hY
    have h1 : (Value.slice B j cb).ownBlock ≠ some Y := by
      rcases h.own.2 with ⟨he, _⟩ | ⟨g, cap, cur, he, _, hh, _⟩
      · rw [he]; simp [Value.ownBlock]
      · rw [he]
        intro hq
        have : g = Y := by simpa [Value.ownBlock] using hq
        subst this
        rw [hh] at hY
        injection hY with hY
        injection hY with _ hY
        exact absurd hY (by decide)
    have h2 : w6.heap[Y]? = some (Obj.cells #[.int .u8 65] 5 (1, 2)) := (hg.block Y (Array.getElem?_eq_some_iff.1 hY).1 (Ne.symm h1)).trans hY
    have h3 : Y ≠ M := by
      rintro rfl
      have := r6
      unfold Blk at this
      rw [this] at h2
      injection h2 with h2
      injection h2 with _ h2
      exact absurd h2 (by decide)
    exact (k7.block Y (Array.getElem?_eq_some_iff.1 h2).1 h3).trans h2
  refine ⟨r6.setCell 0 _, own_keeps ho k7 (fun b hb e => own_ne ho r6 (by decide) (by rw [hb, e])), by simp [h.el], ?_, ?_, ?_, ?_⟩
  · intro e he
    rcases List.mem_append.1 he with h1 | h1
    · obtain ⟨hge, Y, hA, hsq, hY⟩ := h.good e h1
      have hY2 := hk Y hY
      exact ⟨⟨by rw [hA, hsq]; exact lies65 hY2, hge.bs, hge.bn, hge.ls, hge.ln⟩, Y, hA, hsq, hY2⟩
    · simp at h1
      subst h1
      have hY2 := hk X hX
      refine ⟨⟨lies65 hY2, fun x hx => by simp at hx; omega, fun x hx => ?_, by simp, by simp [hnm]⟩, X, rfl, rfl, hY2⟩
      simp only [hnm] at hx
      simp at hx
      omega
  · rw [mny_succ, ← h.prs]
    simp [pairs, Ct.p, hnm]
  · exact (h.keeps.grown hg (fun b hb => .inr (by have := (h.own.lt b hb).1; omega))).setCell (.inr (by show w.heap.size ≤ M; omega)) _
  · have := h.base_
    have := hg.size
    simp [World.setCell]
    omega
theorem MnS.more {M j cb : Nat} {B : Option Addr} {es : List Ct} {w wr w1 : World} (h : MnS M B j cb es w wr) (k : Keeps (fun _ => False) wr w1) : MnS M B j cb es w w1 := by
  refine ⟨h.ref.keeps k id, own_keeps h.own k (fun _ _ => id), h.el, fun e he => ?_, h.prs, h.keeps.trans k, Nat.le_trans h.base_ k.size⟩
  obtain ⟨hg, X, hA, hs, hX⟩ := h.good e he
  exact ⟨hg.more k (fun _ _ _ => id), X, hA, hs, (k.block X (Array.getElem?_eq_some_iff.1 hX).1 id).trans hX⟩

theorem isRef_blk {w : World} {g n : Nat} {cs : Array Value} {es : List Ct} (h : Blk w g 33 cs) (hc : cs.toList = cvs es) (hn : es.length = n) (hn3 : n ≤ 3000000) (hg : ∀ e ∈ es, Good w e) : IsRef w (some ⟨g, 0, none⟩) n es := by
  refine ⟨hn, hn3, .inr ⟨g, 0, rfl, h.lt, fun j hj => ?_⟩, hg⟩
  rw [h.cell, ← hc, Nat.zero_add]
  simp
/-- The statement's two rows: one contig, and it twice. -/
structure TwoRefs (X1 X2 X3 X4 : Nat) (e : Ct) (w0 w : World) : Prop where
  keeps : Keeps (fun _ => False) w0 w
  b2 : Blk w X2 29 #[.slice (some ⟨X1, 0, none⟩) 1 1]
  b4 : Blk w X4 29 #[.slice (some ⟨X3, 0, none⟩) 2 2]
  r1 : IsRef w (some ⟨X1, 0, none⟩) 1 [e]
  r2 : IsRef w (some ⟨X3, 0, none⟩) 2 [e, e]
theorem TwoRefs.more {X1 X2 X3 X4 : Nat} {e : Ct} {w0 w w1 : World} (h : TwoRefs X1 X2 X3 X4 e w0 w) (k : Keeps (fun _ => False) w w1) : TwoRefs X1 X2 X3 X4 e w0 w1 :=
  ⟨h.keeps.trans k, h.b2.keeps k id, h.b4.keeps k id, h.r1.more k, h.r2.more k⟩
theorem twoRefs_new (s : ByteArray) (A : Option Addr) (n c : Nat) (xs : List Int) (wc w1 w2 w3 w4 w5 : World) (hg : Good wc ⟨numsOf s, A, c, xs⟩) (hx : xs.length = n)
    (h1 : w1 = wc.alloc (.cells #[.string s, .slice A n c] 33)) (h2 : w2 = w1.alloc (.cells #[.string s, .slice A n c] 33)) (h3 : w3 = w2.alloc (.cells #[.slice (some ⟨wc.heap.size + 1, 0, none⟩) 1 1] 29))
    (h4 : w4 = w3.alloc (.cells #[.string s, .slice A n c, .string s, .slice A n c] 33)) (h5 : w5 = w4.alloc (.cells #[.slice (some ⟨wc.heap.size + 1 + 1 + 1, 0, none⟩) 2 2] 29)) :
    TwoRefs (wc.heap.size + 1) (wc.heap.size + 1 + 1) (wc.heap.size + 1 + 1 + 1) (wc.heap.size + 1 + 1 + 1 + 1) ⟨numsOf s, A, c, xs⟩ wc w5 := by
  subst hx
  have z1 : w1.heap.size = wc.heap.size + 1 := by rw [h1]; simp
  have z2 : w2.heap.size = wc.heap.size + 1 + 1 := by rw [h2]; simp [z1]
  have z3 : w3.heap.size = wc.heap.size + 1 + 1 + 1 := by rw [h3]; simp [z2]
  have z4 : w4.heap.size = wc.heap.size + 1 + 1 + 1 + 1 := by rw [h4]; simp [z3]
  have k1 : Keeps (fun _ => False) wc w1 := by rw [h1]; exact (Keeps.refl _ _).alloc _
  have k2 : Keeps (fun _ => False) w1 w2 := by rw [h2]; exact (Keeps.refl _ _).alloc _
  have k3 : Keeps (fun _ => False) w2 w3 := by rw [h3]; exact (Keeps.refl _ _).alloc _
  have k4 : Keeps (fun _ => False) w3 w4 := by rw [h4]; exact (Keeps.refl _ _).alloc _
  have k5 : Keeps (fun _ => False) w4 w5 := by rw [h5]; exact (Keeps.refl _ _).alloc _
  have b2 := Blk.new w1 33 #[.string s, .slice A xs.length c]
  have b3 := Blk.new w2 29 #[.slice (some ⟨wc.heap.size + 1, 0, none⟩) 1 1]
  have b4 := Blk.new w3 33 #[.string s, .slice A xs.length c, .string s, .slice A xs.length c]
  have b5 := Blk.new w4 29 #[.slice (some ⟨wc.heap.size + 1 + 1 + 1, 0, none⟩) 2 2]
  rw [← h2, z1] at b2
  rw [← h3, z2] at b3
  rw [← h4, z3] at b4
  rw [← h5, z4] at b5
  have hg5 := hg.more (k1.trans (k2.trans (k3.trans (k4.trans k5)))) (fun _ _ _ => id)
  refine ⟨k1.trans (k2.trans (k3.trans (k4.trans k5))), b3.keeps (k4.trans k5) id, b5, ?_, ?_⟩
  · exact isRef_blk (b2.keeps (k3.trans (k4.trans k5)) id) (by simp [cvs, str_nums, Ct.v]) rfl (by omega) (fun e he => by simp at he; rw [he]; exact hg5)
  · exact isRef_blk (b4.keeps k5 id) (by simp [cvs, str_nums, Ct.v]) rfl (by omega) (fun e he => by simp at he; rw [he]; exact hg5)
set_option maxHeartbeats 16000000 in
set_option maxRecDepth 100000 in
theorem names_ (s : ByteArray) (A : Option Addr) (n c : Nat) (xs : List Int) (K : Nat) (w : World) (hs : s.size ≤ maxLen) (hl : Lies w A xs) (hx : xs.length = n) (hb : Byt xs) (hn : n ≤ maxLen) (hK : K < 256) :
    Calls Try.prog 4 #[.string s, .slice A n c, .int .u8 (K : Int)] w fun e w' => e = .returned (.bool true) ∧ Keeps (fun _ => False) w w' := by
  have HL := Lib.hid hl
  have HX := Lib.hid hx
  have HB := Lib.hid hb
  have HNL := Lib.hid (nums_len s)
  unfold maxLen at hs hn
  clear hl hx hb
  have HAW := Lib.hid (Aw.awake (w := w))
  by_cases g1 : 600 < s.size
  · have d1 : decide ((600 : Int) < (s.size : Int)) = true := by simp; omega
    go_enter Try.func4, Try.ntmps4
    go_wp2_with (go_at_call 8; refine HAW.out.mono ?_; rintro e w1 ⟨rfl, hk1⟩; have HK1 := Lib.hid hk1; clear hk1)
    go_ret
    exact ⟨rfl, HK1.out⟩
  · have d1 : decide ((600 : Int) < (s.size : Int)) = false := by simp; omega
    by_cases g2 : 300 < n
    · have d2 : decide ((300 : Int) < (n : Int)) = true := by simp; omega
      go_enter Try.func4, Try.ntmps4
      go_wp2_with (go_at_call 8; refine HAW.out.mono ?_; rintro e w1 ⟨rfl, hk1⟩; have HK1 := Lib.hid hk1; clear hk1)
      go_ret
      exact ⟨rfl, HK1.out⟩
    · have d2 : decide ((300 : Int) < (n : Int)) = false := by simp; omega
      have hn3 : n ≤ 300 := by omega
      have hs6 : s.size ≤ 600 := by omega
      obtain ⟨b1, hb1⟩ : ∃ b, decide ((1 : Int) ≤ (s.size : Int)) = b := ⟨_, rfl⟩
      obtain ⟨b2, hb2⟩ : ∃ b, decide ((s.size : Int) ≤ 254) = b := ⟨_, rfl⟩
      have HBB : Hid ((b1 && b2) = (decide (1 ≤ (numsOf s).length) && decide ((numsOf s).length ≤ 254))) := by
        show _ = _
        rw [← hb1, ← hb2, HNL.out]
        congr 1 <;> (rw [decide_eq_decide]; omega)
      go_enter Try.func4, Try.ntmps4
      go_upto_region 5 with (go_at_call 8; refine HAW.out.mono ?_; rintro e w1 ⟨rfl, hk1⟩; have HK1 := Lib.hid hk1; clear hk1)
      go_cut [7] from 30 to 37 (fun v wx => v = .bool (b1 && b2) ∧ wx = w1)
      case first =>
        cases b1 with
        | true =>
          go_wp2
          go_meet
          case rel => exact ⟨by simp, rfl⟩
        | false =>
          go_wp2
          go_meet
          case rel => exact ⟨by simp, rfl⟩
      case rest =>
        obtain ⟨rfl, rfl⟩ := hcut
        clear hb1 hb2 d1 d2 g1 g2
        obtain ⟨B0, hB0⟩ : ∃ B0, (b1 && b2) = B0 := ⟨_, rfl⟩
        rw [hB0] at HBB ⊢
        clear hB0
        go_wp2
        go_loop [7, 8, 9, 40] (fun rv _ _ iv => ∃ (j : Nat) (R : Bool), rv = .bool R ∧ iv = .int .i64 (j : Int) ∧ j ≤ s.size ∧ Hid (R = (B0 && ((numsOf s).take j).all okc))) (fun _ _ _ iv => s.size - (intOf iv).toNat)
        case atStart => exact ⟨0, B0, rfl, rfl, by omega, Lib.hid (by simp)⟩
        case round =>
          obtain ⟨j, R, rfl, rfl, hj, HR⟩ := hrel
          by_cases hlt : j < s.size
          · have hlt' : (j : Int) < (s.size : Int) := by omega
            have hjw : IntKind.i64.wrap ((j : Int) + 1) = (j : Int) + 1 := IntWalk.i64_in _ (by omega)
            obtain ⟨x, hx⟩ : ∃ x : Int, ((s[j]'hlt).toNat : Int) = x := ⟨_, rfl⟩
            have HRN : ∀ R', R' = (R && okc x) → Hid (R' = (B0 && ((numsOf s).take (j + 1)).all okc)) := fun R' h => Lib.hid (by
              rw [h, HR.out, all_take_succ (by rw [HNL.out]; exact hlt), nums_at s j hlt, hx, Bool.and_assoc])
            have HRH := Lib.hid HRN
            clear HRN
            cases R with
            | false =>
              go_wp2
              go_round
              case rel => exact ⟨j + 1, false, rfl, by go_num, by omega, HRH.out false (by simp)⟩
              case measure => simp [intOf]; omega
            | true =>
              by_cases c1 : 33 ≤ x
              · have e1 : decide (33 ≤ x) = true := by simpa using c1
                by_cases c2 : x ≤ 126
                · have e2 : decide (x ≤ 126) = true := by simpa using c2
                  by_cases c3 : x = 61
                  · have e3 : (x != 61) = false := by simpa using c3
                    have HO : Hid (okc x = false) := by show _ = _; simp [okc, c3]
                    clear c3
                    go_wp2
                    go_round
                    case rel => exact ⟨j + 1, false, rfl, by go_num, by omega, HRH.out false (by rw [HO.out]; rfl)⟩
                    case measure => simp [intOf]; omega
                  · have e3 : (x != 61) = true := by simpa using c3
                    by_cases c4 : x = 42
                    · have e4 : (x != 42) = false := by simpa using c4
                      have HO : Hid (okc x = false) := by show _ = _; simp [okc, c4]
                      clear c3 c4
                      go_wp2
                      go_round
                      case rel => exact ⟨j + 1, false, rfl, by go_num, by omega, HRH.out false (by rw [HO.out]; rfl)⟩
                      case measure => simp [intOf]; omega
                    · have e4 : (x != 42) = true := by simpa using c4
                      have HO : Hid (okc x = true) := by show _ = _; simp [okc, c1, c2, c3, c4]
                      clear c3 c4
                      go_wp2
                      go_round
                      case rel => exact ⟨j + 1, true, rfl, by go_num, by omega, HRH.out true (by rw [HO.out]; rfl)⟩
                      case measure => simp [intOf]; omega
                · have e2 : decide (x ≤ 126) = false := by simpa using c2
                  have HO : Hid (okc x = false) := by show _ = _; simp [okc]; omega
                  go_wp2
                  go_round
                  case rel => exact ⟨j + 1, false, rfl, by go_num, by omega, HRH.out false (by rw [HO.out]; rfl)⟩
                  case measure => simp [intOf]; omega
              · have e1 : decide (33 ≤ x) = false := by simpa using c1
                have HO : Hid (okc x = false) := by show _ = _; simp [okc]; omega
                go_wp2
                go_round
                case rel => exact ⟨j + 1, false, rfl, by go_num, by omega, HRH.out false (by rw [HO.out]; rfl)⟩
                case measure => simp [intOf]; omega
          · have HRN : Hid (R = named (numsOf s)) := by
              show _ = _
              rw [HR.out, HBB.out, List.take_of_length_le (by rw [HNL.out]; omega), ← named_and]
            clear HR HBB
            go_wp2
            go_loop [10, 12, 66] (fun rv _ iv => ∃ (k : Nat) (L : Bool), rv = .bool L ∧ iv = .int .i64 (k : Int) ∧ k ≤ n ∧ Hid (L = (xs.take k).all ltr)) (fun _ _ iv => n - (intOf iv).toNat)
            case atStart => exact ⟨0, true, rfl, rfl, by omega, Lib.hid (by simp)⟩
            case round =>
              obtain ⟨k, L, rfl, rfl, hk, HLT⟩ := hrel
              by_cases hkn : k < n
              · obtain ⟨b, o, rfl, hb, hc⟩ := lies_at (HL.out.keeps HK1.out (fun _ _ _ => id)) (j := k) (by rw [HX.out]; exact hkn)
                obtain ⟨x, hx⟩ : ∃ x, xs.getD k 0 = x := ⟨_, rfl⟩
                rw [hx] at hc
                have hkn' : (k : Int) < (n : Int) := by omega
                have hkw : IntKind.i64.wrap ((k : Int) + 1) = (k : Int) + 1 := IntWalk.i64_in _ (by omega)
                have HRN2 := Lib.hid (fun (R' : Bool) (h : R' = (L && ltr x)) => (Lib.hid (by rw [h, HLT.out, all_take_succ (by rw [HX.out]; exact hkn), hx]) : Hid (R' = (xs.take (k + 1)).all ltr)))
                clear hx
                cases L with
                | false =>
                  go_wp2
                  go_round
                  case rel => exact ⟨k + 1, false, rfl, by go_num, by omega, HRN2.out false (by simp)⟩
                  case measure => simp [intOf]; omega
                | true =>
                  by_cases c1 : x = 65 ∨ x = 67 ∨ x = 71 ∨ x = 84 ∨ x = 78
                  · have HO : Hid (ltr x = true) := by show _ = _; simp [ltr]; omega
                    rcases c1 with rfl | rfl | rfl | rfl | rfl
                    all_goals
                      go_wp2
                      go_round
                      case rel => exact ⟨k + 1, true, rfl, by go_num, by omega, HRN2.out true (by rw [HO.out]; rfl)⟩
                      case measure => simp [intOf]; omega
                  · have HO : Hid (ltr x = false) := by show _ = _; simp [ltr]; omega
                    have d1 : (x == 65) = false := by simp; omega
                    have d2 : (x == 67) = false := by simp; omega
                    have d3 : (x == 71) = false := by simp; omega
                    have d4 : (x == 84) = false := by simp; omega
                    have d5 : (x == 78) = false := by simp; omega
                    clear c1
                    go_wp2
                    go_round
                    case rel => exact ⟨k + 1, false, rfl, by go_num, by omega, HRN2.out false (by rw [HO.out]; rfl)⟩
                    case measure => simp [intOf]; omega
              · have HLN : Hid (L = xs.all ltr) := by
                  show _ = _
                  rw [HLT.out, List.take_of_length_le (by rw [HX.out]; omega)]
                clear HLT
                obtain ⟨W, hW⟩ : ∃ W, chk [(numsOf s, xs)] = W := ⟨_, rfl⟩
                have HW : Hid (W = if R = false then 14 else if n = 0 then 6 else if L = false then 16 else 0) := by
                  show _ = _
                  rw [← hW, chk_one _ (by simp only; rw [HX.out]; exact hn3), HRN.out, HLN.out]
                  have : (xs = []) = (n = 0) := propext ⟨fun h => by have := HX.out; rw [h] at this; simpa using this.symm, fun h => List.eq_nil_of_length_eq_zero (by rw [HX.out, h])⟩
                  simp only [this]
                have HWW := Lib.hid hW
                clear hW
                go_upto_block 4 with fail
                go_cut [14] from 95 to 104 (fun v wx => v = .int .i64 W ∧ wx = wc.alloc (.cells #[.string s, .slice A n c] 33))
                case first =>
                  cases R with
                  | false =>
                    go_wp2
                    go_meet
                    case rel => exact ⟨by rw [HW.out]; rfl, rfl⟩
                  | true =>
                    by_cases hn0 : n = 0
                    · have dn : ((n : Int) == 0) = true := by simpa using hn0
                      have HW2 : Hid (W = 6) := by show _ = _; rw [HW.out, if_neg (by simp), if_pos hn0]
                      clear hn0
                      go_wp2
                      go_meet
                      case rel => exact ⟨by rw [HW2.out], rfl⟩
                    · have dn : ((n : Int) == 0) = false := by simpa using hn0
                      have HW2 : Hid (W = if L = false then 16 else 0) := by show _ = _; rw [HW.out, if_neg (by simp), if_neg hn0]
                      clear hn0
                      cases L with
                      | false =>
                        go_wp2
                        go_meet
                        case rel => exact ⟨by rw [HW2.out]; rfl, rfl⟩
                      | true =>
                        go_wp2
                        go_meet
                        case rel => exact ⟨by rw [HW2.out]; rfl, rfl⟩
                case rest =>
                  obtain ⟨rfl, rfl⟩ := hcut
                  have HGE : Hid (Good wc ⟨numsOf s, A, c, xs⟩) := ⟨HL.out.keeps HK1.out (fun _ _ _ => id), HB.out, nums_byt s, by show xs.length ≤ _; rw [HX.out]; omega, by show (numsOf s).length ≤ _; rw [HNL.out]; omega⟩
                  obtain ⟨W2, hW2⟩ : ∃ W2, chk [(numsOf s, xs), (numsOf s, xs)] = W2 := ⟨_, rfl⟩
                  have HW2 : Hid (W2 = if W = 0 then 12 else W) := by show _ = _; rw [← hW2, chk_two, HWW.out]
                  have HW2C := Lib.hid hW2
                  clear hW2
                  obtain ⟨Bw, hBw⟩ : ∃ Bw, (W == 0) = Bw := ⟨_, rfl⟩
                  go_upto_if 114 with fail
                  have HBW := Lib.hid hBw
                  clear hBw
                  go_cut [17] from 115 to 115 (fun v wx => v = .int .i64 W2 ∧ TwoRefs (wc.heap.size + 1) (wc.heap.size + 1 + 1) (wc.heap.size + 1 + 1 + 1) (wc.heap.size + 1 + 1 + 1 + 1) ⟨numsOf s, A, c, xs⟩ wc wx)
                  case first =>
                    have HTR := Lib.hid (twoRefs_new s A n c xs wc _ _ _ _ _ HGE.out HX.out rfl rfl rfl rfl rfl)
                    cases Bw with
                    | true =>
                      have HV : Hid (W2 = 12) := by show _ = _; rw [HW2.out, if_pos (by simpa using HBW.out)]
                      go_wp2
                      go_meet
                      case rel => exact ⟨by rw [HV.out], HTR.out⟩
                    | false =>
                      have HV : Hid (W2 = W) := by show _ = _; rw [HW2.out, if_neg (by simpa using HBW.out)]
                      go_wp2
                      go_meet
                      case rel => exact ⟨by rw [HV.out], HTR.out⟩
                  case rest =>
                    obtain ⟨rfl, htr⟩ := hcut
                    have HTR := Lib.hid htr
                    clear htr HGE HW HW2 HBW
                    have h2 := HTR.out.b2.cell 0
                    obtain ⟨i0, hi0, hz0, hz1, hz2⟩ := info_parts con_info
                    obtain ⟨q, hq⟩ : ∃ q, K % 5 = q := ⟨_, rfl⟩
                    have hqm : (K : Int) % 5 = (q : Int) := by omega
                    have hq5 : q < 5 := by omega
                    obtain ⟨we, rfl⟩ : ∃ we, we = wc := ⟨_, rfl⟩
                    clear hq h2
                    go_wp2
                    clear hqm
                    have HMN : Hid (MnS we.heap.size none 0 0 [] we (we.alloc (.cells #[.slice none 0 0] 29))) := ⟨Blk.new _ _ _, World.ownsRow_nil _ _ _ _, rfl, fun e he => (by cases he), rfl, (Keeps.refl _ _).alloc _, by simp⟩
                    go_loopw [119] (fun iv wr => ∃ (j : Nat) (B : Option Addr) (cb : Nat) (es : List Ct), iv = .int .i64 (j : Int) ∧ j ≤ 98 + q ∧ Hid (MnS we.heap.size B j cb es we wr)) (fun iv _ => 98 + q - (intOf iv).toNat)
                    case atStart => exact ⟨0, none, 0, [], rfl, by omega, HMN⟩
                    case round =>
                      clear HMN
                      obtain ⟨j, B, cb, es, rfl, hj, HI⟩ := hrel
                      by_cases hjl : j < 98 + q
                      · have hjl' : (j : Int) < 98 + (q : Int) := by omega
                        have hjw : IntKind.i64.wrap ((j : Int) + 1) = (j : Int) + 1 := IntWalk.i64_in _ (by omega)
                        have hj0 : (0 : Int) ≤ (j : Int) := by omega
                        have c0 : wr.cell? ⟨we.heap.size, 0, none⟩ = some (.slice B j cb) := HI.out.ref.cell 0
                        obtain ⟨a, ha⟩ : ∃ a : Int, 48 + (j : Int) / 10 = a := ⟨_, rfl⟩
                        obtain ⟨b, hb⟩ : ∃ b : Int, 48 + (j : Int) % 10 = b := ⟨_, rfl⟩
                        have HAB : Hid (0 ≤ a ∧ a < 256 ∧ 0 ≤ b ∧ b < 256) := Lib.hid (by omega)
                        have HA := Lib.hid ha
                        have HB' := Lib.hid hb
                        have hwa : IntKind.u8.wrap a = a := by rw [IntKind.wrap_u8]; omega
                        have hwb : IntKind.u8.wrap b = b := by rw [IntKind.wrap_u8]; omega
                        have hma : a % 256 = a := by omega
                        have hmb : b % 256 = b := by omega
                        have hcv := (lies_lit wr [a, b] (0, 0)).str_n (P := Try.prog) 2 rfl 31 9 5 2 Try.underlying31 Try.underlying5 Try.underlying9
                        rw [show (bv [a, b]).toArray = #[.int .u8 a, .int .u8 b] from rfl] at hcv
                        obtain ⟨T, hT⟩ : ∃ T, strOfNums [a, b] = T := ⟨_, rfl⟩
                        rw [hT] at hcv
                        have hTs : T.size = 2 := by rw [← hT, strOfNums_size]; rfl
                        have hcc := Lib.run_convert_bytes_const (P := Try.prog) (wr.alloc (.cells #[.int .u8 a, .int .u8 b] 5)) 31 5 #[.int .u8 65] 1 1 Try.underlying31 Try.underlying5
                        rw [show (wr.alloc (.cells #[.int .u8 a, .int .u8 b] 5)).heap.size = wr.heap.size + 1 by simp, show (#[Value.int .u8 65] : Array Value).size = 1 from rfl] at hcc
                        have HSN : Hid ((⟨#[110]⟩ : ByteArray) ++ T = strOfNums [110, a, b]) := by
                          show _ = _
                          rw [← hT, show (⟨#[110]⟩ : ByteArray) = strOfNums [110] from rfl, str_append]
                          rfl
                        have k1 := (Keeps.refl (fun _ => False) wr).alloc (.cells #[.int .u8 a, .int .u8 b] 5)
                        have k2 := k1.alloc (.cells #[.int .u8 65] 5 (1, 2))
                        have hX2 : ((wr.alloc (.cells #[.int .u8 a, .int .u8 b] 5)).alloc (.cells #[.int .u8 65] 5 (1, 2))).heap[wr.heap.size + 1]? = some (Obj.cells #[.int .u8 65] 5 (1, 2)) := by
                          have := heap_alloc_new (wr.alloc (.cells #[.int .u8 a, .int .u8 b] 5)) (.cells #[.int .u8 65] 5 (1, 2))
                          rw [show (wr.alloc (.cells #[.int .u8 a, .int .u8 b] 5)).heap.size = wr.heap.size + 1 by simp] at this
                          exact this
                        have HI2 := Lib.hid (HI.out.more k2)
                        have HX2 := Lib.hid hX2
                        have hNW := con_news ((wr.alloc (.cells #[.int .u8 a, .int .u8 b] 5)).alloc (.cells #[.int .u8 65] 5 (1, 2))) (.string ((⟨#[110]⟩ : ByteArray) ++ T)) (.slice (some ⟨wr.heap.size + 1, 0, none⟩) 1 1)
                        rw [show ((wr.alloc (.cells #[.int .u8 a, .int .u8 b] 5)).alloc (.cells #[.int .u8 65] 5 (1, 2))).heap.size = wr.heap.size + 1 + 1 by simp] at hNW
                        have HNW := Lib.hid hNW
                        have HKA := Lib.hid ((Keeps.refl (fun _ => False) ((wr.alloc (.cells #[.int .u8 a, .int .u8 b] 5)).alloc (.cells #[.int .u8 65] 5 (1, 2)))).alloc (.cells #[.string ((⟨#[110]⟩ : ByteArray) ++ T), .slice (some ⟨wr.heap.size + 1, 0, none⟩) 1 1] 33))
                        have HI3 := Lib.hid (HI2.out.more HKA.out)
                        have HX3 := Lib.hid ((HKA.out.block (wr.heap.size + 1) (by simp) id).trans HX2.out)
                        clear hT k1 k2 hX2 hNW
                        go_wp2_with (at_builtin
                                     refine wpList_append_lies _ rfl (.tmp 122) (.tmp 141) 27 rfl (we.heap.size + 1) 33 i0 _ 2 40 Try.underlying27 hi0 hz0 hz1 hz2 rfl (by omega) (.slice B j cb) j (cvs es) (by rfl) (by exact HI3.out.own) ⟨wr.heap.size + 1 + 1, 0, none⟩ 1 1 [.string ((⟨#[110]⟩ : ByteArray) ++ T), .slice (some ⟨wr.heap.size + 1, 0, none⟩) 1 1] (by rfl) rfl (by exact HNW.out) (by simp [Value.oneCell']) (by omega) (by simp only [maxLen]; omega) (by omega) (by exact HI3.out.base_) _ rfl ?_
                                     intro g6 cap6 w6 hown6 hgrow6 hat6 hlt6
                                     have h7 : Blk w6 we.heap.size 29 #[.slice B j cb] := HI3.out.ref.grown hgrow6 (own_ne HI3.out.own HI3.out.ref (by decide))
                                     have f6 : w6.frozen? ⟨we.heap.size, 0, none⟩ = false := h7.frozen 0
                                     have c6 : w6.cell? ⟨we.heap.size, 0, none⟩ = some (.slice B j cb) := h7.cell 0
                                     have HO6 := Lib.hid hown6
                                     have HG6 := Lib.hid hgrow6
                                     clear h7 hown6 hgrow6 hat6 hlt6)
                        have HE := HI3.out.put (Nat.le_refl _) [110, a, b] HX3.out (by rw [HA.out, HB'.out]) (by omega) (B' := some ⟨g6, 0, none⟩) (cb' := cap6) (w6 := w6)
                          (by
                            rw [cvs_app]
                            have h1 := HO6.out
                            rw [HSN.out] at h1
                            exact h1) HG6.out
                        clear ha hb
                        go_roundw
                        case rel => exact ⟨j + 1, some ⟨g6, 0, none⟩, cap6, _, by go_num, by omega, Lib.hid HE⟩
                        case measure => simp [intOf]; omega
                      · have HJE : Hid (j = 98 + q) := by show _ = _; omega
                        obtain ⟨F, hF⟩ : ∃ F : Int, (if q ≤ 2 then 0 else 7) = F := ⟨_, rfl⟩
                        have HCF : Hid (chk (pairs es) = F) := by
                          show _ = _
                          rw [HI.out.prs, HJE.out, ← hF]
                          exact mny_chk ⟨q, hq5⟩
                        have HFF := Lib.hid hF
                        have hj102 : j ≤ 102 := by omega
                        have HMR : Hid (IsRef wr B j es) := Lib.hid (isRef_own HI.out.own HI.out.el (by omega) (fun e he => (HI.out.good e he).1))
                        have HC1 : Hid (Calls Try.prog 12 #[.agg #[.slice B j cb]] wr fun r w' => r = .returned (.int .i64 F) ∧ Keeps (fun _ => False) wr w') := Lib.hid (by
                          have := check_ B j cb es wr HMR.out
                          unfold ChkR at this
                          rw [HCF.out] at this
                          exact this)
                        have HTR1 := Lib.hid (HTR.out.more HI.out.keeps)
                        have c0 : wr.cell? ⟨we.heap.size, 0, none⟩ = some (.slice B j cb) := HI.out.ref.cell 0
                        have HNA : Hid (∀ w0, Calls Try.prog 17 #[.string s] w0 fun r w' => r = .returned (.bool R) ∧ Keeps (fun _ => False) w0 w') := Lib.hid (fun w0 => by
                          have := named_ s w0
                          unfold NamedR at this
                          rw [← HRN.out] at this
                          exact this)
                        have HCR : Hid (∀ w0, TwoRefs (wc.heap.size + 1) (wc.heap.size + 1 + 1) (wc.heap.size + 1 + 1 + 1) (wc.heap.size + 1 + 1 + 1 + 1) ⟨numsOf s, A, c, xs⟩ wc w0 → (Calls Try.prog 12 #[.agg #[.slice (some ⟨wc.heap.size + 1, 0, none⟩) 1 1]] w0 fun r w' => r = .returned (.int .i64 W) ∧ Keeps (fun _ => False) w0 w') ∧ (Calls Try.prog 12 #[.agg #[.slice (some ⟨wc.heap.size + 1 + 1 + 1, 0, none⟩) 2 2]] w0 fun r w' => r = .returned (.int .i64 W2) ∧ Keeps (fun _ => False) w0 w')) := Lib.hid (fun w0 h => by
                          have h1 := check_ _ 1 1 _ w0 h.r1
                          have h2 := check_ _ 2 2 _ w0 h.r2
                          unfold ChkR at h1 h2
                          rw [show pairs [⟨numsOf s, A, c, xs⟩] = [(numsOf s, xs)] from rfl, HWW.out] at h1
                          rw [show pairs [⟨numsOf s, A, c, xs⟩, ⟨numsOf s, A, c, xs⟩] = [(numsOf s, xs), (numsOf s, xs)] from rfl, HW2C.out] at h2
                          exact ⟨h1, h2⟩)
                        have hj100 : decide ((j : Int) ≤ 100) = (F == 0) := by
                          rw [← hF]
                          by_cases h2 : q ≤ 2
                          · rw [if_pos h2]
                            simp
                            omega
                          · rw [if_neg h2]
                            simp
                            omega
                        have HJ100 := Lib.hid hj100
                        clear hF hj100
                        go_wp2_with fail
                        refine HC1.out.mono ?_
                        rintro e1 w2 ⟨rfl, hk2⟩
                        have HI2 := Lib.hid (HI.out.more hk2)
                        have HTR2 := Lib.hid (HTR1.out.more hk2)
                        clear hk2 c0
                        go_wp2_with fail
                        refine (HNA.out w2).mono ?_
                        rintro e1 w3 ⟨rfl, hk3⟩
                        have HI3 := Lib.hid (HI2.out.more hk3)
                        have HTR3 := Lib.hid (HTR2.out.more hk3)
                        have c0 : w3.cell? ⟨wc.heap.size + 1 + 1, 0, none⟩ = some (.slice (some ⟨wc.heap.size + 1, 0, none⟩) 1 1) := HTR3.out.b2.cell 0
                        have drr : (R == R) = true := by simp
                        clear hk3
                        go_wp2_with fail
                        refine ((HCR.out w3 HTR3.out).1).mono ?_
                        rintro e1 w4 ⟨rfl, hk4⟩
                        have HI4 := Lib.hid (HI3.out.more hk4)
                        have HTR4 := Lib.hid (HTR3.out.more hk4)
                        have c1 : w4.cell? ⟨wc.heap.size + 1 + 1 + 1 + 1, 0, none⟩ = some (.slice (some ⟨wc.heap.size + 1 + 1 + 1, 0, none⟩) 2 2) := HTR4.out.b4.cell 0
                        have dww : (W == W) = true := by simp
                        clear hk4
                        go_wp2_with fail
                        refine ((HCR.out w4 HTR4.out).2).mono ?_
                        rintro e1 w5 ⟨rfl, hk5⟩
                        have HI5 := Lib.hid (HI4.out.more hk5)
                        have c2 : w5.cell? ⟨we.heap.size, 0, none⟩ = some (.slice B j cb) := HI5.out.ref.cell 0
                        have dww2 : (W2 == W2) = true := by simp
                        have HKE := Lib.hid (HK1.out.trans (HTR.out.keeps.trans (HI.out.keeps)))
                        have HKE5 : Hid (Keeps (fun _ => False) w w5) := Lib.hid (HK1.out.trans (HTR.out.keeps.trans HI5.out.keeps))
                        clear hk5
                        by_cases hq2 : q ≤ 2
                        · have hf0 : F = 0 := by rw [← HFF.out, if_pos hq2]
                          subst hf0
                          have dj : decide ((j : Int) ≤ 100) = true := HJ100.out
                          go_wp2
                          go_ret
                          exact ⟨rfl, HKE5.out⟩
                        · have hf7 : F = 7 := by rw [← HFF.out, if_neg hq2]
                          subst hf7
                          have dj : decide ((j : Int) ≤ 100) = false := HJ100.out
                          go_wp2
                          go_ret
                          exact ⟨rfl, HKE5.out⟩
end Go.Proofs.Ytbekdcakmeejaaa.Ct

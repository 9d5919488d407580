/- What contig's calls answer that only read: Named, lettered, bytes.Equal, Find, Len, At: any names, any letters. -/
import Derived.Test.YtbekdcakmeejaaaCtPl
import Derived.Test.YtbekdcakmeejaaaClone
import Derived.LoopTactic
import Derived.Laws.RangeString
import Derived.Laws.RangeAny
import Derived.Laws.Strings
import Derived.WalkSpells
namespace Go.Proofs.Ytbekdcakmeejaaa.Ct
open Go.RowKit Go.Proofs.Ytbekdcakmeejaaa.Gen

theorem nums_at (s : ByteArray) (k : Nat) (h : k < s.size) : (numsOf s).getD k 0 = ((s[k]'h).toNat : Int) := by
  have : s.data.toList[k]? = some (s[k]'h) := by
    rw [Array.getElem?_toList, Array.getElem?_eq_getElem (show k < s.data.size from h)]
    rfl
  simp only [numsOf, List.getD_eq_getElem?_getD, List.getElem?_map, this]
  rfl
theorem all_of {f : Int → Bool} {xs : List Int} (h : ∀ i, i < xs.length → f (xs.getD i 0) = true) : xs.all f = true := by
  rw [List.all_eq_true]
  intro x hx
  obtain ⟨i, hi, rfl⟩ := List.getElem_of_mem hx
  have := h i hi
  simpa [List.getD_eq_getElem?_getD, hi] using this
theorem all_not {f : Int → Bool} {xs : List Int} {i : Nat} (hi : i < xs.length) (h : f (xs.getD i 0) = false) : xs.all f = false := by
  cases hh : xs.all f with
  | false => rfl
  | true =>
    rw [List.all_eq_true] at hh
    have := hh _ (List.getElem_mem hi)
    rw [List.getD_eq_getElem?_getD, List.getElem?_eq_getElem hi] at h
    simp only [Option.getD_some] at h
    rw [this] at h
    cases h
theorem named_eq {s : ByteArray} (h0 : ¬ s.size = 0) (h1 : s.size ≤ 254) : named (numsOf s) = (numsOf s).all okc := by
  have hl := nums_len s
  have he : (numsOf s).isEmpty = false := by
    cases hh : numsOf s with
    | nil => rw [hh] at hl; simp at hl; omega
    | cons a b => rfl
  rw [named, he, hl]
  simp [h1]
def NamedR (s : ByteArray) (w : World) (r : Ending) (w' : World) : Prop := r = .returned (.bool (named (numsOf s))) ∧ Keeps (fun _ => False) w w'

set_option maxHeartbeats 4000000 in
set_option maxRecDepth 1000000 in
theorem named_ (s : ByteArray) (w : World) : Calls Try.prog 17 #[.string s] w (NamedR s w) := by
  have hl := nums_len s
  by_cases h0 : s.size = 0
  · have he : s.toList = [] := by
      rw [ByteArray.toList_eq]
      exact List.eq_nil_of_length_eq_zero (by simpa using h0)
    have he2 : s.toList.isEmpty = true := by rw [he]; rfl
    have HN : Hid (named (numsOf s) = false) := by
      show _ = _
      have : numsOf s = [] := List.eq_nil_of_length_eq_zero (by omega)
      rw [this]
      rfl
    clear hl h0
    go_enter Try.func17, Try.ntmps17
    go_wp2
    go_ret
    exact ⟨by rw [HN.out]; rfl, Keeps.refl _ _⟩
  · have he : ¬ s.toList = [] := by
      rw [ByteArray.toList_eq]
      intro h
      exact h0 (by simpa using congrArg List.length h)
    have he2 : s.toList.isEmpty = false := by simpa using he
    by_cases h1 : 254 < s.size
    · have d1 : decide ((254 : Int) < (s.size : Int)) = true := by simp; omega
      have HN : Hid (named (numsOf s) = false) := by
        show _ = _
        rw [named, hl]
        simp
        omega
      clear hl h0
      go_enter Try.func17, Try.ntmps17
      go_wp2
      go_ret
      exact ⟨by rw [HN.out]; rfl, Keeps.refl _ _⟩
    · have d1 : decide ((254 : Int) < (s.size : Int)) = false := by simp; omega
      have HN := Lib.hid (named_eq h0 (by omega))
      have HL := Lib.hid hl
      clear hl h0
      go_enter Try.func17, Try.ntmps17
      go_wp2
      go_loopw [4] (fun _ wr => ∃ pos : Nat, pos ≤ s.size ∧ wr = w.iter s pos ∧ Hid (∀ i, i < pos → okc ((numsOf s).getD i 0) = true)) (fun _ wr => s.size - wr.iterPos w.heap.size)
      case atStart => exact ⟨0, by omega, rfl, Lib.hid (fun i hi => by omega)⟩
      case round =>
        obtain ⟨pos, hp, rfl, HI⟩ := hrel
        have HK : ∀ p, Hid (Keeps (fun _ => False) w (w.iter s p)) := fun p => Lib.hid ((Keeps.refl _ _).alloc _)
        by_cases hlt : pos < s.size
        · have hg := nums_at s pos hlt
          by_cases ha : (s[pos]'hlt).toNat < 128
          · have hnx : ∀ ty, (Instr.next (.pointer (some ⟨w.heap.size, 0, none⟩)) true ty).run Try.prog (w.iter s pos) = _ := fun ty => run_next_ascii w s pos ty hlt ha
            obtain ⟨c, hc⟩ : ∃ c : Int, ((s[pos]'hlt).toNat : Int) = c := ⟨_, rfl⟩
            rw [hc] at hnx hg
            have HG := Lib.hid hg
            have HC : Hid (0 ≤ c ∧ c < 128) := Lib.hid (by omega)
            have HLT := Lib.hid hlt
            clear hg hc ha hlt
            by_cases c1 : c < 33
            · have d : decide (c < 33) = true := by simpa using c1
              have HB : Hid (okc c = false) := by show _ = _; simp [okc]; omega
              go_wp2
              go_ret
              exact ⟨by rw [HN.out, all_not (by rw [HL.out]; exact HLT.out) (by rw [HG.out]; exact HB.out)]; rfl, (HK _).out⟩
            · have d : decide (c < 33) = false := by simpa using c1
              by_cases c2 : 126 < c
              · have d' : decide (126 < c) = true := by simpa using c2
                have HB : Hid (okc c = false) := by show _ = _; simp [okc]; omega
                go_wp2
                go_ret
                exact ⟨by rw [HN.out, all_not (by rw [HL.out]; exact HLT.out) (by rw [HG.out]; exact HB.out)]; rfl, (HK _).out⟩
              · have d' : decide (126 < c) = false := by simpa using c2
                by_cases c3 : c = 61
                · have d3 : (c == 61) = true := by simpa using c3
                  have HB : Hid (okc c = false) := by show _ = _; simp [okc, c3]
                  clear c3
                  go_wp2
                  go_ret
                  exact ⟨by rw [HN.out, all_not (by rw [HL.out]; exact HLT.out) (by rw [HG.out]; exact HB.out)]; rfl, (HK _).out⟩
                · have d3 : (c == 61) = false := by simpa using c3
                  by_cases c4 : c = 42
                  · have d4 : (c == 42) = true := by simpa using c4
                    have HB : Hid (okc c = false) := by show _ = _; simp [okc, c4]
                    clear c3 c4
                    go_wp2
                    go_ret
                    exact ⟨by rw [HN.out, all_not (by rw [HL.out]; exact HLT.out) (by rw [HG.out]; exact HB.out)]; rfl, (HK _).out⟩
                  · have d4 : (c == 42) = false := by simpa using c4
                    have HB : Hid (okc c = true) := by show _ = _; simp [okc, c3, c4]; omega
                    clear c3 c4
                    go_wp2
                    go_roundw
                    case rel =>
                      refine ⟨pos + 1, by have := HLT.out; omega, rfl, Lib.hid (fun i hi => ?_)⟩
                      by_cases e : i = pos
                      · rw [e, HG.out, HB.out]
                      · exact HI.out i (by omega)
                    case measure =>
                      have := HLT.out
                      simp
                      omega
          · have hh := decode_high s pos hlt (by omega)
            have hnx : ∀ ty, (Instr.next (.pointer (some ⟨w.heap.size, 0, none⟩)) true ty).run Try.prog (w.iter s pos) = _ := fun ty => run_next_any w s pos ty hlt
            obtain ⟨R, hR⟩ : ∃ R, Utf8.decode s pos = R := ⟨_, rfl⟩
            rw [hR] at hnx hh
            obtain ⟨r, wd⟩ := R
            simp only at hnx hh
            have HB : Hid (okc ((numsOf s).getD pos 0) = false) := by
              show _ = _
              rw [hg]
              simp [okc]
              omega
            have HLT := Lib.hid hlt
            obtain ⟨c, hc⟩ : ∃ c : Int, (r : Int) = c := ⟨_, rfl⟩
            rw [hc] at hnx
            have c1 : ¬ c < 33 := by omega
            have d : decide (c < 33) = false := by simpa using c1
            have c2 : 126 < c := by omega
            have d' : decide (126 < c) = true := by simpa using c2
            clear hg hR hh ha hc hlt
            go_wp2
            go_ret
            exact ⟨by rw [HN.out, all_not (by rw [HL.out]; exact HLT.out) HB.out]; rfl, (HK _).out⟩
        · have hnx : ∀ ty, (Instr.next (.pointer (some ⟨w.heap.size, 0, none⟩)) true ty).run Try.prog (w.iter s pos) = _ := fun ty => run_next_end w s pos ty hlt
          have HE : Hid (pos = s.size) := by show _ = _; omega
          clear hlt
          go_wp2
          go_ret
          exact ⟨by rw [HN.out, all_of (by rw [HL.out, ← HE.out]; exact HI.out)]; rfl, (HK _).out⟩
theorem named_n (n : List Int) (w : World) (h : Byt n) : Calls Try.prog 17 #[.string (strOfNums n)] w fun r w' => r = .returned (.bool (named n)) ∧ Keeps (fun _ => False) w w' := by
  have h1 := named_ (strOfNums n) w
  unfold NamedR at h1
  rw [nums_str h] at h1
  exact h1

theorem lies_at {w : World} {A : Option Addr} {xs : List Int} (h : Lies w A xs) {j : Nat} (hj : j < xs.length) : ∃ b o, A = some ⟨b, o, none⟩ ∧ b < w.heap.size ∧ w.cell? ⟨b, o + j, none⟩ = some (.int .u8 (xs.getD j 0)) := by
  rcases h with rfl | ⟨b, o, rfl, hb, hc⟩
  · simp at hj
  · exact ⟨b, o, rfl, hb, hc j hj⟩

set_option maxHeartbeats 4000000 in
set_option maxRecDepth 100000 in
theorem lettered_ (A : Option Addr) (n c : Nat) (xs : List Int) (w : World) (hl : Lies w A xs) (hx : xs.length = n) (hn : n ≤ 10000000) :
    Calls Try.prog 20 #[.slice A n c] w fun r w' => r = .returned (.bool (xs.all ltr)) ∧ w = w' := by
  have HL := Lib.hid hl
  have HX := Lib.hid hx
  clear hl hx
  go_enter Try.func20, Try.ntmps20
  go_wp2
  go_loop [4, 7] (fun _ i => ∃ j : Nat, i = .int .i64 (j : Int) ∧ j ≤ n ∧ Hid (∀ k, k < j → ltr (xs.getD k 0) = true)) (fun _ i => n - (intOf i).toNat)
  case atStart => exact ⟨0, rfl, by omega, Lib.hid (fun k hk => by omega)⟩
  case round =>
    obtain ⟨j, rfl, hj, HI⟩ := hrel
    by_cases hlt : j < n
    · obtain ⟨b, o, rfl, hb, hc⟩ := lies_at HL.out (by rw [HX.out]; exact hlt)
      obtain ⟨x, hx⟩ : ∃ x, xs.getD j 0 = x := ⟨_, rfl⟩
      rw [hx] at hc
      have HXX := Lib.hid hx
      clear hx
      have hj0 : (j : Int) < (n : Int) := by omega
      have hjw : IntKind.i64.wrap ((j : Int) + 1) = (j : Int) + 1 := IntWalk.i64_in _ (by omega)
      by_cases c1 : x = 65 ∨ x = 67 ∨ x = 71 ∨ x = 84 ∨ x = 78
      · have HB : Hid (ltr x = true) := by show _ = _; simp [ltr]; omega
        rcases c1 with rfl | rfl | rfl | rfl | rfl
        all_goals
          go_wp2
          go_round
          case rel =>
            refine ⟨j + 1, by go_num, by omega, Lib.hid (fun k hk => ?_)⟩
            by_cases e : k = j
            · rw [e, HXX.out, HB.out]
            · exact HI.out k (by omega)
          case measure => simp [intOf]; omega
      · have HB : Hid (ltr x = false) := by show _ = _; simp [ltr]; omega
        have d1 : (x == 65) = false := by simp; omega
        have d2 : (x == 67) = false := by simp; omega
        have d3 : (x == 71) = false := by simp; omega
        have d4 : (x == 84) = false := by simp; omega
        have d5 : (x == 78) = false := by simp; omega
        clear c1
        go_wp2
        go_ret
        exact ⟨by rw [all_not (by rw [HX.out]; exact hlt) (by rw [HXX.out]; exact HB.out)]; rfl, rfl⟩
    · have HE : Hid (j = n) := by show _ = _; omega
      go_wp2
      go_ret
      exact ⟨by rw [all_of (by rw [HX.out, ← HE.out]; exact HI.out)]; rfl, rfl⟩
/-- bytes.Equal. -/
theorem equal_ (A B : Option Addr) (n m c d : Nat) (xs ys : List Int) (w : World) (hl : Lies w A xs) (hk : Lies w B ys) (hx : xs.length = n) (hy : ys.length = m) (bx : Byt xs) (by' : Byt ys) :
    Calls Try.prog 21 #[.slice A n c, .slice B m d] w fun r w' => r = .returned (.bool (decide (xs = ys))) ∧ w = w' := by
  have hs1 := hl.str_n (P := Try.prog) n hx 31 9 5 c Try.underlying31 Try.underlying5 Try.underlying9
  have hs2 := hk.str_n (P := Try.prog) m hy 31 9 5 d Try.underlying31 Try.underlying5 Try.underlying9
  have HE := Lib.hid (str_eq bx by')
  clear hl hk hx hy bx by'
  go_enter Try.func21, Try.ntmps21
  go_wp2
  go_ret
  exact ⟨by rw [HE.out]; rfl, rfl⟩
end Go.Proofs.Ytbekdcakmeejaaa.Ct

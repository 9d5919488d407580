/- The statement BitsAny (P1, P3.2: any bytes, in any pieces: their bits; what there isn't ends them) holds for every input: the Go function answers true, and its arguments read as before. No conditions beyond the row's own. -/
import Derived.Test.YtoeblggegahhoaaRows
import Derived.WalkKit
import Derived.ProofKit
import Derived.OpenShut
import Derived.ShutString
import Derived.ChangeOld
import Derived.Below
import Derived.Test.YtoeblggegahhoaaAwake3
import Derived.Test.YtoeblggegahhoaaBitRef
import Derived.Test.YtoeblggegahhoaaBitRd
import Derived.Outline
import Derived.Deep.CutRange
namespace Go.Proofs.Ytoeblggegahhoaa.bitsAny
open Go.ChangeShapes Go.WideShapes Go.ChangeAt Go.RowKit
open Go.ChangeMaps (open_string shut_string)
open Go.Proofs.Ytoeblggegahhoaa.Gen Go.Proofs.Ytoeblggegahhoaa.Cl Go.Proofs.Ytoeblggegahhoaa.Bp Go.Proofs.Ytoeblggegahhoaa.Bf Go.Proofs.Ytoeblggegahhoaa.Bq Go.Proofs.Ytoeblggegahhoaa.Br
set_option linter.unusedVariables false

theorem own : ownKnob Try.prog.godebug = none := by kernel_rfl
theorem laidOut : laidOutB Try.prog = true := by kernel_rfl

/-- WHAT THE WALK IS TOLD OF A SLICE OF INTEGERS THAT CAME IN: it is nil; or it leads to a row of 'cap' cells, the numbers 'zs' (the first 'len' are its elements, the rest its spare room), each fitting its kind. -/
def IsRow (k : IntKind) (w : World) (a : Option Addr) (len cap : Nat) (zs : List Int) : Prop :=
  (a = none ∧ len = 0 ∧ cap = 0 ∧ zs = []) ∨
  ∃ x, a = some x ∧ len ≤ cap ∧ cap ≤ maxLen ∧ zs.length = cap ∧ (∀ i, i < zs.length → w.cell? (x.add i) = some (.int k (zs.getD i 0))) ∧ ∀ n ∈ zs, (Lit.int k n).wf = true

theorem run_cut_to {P : Program} (t e : TypeId) (A : Option Addr) (n c m : Nat) (kh : IntKind) (ht : P.underlying t = some (.slice e)) (he : ∀ w, (sizeOf e).run P w = .ok 1 w) (hk : m ≤ c) (w : World) :
    (Instr.slice t (.slice A n c) none (some (.int kh m)) none).run P w = .ok (.slice (cutAt A c 0) m c) w := by
  have hel : P.elem t = e := by simp [Program.elem, ht]
  rw [run_slice_h (P := P) w t A n c (by rw [hel]; exact ht) kh m (by omega) (by omega), hel, he]
  simp only [Result.andThen, sliced, Int.toNat_natCast]
  rfl
/-- Ahead of each round: the Reader in block g is s; the bits that are left lie, one by one, at A, below block t. -/
structure Now (base t g : Nat) (s : BS) (A : Option Addr) (c : Nat) (w1 wr : World) : Prop where
  rd : IsBr t g s wr
  lies : Lies wr A (ib (s.bits.drop s.k))
  low : ∀ ad : Addr, A = some ad → ad.block < t
  room : 8 * s.xs.length - s.k ≤ c
  keeps : Keeps (base ≤ ·) w1 wr
  base_ : base ≤ t
theorem rest_len (s : BS) : (ib (s.bits.drop s.k)).length = 8 * s.xs.length - s.k := by rw [ib_len, List.length_drop, BS.len]
theorem Now.turn {base t g : Nat} {s s1 : BS} {A A1 : Option Addr} {c c1 : Nat} {w1 wr w2 : World} (h : Now base t g s A c w1 wr) (hr : IsBr t g s1 w2) (k : Keeps (· = g) wr w2) (hl : Lies wr A1 (ib (s1.bits.drop s1.k))) (hlow : ∀ ad : Addr, A1 = some ad → ad.block < t) (hroom : 8 * s1.xs.length - s1.k ≤ c1) : Now base t g s1 A1 c1 w1 w2 :=
  ⟨hr, hl.keeps k (fun b o e hb => by have h1 := hlow _ e; have h2 := hr.1; simp at h1; omega), hlow, hroom, h.keeps.trans (k.mono fun b _ e => by have := hr.1; have := h.base_; omega), h.base_⟩
theorem cut_low {A : Option Addr} {c k t : Nat} (h : ∀ ad : Addr, A = some ad → ad.block < t) : ∀ ad : Addr, cutAt A c k = some ad → ad.block < t := by
  intro ad he
  unfold cutAt at he
  split at he
  · exact h ad he
  · rcases A with _ | a
    · cases he
    · simp only [Option.map_some, Option.some.injEq] at he
      subst he
      have := h a rfl
      unfold Addr.add
      split <;> exact this
set_option maxHeartbeats 2000000 in
set_option maxRecDepth 100000 in
theorem walk (a0 : Option Addr) (len0 cap0 : Nat) (z0 : List Int) (a1 : Option Addr) (len1 cap1 : Nat) (z1 : List Int) (w : World) (w0 : IsRow .u8 w a0 len0 cap0 z0) (w1 : IsRow .i64 w a1 len1 cap1 z1) :
    Calls Try.prog 3 #[.slice a0 len0 cap0, .slice a1 len1 cap1] w fun e w' => e = .returned (.bool true) ∧ Below w.heap.size w w' := by
  obtain ⟨hxl, hlc, hlies, hby⟩ := row_lies w0
  obtain ⟨hzl, hrow⟩ := row_at w1
  by_cases hl : len0 ≤ 60
  · by_cases hl2 : len1 ≤ 60
    · have hd0 : decide ((60 : Int) < (len0 : Int)) = false := by simp; omega
      have hd1 : decide ((60 : Int) < (len1 : Int)) = false := by simp; omega
      obtain ⟨xs, hxs⟩ : ∃ xs, xs = z0.take len0 := ⟨_, rfl⟩
      rw [← hxs] at hxl hlies hby
      have HX := Lib.hid hxl
      have HL := Lib.hid hlies
      have HB := Lib.hid hby
      have HROW := Lib.hid hrow
      clear hxs hxl hlies hby hzl hrow w0 w1
      go_enter Try.func3, Try.ntmps3
      go_wp2_with fail
      refine (Aw.awake _).mono ?_
      rintro e w1 ⟨rfl, hb1⟩
      have HB1 := Lib.hid hb1
      have HL1 := Lib.hid (HL.out.below hb1)
      clear hb1
      go_wp2_with fail
      refine (of_ _ len0 _ xs _ HX.out HL1.out (by omega) HB.out).mono ?_
      rintro e w2 ⟨A2, c2, rfl, hv2, hk2⟩
      have HV2 := Lib.hid hv2
      have HK2 := Lib.hid hk2
      have HL2 := Lib.hid (HL1.out.keeps hk2 (fun _ _ _ => id))
      clear hv2 hk2
      go_wp2_with fail
      refine (read_n _ len0 _ xs _ HX.out HL2.out (by omega) HB.out).mono ?_
      rintro e w3 ⟨g, rfl, hr3, hk3⟩
      have HN : Hid (Now w1.heap.size w2.heap.size g ⟨xs, 0, false⟩ A2 c2 w1 w3) := by
        refine ⟨hr3, ?_, ?_, ?_, (HK2.out.trans hk3).mono fun _ _ h => h.elim, HK2.out.size⟩
        · exact (Lies.of_own HV2.out).keeps hk3 (fun _ _ _ => id)
        · rintro ad rfl
          rcases HV2.out.2 with ⟨hq, _⟩ | ⟨g', cap, cur, hq, _, hh, _⟩
          · cases hq
          · injection hq with hq
            injection hq with hq
            subst hq
            exact (Array.getElem?_eq_some_iff.1 hh).1
        · obtain ⟨_, _, hq, hle⟩ := own_form HV2.out
          injection hq with _ _ hq
          have := HX.out
          simp
          omega
      clear hr3 hk3 HL1 HL2 HV2 HK2
      go_wp2
      go_loopw [5, 7, 36] (fun l e i wr => ∃ (j : Nat) (s : BS) (A : Option Addr) (c m : Nat), j ≤ len1 ∧ s.xs = xs ∧ 8 * len0 = s.k + m ∧ l = .slice A m c ∧ e = .bool s.ended ∧ i = .int .i64 j ∧ Now w1.heap.size w2.heap.size g s A c w1 wr) (fun _ _ i _ => len1 - (intOf i).toNat)
      case atStart => exact ⟨0, ⟨xs, 0, false⟩, A2, c2, 8 * len0, Nat.zero_le _, rfl, by simp, rfl, rfl, rfl, HN.out⟩
      case round =>
        obtain ⟨j, s, A, c, m, hj, hsx, hm, rfl, rfl, rfl, hn⟩ := hrel
        have HN := Lib.hid hn
        have HSX := Lib.hid hsx
        have HM := Lib.hid hm
        have HBR : Hid (Below w.heap.size w wr) := HB1.out.trans (hn.keeps.below HB1.out.size (fun _ h => Nat.le_trans HB1.out.size h))
        clear hn hsx hm
        by_cases hlt : j < len1
        · obtain ⟨b, o, x, rfl, hb, hcx0, hzx, hwx⟩ := HROW.out j hlt
          have hcx : wr.cell? ⟨b, o + j, none⟩ = some (.int .i64 x) := (HBR.out.cell (p := ⟨b, o + j, none⟩) hb).trans hcx0
          clear hcx0 hzx hwx hb
          go_upto_region 11 with fail
          go_cut [10, 36] from 36 to 78 (fun sl i wx => sl = .int .i64 (sz x) ∧ i = .int .i64 j ∧ wx = wr)
          case first =>
            rcases Int.lt_or_le x 0 with h | h
            · have H : Hid ((0 : Int) = (sz x : Int)) := by show (0 : Int) = (sz x : Int); unfold sz; omega
              go_wp2
              go_meet
              exact ⟨by rw [← H.out], rfl, rfl⟩
            · rcases Int.lt_or_le 32 x with h2 | h2
              · have H : Hid ((32 : Int) = (sz x : Int)) := by show (32 : Int) = (sz x : Int); unfold sz; omega
                go_wp2
                go_meet
                exact ⟨by rw [← H.out], rfl, rfl⟩
              · have H : Hid ((sz x : Int) = x) := by show (sz x : Int) = x; unfold sz; omega
                go_wp2
                go_meet
                exact ⟨by rw [H.out], rfl, rfl⟩
          case rest =>
            obtain ⟨rfl, rfl, rfl⟩ := hcut
            obtain ⟨t, hsz⟩ : ∃ t, sz x = t := ⟨_, rfl⟩
            have htz := sz_le x
            have HSZ := Lib.hid hsz
            rw [hsz] at htz ⊢
            clear hsz
            have hml : 8 * s.xs.length = s.k + m := by rw [HSX.out, HX.out]; exact HM.out
            by_cases he : s.ended = true
            · have HTK := Lib.hid (take_far (s := s) (t := t) (.inl he))
              rw [he]
              clear he hml
              go_wp2_with fail
              refine (take_q g s { s with ended := true } _ x 0 t _ HN.out.rd HSZ.out (by rw [HTK.out]; rfl) (by rw [HTK.out])).mono ?_
              rintro e w5 ⟨rfl, hr5, hk5⟩
              have HR5 := Lib.hid hr5
              have HN5 := Lib.hid (HN.out.turn hr5 hk5 HN.out.lies HN.out.low HN.out.room)
              clear hr5 hk5
              go_wp2_with fail
              refine (ended g _ _ _ HR5.out).mono ?_
              rintro e w6 ⟨rfl, rfl⟩
              go_wp2
              go_roundw
              case rel =>
                exact ⟨j + 1, { s with ended := true }, A, c, m, by omega, HSX.out, HM.out, rfl, rfl, by go_num, HN5.out⟩
              case measure => simp [intOf]; omega
            · have he' : s.ended = false := by simpa using he
              by_cases hmt : m < t
              · have HTK := Lib.hid (take_far (s := s) (t := t) (.inr (by omega)))
                have hd : decide ((m : Int) < (t : Int)) = true := by simp; omega
                rw [he']
                clear he he' hml
                go_wp2_with fail
                refine (take_q g s { s with ended := true } _ x 0 t _ HN.out.rd HSZ.out (by rw [HTK.out]; rfl) (by rw [HTK.out])).mono ?_
                rintro e w5 ⟨rfl, hr5, hk5⟩
                have HR5 := Lib.hid hr5
                have HN5 := Lib.hid (HN.out.turn hr5 hk5 HN.out.lies HN.out.low HN.out.room)
                clear hr5 hk5
                go_wp2_with fail
                refine (ended g _ _ _ HR5.out).mono ?_
                rintro e w6 ⟨rfl, rfl⟩
                go_wp2
                go_roundw
                case rel =>
                  exact ⟨j + 1, { s with ended := true }, A, c, m, by omega, HSX.out, HM.out, rfl, rfl, by go_num, HN5.out⟩
                case measure => simp [intOf]; omega
              · have HTK := Lib.hid (take_near (t := t) he' (by omega))
                have hd : decide ((m : Int) < (t : Int)) = false := by simp; omega
                have HHE := Lib.hid he'
                rw [he']
                have hmc : m ≤ c := by have := HN.out.room; omega
                have hs1 := fun w => run_cut_to (P := Try.prog) 22 5 A m c t .i64 Try.underlying22 size_u8 (by omega) w
                have hs2 := fun w => run_cut_from (P := Try.prog) 22 5 A m c t .i64 Try.underlying22 size_u8 (by omega) w
                have hrl : (ib (s.bits.drop s.k)).length = m := by rw [rest_len]; omega
                have HLP := Lib.hid (HN.out.lies.cutAt c 0 t (by omega) (by omega))
                have HLI : Hid (Lies wc (cutAt A c t) (ib (s.bits.drop (s.k + t)))) := by
                  show Lies wc (cutAt A c t) (ib (s.bits.drop (s.k + t)))
                  have h := HN.out.lies.cutAt c t (m - t) (by omega) (by omega)
                  rw [List.take_of_length_le (by rw [List.length_drop]; omega)] at h
                  have e : (ib (s.bits.drop s.k)).drop t = ib (s.bits.drop (s.k + t)) := by unfold ib; rw [← List.map_drop, List.drop_drop]
                  rwa [e] at h
                have HRO : Hid (8 * s.xs.length - (s.k + t) ≤ c - t) := by show 8 * s.xs.length - (s.k + t) ≤ c - t; omega
                obtain ⟨pc, hpc⟩ : ∃ pc, pc = piece s.bits s.k t := ⟨_, rfl⟩
                have HPC : Hid (((ib (s.bits.drop s.k)).drop 0).take t = ib pc) := by
                  show ((ib (s.bits.drop s.k)).drop 0).take t = ib pc
                  rw [hpc, List.drop_zero]
                  unfold ib piece
                  rw [List.map_take]
                rw [HPC.out] at HLP
                have HPL : Hid (pc.length = t) := by show pc.length = t; rw [hpc]; exact piece_len (by rw [BS.len]; omega)
                have HPB : Hid (∀ b ∈ pc, b < 2) := by show ∀ b ∈ pc, b < 2; rw [hpc]; exact piece_bit (ofB_bit _) _ _
                rw [← hpc] at HTK
                clear hpc hml he he' hrl HPC
                go_wp2
                generalize cutAt A c 0 = A0 at HLP ⊢
                clear hs1
                go_loop [11, 54] (fun want i => ∃ d : Nat, d ≤ t ∧ want = .int .u32 ((num (pc.take d) : Nat) : Int) ∧ i = .int .i64 d) (fun _ i => t - (intOf i).toNat)
                case atStart => exact ⟨0, Nat.zero_le _, by simp [num], rfl⟩
                case round =>
                  obtain ⟨d, hd2, rfl, rfl⟩ := hrel
                  have hpl := HPL.out
                  by_cases hlt2 : d < t
                  · obtain ⟨b2, o2, y, rfl, hcell, hy, hNX⟩ : ∃ b2 o2 y, A0 = some ⟨b2, o2, none⟩ ∧ wc.cell? ⟨b2, o2 + d, none⟩ = some (.int .u8 ((y : Nat) : Int)) ∧ y < 2 ∧ Hid (num (pc.take (d + 1)) = num (pc.take d) * 2 + y) := by
                      rcases HLP.out with h | ⟨b2, o2, h, _, hcl⟩
                      · have := congrArg List.length h
                        rw [ib_len, hpl] at this
                        simp at this
                        omega
                      · refine ⟨b2, o2, pc.getD d 0, h, ?_, ?_, ?_⟩
                        · have := hcl d (by rw [ib_len]; omega)
                          rw [this]
                          simp [ib, List.getD_eq_getElem?_getD, List.getElem?_eq_getElem (show d < pc.length by omega)]
                        · exact HPB.out _ (by rw [List.getD_eq_getElem?_getD, List.getElem?_eq_getElem (by omega)]; simp)
                        · show num (pc.take (d + 1)) = num (pc.take d) * 2 + pc.getD d 0
                          rw [List.take_add_one, List.getElem?_eq_getElem (by omega), List.getD_eq_getElem?_getD, List.getElem?_eq_getElem (by omega)]
                          exact num_snoc _ _
                    have hlim : num (pc.take d) < 2147483648 := by
                      have h1 := num_lt (l := pc.take d) (s := 31) (by simp; omega) (fun b hb => HPB.out b (List.mem_of_mem_take hb))
                      omega
                    obtain ⟨N, hNN⟩ : ∃ N, num (pc.take d) = N := ⟨_, rfl⟩
                    rw [hNN] at hNX hlim ⊢
                    clear hNN hpl
                    go_wp2
                    go_round
                    case rel => exact ⟨d + 1, by omega, by rw [hNX.out]; rfl, by go_num⟩
                    case measure => simp [intOf]; omega
                  · obtain rfl : d = t := by omega
                    rw [List.take_of_length_le (by omega)]
                    obtain ⟨P, hP⟩ : ∃ P, num pc = P := ⟨_, rfl⟩
                    rw [hP] at HTK ⊢
                    clear hP hpl
                    go_wp2_with fail
                    refine (take_q g s { s with k := s.k + d } _ x (P : Int) d _ HN.out.rd HSZ.out (by rw [HTK.out]) (by rw [HTK.out])).mono ?_
                    rintro e w5 ⟨rfl, hr5, hk5⟩
                    have HR5 := Lib.hid hr5
                    have HN5 := Lib.hid (HN.out.turn hr5 hk5 HLI.out (cut_low HN.out.low) HRO.out)
                    clear hr5 hk5
                    go_wp2_with fail
                    refine (ended_q g _ false _ _ HR5.out HHE.out).mono ?_
                    rintro e w6 ⟨rfl, rfl⟩
                    go_wp2
                    go_roundw
                    case rel =>
                      exact ⟨j + 1, { s with k := s.k + d }, cutAt A c d, (c - d), (m - d), by omega, HSX.out, (by have := HM.out; show 8 * len0 = s.k + d + (m - d); omega), rfl, by rw [← HHE.out], by go_num, HN5.out⟩
                    case measure => simp [intOf]; omega
        · obtain rfl : j = len1 := by omega
          have HAL : Hid (Below w.heap.size w wr) := HBR
          have hml : 8 * s.xs.length = s.k + m := by rw [HSX.out, HX.out]; exact HM.out
          clear HROW HBR
          by_cases he : s.ended = true
          · have HF := Lib.hid (show s.fin = 3 by simp [BS.fin, he])
            rw [he]
            clear he hml
            go_wp2_with fail
            refine (end_ g s _ _ HN.out.rd).mono ?_
            rintro e w4 ⟨rfl, nd, rfl⟩
            rw [HF.out]
            have HR4 := Lib.hid (HN.out.rd.drewN nd)
            have HB4 : Hid (Below w.heap.size w (wr.drewN nd)) := below_drewN HAL.out nd
            generalize wr.drewN nd = w4 at HR4 HB4 ⊢
            go_wp2_with fail
            refine (Br.fail g s _ _ HR4.out).mono ?_
            rintro e w5 ⟨rfl, hr5, hk5⟩
            have HR5 := Lib.hid hr5
            have hgw : w.heap.size ≤ g := Nat.le_trans HB1.out.size (Nat.le_trans HN.out.base_ HN.out.rd.1)
            have HB5 : Hid (Below w.heap.size w w5) := HB4.out.trans (hk5.below HB4.out.size (fun k e => by omega))
            clear hr5 hk5 HR4 HB4 HN
            go_wp2_with fail
            refine (by exact Bw.put_none 1 1 w5 : Calls Try.prog 12 #[.pointer none, .int .u32 1, .int .i64 1] w5 _).mono ?_
            rintro e w6 ⟨rfl, rfl⟩
            go_wp2_with fail
            refine (fail_none _).mono ?_
            rintro e w6 ⟨rfl, rfl⟩
            go_wp2_with fail
            refine (ended_q g _ true _ _ HR5.out rfl).mono ?_
            rintro e w6 ⟨rfl, rfl⟩
            go_wp2_with fail
            refine (end_ended g _ _ _ HR5.out rfl).mono ?_
            rintro e w6 ⟨rfl, rfl⟩
            go_wp2_with fail
            refine (take_q g _ _ _ 1 0 _ _ HR5.out rfl (by rw [take_far (.inl rfl)]; rfl) (by rw [take_far (.inl rfl)])).mono ?_
            rintro e w7 ⟨rfl, hr7, hk7⟩
            have HB7 : Hid (Below w.heap.size w w7) := HB5.out.trans (hk7.below HB5.out.size (fun k e => by omega))
            clear hr7 hk7 HB5 HR5
            go_wp2_with fail
            refine (ended_none _).mono ?_
            rintro e w8 ⟨rfl, rfl⟩
            go_wp2_with fail
            refine (take_none 3 _).mono ?_
            rintro e w8 ⟨rfl, rfl⟩
            go_wp2_with fail
            refine (end_none _).mono ?_
            rintro e w8 ⟨rfl, rfl⟩
            go_wp2_with fail
            refine (Bw.len_none _).mono ?_
            rintro e w8 ⟨rfl, rfl⟩
            go_wp2_with fail
            refine (Bw.bytes_none _).mono ?_
            rintro e w8 ⟨rfl, rfl⟩
            go_wp2
            go_ret
            exact ⟨rfl, HB7.out⟩
          · have he' : s.ended = false := by simpa using he
            rw [he']
            by_cases h8 : 8 ≤ m
            · have HF := Lib.hid (show s.fin = 10 by unfold BS.fin; rw [if_neg he, if_pos (.inl (by omega))])
              clear he he' hml
              go_wp2_with fail
              refine (end_ g s _ _ HN.out.rd).mono ?_
              rintro e w4 ⟨rfl, nd, rfl⟩
              rw [HF.out]
              have HR4 := Lib.hid (HN.out.rd.drewN nd)
              have HB4 : Hid (Below w.heap.size w (wr.drewN nd)) := below_drewN HAL.out nd
              generalize wr.drewN nd = w4 at HR4 HB4 ⊢
              go_wp2_with fail
              refine (Br.fail g s _ _ HR4.out).mono ?_
              rintro e w5 ⟨rfl, hr5, hk5⟩
              have HR5 := Lib.hid hr5
              have hgw : w.heap.size ≤ g := Nat.le_trans HB1.out.size (Nat.le_trans HN.out.base_ HN.out.rd.1)
              have HB5 : Hid (Below w.heap.size w w5) := HB4.out.trans (hk5.below HB4.out.size (fun k e => by omega))
              clear hr5 hk5 HR4 HB4 HN
              go_wp2_with fail
              refine (by exact Bw.put_none 1 1 w5 : Calls Try.prog 12 #[.pointer none, .int .u32 1, .int .i64 1] w5 _).mono ?_
              rintro e w6 ⟨rfl, rfl⟩
              go_wp2_with fail
              refine (fail_none _).mono ?_
              rintro e w6 ⟨rfl, rfl⟩
              go_wp2_with fail
              refine (ended_q g _ true _ _ HR5.out rfl).mono ?_
              rintro e w6 ⟨rfl, rfl⟩
              go_wp2_with fail
              refine (end_ended g _ _ _ HR5.out rfl).mono ?_
              rintro e w6 ⟨rfl, rfl⟩
              go_wp2_with fail
              refine (take_q g _ _ _ 1 0 _ _ HR5.out rfl (by rw [take_far (.inl rfl)]; rfl) (by rw [take_far (.inl rfl)])).mono ?_
              rintro e w7 ⟨rfl, hr7, hk7⟩
              have HB7 : Hid (Below w.heap.size w w7) := HB5.out.trans (hk7.below HB5.out.size (fun k e => by omega))
              clear hr7 hk7 HB5 HR5
              go_wp2_with fail
              refine (ended_none _).mono ?_
              rintro e w8 ⟨rfl, rfl⟩
              go_wp2_with fail
              refine (take_none 3 _).mono ?_
              rintro e w8 ⟨rfl, rfl⟩
              go_wp2_with fail
              refine (end_none _).mono ?_
              rintro e w8 ⟨rfl, rfl⟩
              go_wp2_with fail
              refine (Bw.len_none _).mono ?_
              rintro e w8 ⟨rfl, rfl⟩
              go_wp2_with fail
              refine (Bw.bytes_none _).mono ?_
              rintro e w8 ⟨rfl, rfl⟩
              go_wp2
              go_ret
              exact ⟨rfl, HB7.out⟩
            · obtain ⟨D, hD⟩ : ∃ D, D = s.bits.drop s.k := ⟨_, rfl⟩
              have HLD := Lib.hid HN.out.lies
              rw [← hD] at HLD
              have HDL : Hid (D.length = m) := by show D.length = m; rw [hD, List.length_drop, BS.len]; omega
              have HDB : Hid (∀ b ∈ D, b < 2) := by show ∀ b ∈ D, b < 2; rw [hD]; exact fun b hb => ofB_bit _ b (List.mem_of_mem_drop hb)
              have HFF : Hid (s.fin = if num D = 0 then 0 else 10) := by
                show s.fin = if num D = 0 then 0 else 10
                have e : piece s.bits s.k (8 * s.xs.length - s.k) = D := by
                  unfold piece
                  rw [← hD, List.take_of_length_le (by rw [HDL.out]; omega)]
                unfold BS.fin
                rw [if_neg he, e]
                by_cases h0 : num D = 0
                · rw [if_pos h0, if_neg (by simp [h0]; omega)]
                · rw [if_neg h0, if_pos (.inr h0)]
              have hd8 : decide ((8 : Int) ≤ (m : Int)) = false := by simp; omega
              clear he he' hml hD
              go_wp2
              go_loop [14, 81] (fun want i => ∃ d : Nat, d ≤ m ∧ want = .int .i64 (if num (D.take d) = 0 then 0 else 10) ∧ i = .int .i64 d) (fun _ i => m - (intOf i).toNat)
              case atStart => exact ⟨0, Nat.zero_le _, by simp [num], rfl⟩
              case round =>
                obtain ⟨d, hd2, rfl, rfl⟩ := hrel
                have hdl := HDL.out
                by_cases hlt2 : d < m
                · obtain ⟨b2, o2, y, rfl, hcell, hy, hNX⟩ : ∃ b2 o2 y, A = some ⟨b2, o2, none⟩ ∧ wr.cell? ⟨b2, o2 + d, none⟩ = some (.int .u8 ((y : Nat) : Int)) ∧ y < 2 ∧ Hid (num (D.take (d + 1)) = num (D.take d) * 2 + y) := by
                    rcases HLD.out with h | ⟨b2, o2, h, _, hcl⟩
                    · have := congrArg List.length h
                      rw [ib_len, hdl] at this
                      simp at this
                      omega
                    · refine ⟨b2, o2, D.getD d 0, h, ?_, ?_, ?_⟩
                      · have := hcl d (by rw [ib_len]; omega)
                        rw [this]
                        simp [ib, List.getD_eq_getElem?_getD, List.getElem?_eq_getElem (show d < D.length by omega)]
                      · exact HDB.out _ (by rw [List.getD_eq_getElem?_getD, List.getElem?_eq_getElem (by omega)]; simp)
                      · show num (D.take (d + 1)) = num (D.take d) * 2 + D.getD d 0
                        rw [List.take_add_one, List.getElem?_eq_getElem (by omega), List.getD_eq_getElem?_getD, List.getElem?_eq_getElem (by omega)]
                        exact num_snoc _ _
                  obtain ⟨N, hNN⟩ : ∃ N, num (D.take d) = N := ⟨_, rfl⟩
                  rw [hNN] at hNX ⊢
                  obtain ⟨F, hF⟩ : ∃ F : Int, (if N = 0 then 0 else 10) = F := ⟨_, rfl⟩
                  rw [hF]
                  have HFN := Lib.hid hF
                  clear hNN hF hdl
                  rcases (show y = 0 ∨ y = 1 by omega) with rfl | rfl
                  · go_wp2
                    go_round
                    case rel => exact ⟨d + 1, by omega, by rw [hNX.out, ← HFN.out]; congr 2; simp; omega, by go_num⟩
                    case measure => simp [intOf]; omega
                  · go_wp2
                    go_round
                    case rel => exact ⟨d + 1, by omega, by rw [hNX.out]; simp, by go_num⟩
                    case measure => simp [intOf]; omega
                · obtain rfl : d = m := by omega
                  rw [List.take_of_length_le (by omega)]
                  obtain ⟨F, hF⟩ : ∃ F : Int, (if num D = 0 then 0 else 10) = F := ⟨_, rfl⟩
                  have HF := HFF
                  rw [hF] at HF ⊢
                  clear hF hdl HFF
                  go_wp2_with fail
                  refine (end_ g s _ _ HN.out.rd).mono ?_
                  rintro e w4 ⟨rfl, nd, rfl⟩
                  rw [HF.out]
                  have HR4 := Lib.hid (HN.out.rd.drewN nd)
                  have HB4 : Hid (Below w.heap.size w (wr.drewN nd)) := below_drewN HAL.out nd
                  generalize wr.drewN nd = w4 at HR4 HB4 ⊢
                  go_wp2_with fail
                  refine (Br.fail g s _ _ HR4.out).mono ?_
                  rintro e w5 ⟨rfl, hr5, hk5⟩
                  have HR5 := Lib.hid hr5
                  have hgw : w.heap.size ≤ g := Nat.le_trans HB1.out.size (Nat.le_trans HN.out.base_ HN.out.rd.1)
                  have HB5 : Hid (Below w.heap.size w w5) := HB4.out.trans (hk5.below HB4.out.size (fun k e => by omega))
                  clear hr5 hk5 HR4 HB4 HN
                  go_wp2_with fail
                  refine (by exact Bw.put_none 1 1 w5 : Calls Try.prog 12 #[.pointer none, .int .u32 1, .int .i64 1] w5 _).mono ?_
                  rintro e w6 ⟨rfl, rfl⟩
                  go_wp2_with fail
                  refine (fail_none _).mono ?_
                  rintro e w6 ⟨rfl, rfl⟩
                  go_wp2_with fail
                  refine (ended_q g _ true _ _ HR5.out rfl).mono ?_
                  rintro e w6 ⟨rfl, rfl⟩
                  go_wp2_with fail
                  refine (end_ended g _ _ _ HR5.out rfl).mono ?_
                  rintro e w6 ⟨rfl, rfl⟩
                  go_wp2_with fail
                  refine (take_q g _ _ _ 1 0 _ _ HR5.out rfl (by rw [take_far (.inl rfl)]; rfl) (by rw [take_far (.inl rfl)])).mono ?_
                  rintro e w7 ⟨rfl, hr7, hk7⟩
                  have HB7 : Hid (Below w.heap.size w w7) := HB5.out.trans (hk7.below HB5.out.size (fun k e => by omega))
                  clear hr7 hk7 HB5 HR5
                  go_wp2_with fail
                  refine (ended_none _).mono ?_
                  rintro e w8 ⟨rfl, rfl⟩
                  go_wp2_with fail
                  refine (take_none 3 _).mono ?_
                  rintro e w8 ⟨rfl, rfl⟩
                  go_wp2_with fail
                  refine (end_none _).mono ?_
                  rintro e w8 ⟨rfl, rfl⟩
                  go_wp2_with fail
                  refine (Bw.len_none _).mono ?_
                  rintro e w8 ⟨rfl, rfl⟩
                  go_wp2_with fail
                  refine (Bw.bytes_none _).mono ?_
                  rintro e w8 ⟨rfl, rfl⟩
                  go_wp2
                  go_ret
                  exact ⟨rfl, HB7.out⟩
    · have hd0 : decide ((60 : Int) < (len0 : Int)) = false := by simp; omega
      have hd1 : decide ((60 : Int) < (len1 : Int)) = true := by simp; omega
      clear w0 w1 hrow hlies hby
      go_enter Try.func3, Try.ntmps3
      go_wp2_with fail
      refine (Aw.awake _).mono ?_
      rintro e w1 ⟨rfl, hb⟩
      have HB := Lib.hid hb
      clear hb
      go_wp2
      go_ret
      exact ⟨rfl, HB.out⟩
  · have hd : decide ((60 : Int) < (len0 : Int)) = true := by simp; omega
    clear w0 w1 hrow hlies hby
    go_enter Try.func3, Try.ntmps3
    go_wp2_with fail
    refine (Aw.awake _).mono ?_
    rintro e w1 ⟨rfl, hb⟩
    have HB := Lib.hid hb
    clear hb
    go_wp2
    go_ret
    exact ⟨rfl, HB.out⟩

set_option maxRecDepth 100000 in
theorem lifted (os : Os) (started : os.Started) (H : Type) (enc : TypeId × Value → H) :
    ReturnsInHanded {} Try.checked os 3 .any (Rows.bitsAnySpec.pre6 enc Try.prog Try.f3 Rows.bitsAnyRow.domain false) (Rows.bitsAnySpec.post enc Try.prog Try.f3 false true false false) := by
  refine returnsInHanded_of_change (C := Try.checked) own started (by kernel_rfl) Try.func3
    (ChangeSpec.witness6 (enc := enc) (C := Try.checked) false ⟨#[], #[.slice none 0 0, .slice none 0 0], []⟩ 8 (by kernel_rfl) (by kernel_rfl) (by kernel_rfl) (by kernel_rfl)) ?_
  intro W base args ds gs before hval0 hW hcnd _
  have hval : ∀ (j : Nat) t v, Try.f3.params[j]? = some t → args[j]? = some v → Value.okWide Try.prog W .any base t v := hval0
  have hW' := hW
  obtain ⟨p, q, hA0, hV, rfl, hfz, hnd⟩ := hW
  have hA : DataW.TrodAll enc Try.prog W 0 (fun _ => true) true Try.f3.params.toList args.toList ds p := hA0
  rw [Try.params3] at hA hval
  obtain ⟨v0, vs0, d0, ds0, p0, q0, hargs, rfl, rfl, h0, r0⟩ := trodAll_cons hA
  obtain ⟨v1, vs1, d1, ds1, p1, q1, rfl, rfl, rfl, h1, r1⟩ := trodAll_cons r0
  obtain ⟨rfl, rfl, rfl⟩ := trodAll_nil r1
  obtain rfl : args = #[v0, v1] := by cases args; simp_all
  obtain ⟨rfl, rfl⟩ := trodVars_none hV
  obtain ⟨a0, len0, cap0, rfl⟩ := okWide_slice Try.underlying22 (hval 0 22 v0 rfl rfl)
  have k0 := h0
  have lt0 : ∀ x ∈ p0, x.block < W.heap.size := by obtain ⟨m, hm⟩ := k0; exact DataW.trod_lt m _ _ _ hm
  obtain ⟨z0, w0⟩ : ∃ zs, IsRow .u8 W a0 len0 cap0 zs := by
    obtain ⟨fuel, hf⟩ := h0
    rcases open_ints Try.underlying22 Try.underlying5 (by kernel_rfl) hf with ⟨hcs, _⟩ | ⟨x, l, c, zs, hcs, _, hl, hm, hz, _, hcell, hwz⟩
    · simp [Value.cells] at hcs
      obtain ⟨rfl, rfl, rfl⟩ := hcs
      exact ⟨[], .inl ⟨rfl, rfl, rfl, rfl⟩⟩
    · simp [Value.cells] at hcs
      obtain ⟨rfl, rfl, rfl⟩ := hcs
      exact ⟨zs, .inr ⟨_, rfl, hl, hm, by simpa using hz, hcell, hwz⟩⟩
  obtain ⟨a1, len1, cap1, rfl⟩ := okWide_slice Try.underlying23 (hval 1 23 v1 rfl rfl)
  have k1 := h1
  have lt1 : ∀ x ∈ p1, x.block < W.heap.size := by obtain ⟨m, hm⟩ := k1; exact DataW.trod_lt m _ _ _ hm
  obtain ⟨z1, w1⟩ : ∃ zs, IsRow .i64 W a1 len1 cap1 zs := by
    obtain ⟨fuel, hf⟩ := h1
    rcases open_ints Try.underlying23 Try.underlying3 (by kernel_rfl) hf with ⟨hcs, _⟩ | ⟨x, l, c, zs, hcs, _, hl, hm, hz, _, hcell, hwz⟩
    · simp [Value.cells] at hcs
      obtain ⟨rfl, rfl, rfl⟩ := hcs
      exact ⟨[], .inl ⟨rfl, rfl, rfl, rfl⟩⟩
    · simp [Value.cells] at hcs
      obtain ⟨rfl, rfl, rfl⟩ := hcs
      exact ⟨zs, .inr ⟨_, rfl, hl, hm, by simpa using hz, hcell, hwz⟩⟩
  clear hA0 hval0
  refine (walk a0 len0 cap0 z0 a1 len1 cap1 z1 W w0 w1).mono fun e W' ⟨he, bel⟩ => ?_
  subst he
  exact ⟨_, rfl, _, _, _, [], _, [], hW', trodAll_mk1 (shut_bool Try.underlying4 _), (trodAll_cons_mk (Below.trod laidOut (by kernel_rfl) (of_decide_eq_true (by kernel_rfl)) k0 bel lt0) (trodAll_cons_mk (Below.trod laidOut (by kernel_rfl) (of_decide_eq_true (by kernel_rfl)) k1 bel lt1) trodAll_mk0)), rfl, bel.frame _, fun h => by cases h⟩

theorem over : Rows.bitsAnyRow.holds Try.pinned (OpenSpec.ofChange Rows.bitsAnySpec) :=
  OpenClaim.holds_of_wide 3 Try.f3 rfl rfl rfl rfl rfl rfl rfl ⟨rfl, rfl, rfl, rfl, rfl⟩ rfl rfl rfl rfl rfl (by kernel_rfl) Try.func3 (by kernel_rfl)
    (of_decide_eq_true (by kernel_rfl)) (by unfold Func.isWrapper; first | (rw [if_pos (by decide +kernel)]; kernel_rfl) | (rw [if_neg (by decide +kernel)]; exact ⟨rfl, rfl⟩))
    (fun os started H enc _ => lifted os started H enc)

/-- The statement, as given. -/
theorem proved : Rows.BitsAnySaid := over
end Go.Proofs.Ytoeblggegahhoaa.bitsAny
namespace Go.Proofs.Ytoeblggegahhoaa
/-- The statement, as given. -/
theorem bitsAny_holds : Rows.BitsAnySaid := bitsAny.proved
#print axioms bitsAny_holds
end Go.Proofs.Ytoeblggegahhoaa

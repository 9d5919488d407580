/- The walk of the statement ContigBack: any small numbers, any name, any numbers. -/
import Derived.Test.YtbekdcakmeejaaaCtJo
import Derived.Test.YtbekdcakmeejaaaCtLJo
namespace Go.Proofs.Ytbekdcakmeejaaa.Ct
open Go.RowKit Go.Proofs.Ytbekdcakmeejaaa.Gen Go.Proofs.Ytbekdcakmeejaaa.Ca Go.Proofs.Ytbekdcakmeejaaa.Cl

theorem str_line (ps : List Pr) (j : Nat) (p : Pr) (h : ps[j]? = some p) :
    strOfNums (text (ps.take j)) ++ ((((⟨#[62]⟩ : ByteArray) ++ strOfNums p.1 ++ ⟨#[10]⟩) ++ strOfNums p.2) ++ ⟨#[10]⟩) = strOfNums (text (ps.take (j + 1))) := by
  rw [show (⟨#[62]⟩ : ByteArray) = strOfNums [62] from rfl, show (⟨#[10]⟩ : ByteArray) = strOfNums [10] from rfl, str_append, str_append, str_append, str_append, str_append, text_take h]
  simp [line]

theorem nm_is (nm : ByteArray) (xs : List Int) (l : List UInt8) (hb : Byt xs) (h : (strOfNums xs).toList = l) : (nm.toList == l) = decide (numsOf nm = xs) := by
  have := str_eq (nums_byt nm) hb
  rw [str_nums, h] at this
  exact this
theorem known (s : Sml) (n : List Int) (N : Nat) (h1 : 1 ≤ N) (h4 : N ≤ 4) : fnb n (s.ps N) = (decide (n = nmOf 0) || (decide (n = nmOf 1) && decide (1 < N)) || (decide (n = nmOf 2) && decide (2 < N)) || (decide (n = nmOf 3) && decide (3 < N))) := by
  have e : fnb n (s.ps N) = decide (n ∈ (List.range N).map nmOf) := by
    rw [fnb, decide_eq_decide, find_lt, ps_names]
  rw [e]
  have : N = 1 ∨ N = 2 ∨ N = 3 ∨ N = 4 := by omega
  rcases this with rfl | rfl | rfl | rfl
  all_goals
    simp only [List.range_succ, List.range_zero, List.nil_append, List.map_append, List.map_cons, List.map_nil, List.mem_append, List.mem_singleton]
    simp
set_option maxHeartbeats 16000000 in
set_option maxRecDepth 100000 in
theorem back_ (s : Sml) (nm : ByteArray) (i pos : Int) (w : World) (hok : s.ok) (hs : nm.size ≤ maxLen) (hi : -9223372036854775808 ≤ i ∧ i ≤ 9223372036854775807) (hp : -9223372036854775808 ≤ pos ∧ pos ≤ 9223372036854775807) :
    Calls Try.prog 3 #[.agg s.cells, .string nm, .int .i64 i, .int .i64 pos] w fun e w' => e = .returned (.bool true) ∧ Keeps (fun _ => False) w w' := by
  unfold maxLen at hs
  obtain ⟨W0, hW0⟩ : ∃ W0, W0 = w.alloc (.cells s.cells 25) := ⟨_, rfl⟩
  have hk0 : Keeps (fun _ => False) w W0 := by rw [hW0]; exact (Keeps.refl _ _).alloc _
  have hbx : Blk W0 w.heap.size 25 s.cells := by rw [hW0]; exact Blk.new _ _ _
  have HK0 := Lib.hid hk0
  have HBX := Lib.hid hbx
  have HAW := Lib.hid (Aw.awake (w := W0))
  have HSR := Lib.hid (fun W => sref_ s hok W)
  obtain ⟨N, hN⟩ : ∃ N, s.n = N := ⟨_, rfl⟩
  have hN4 : 1 ≤ N ∧ N ≤ 4 := by
    rw [← hN]
    have := Nat.mod_lt s.K (show 0 < 4 by decide)
    unfold Sml.n
    omega
  obtain ⟨ps, hps⟩ : ∃ ps, s.ps N = ps := ⟨_, rfl⟩
  have HPC : Hid (chk ps = 0 ∧ ps.length = N ∧ (text ps).length ≤ N * 130 ∧ (∀ p ∈ ps, 10 ∉ p.1 ∧ 10 ∉ p.2) ∧ Byt (text ps)) := by
    show _
    rw [← hps]
    exact ⟨ps_chk s N hN4.2, ps_len s N, (ps_text s N).1, ps_no10 s N, text_byt fun p hp => by obtain ⟨i, _, rfl⟩ := ps_mem hp; exact ⟨nm_byt i, all_byt (letters_all _ _)⟩⟩
  have HPJ : Hid (∀ (j : Nat) (p : Pr), ps[j]? = some p → p.1 = nmOf j ∧ 20 ≤ p.2.length ∧ p.2.length ≤ 119 ∧ fnd p.1 ps = j ∧ fnb p.1 ps = true) := Lib.hid (fun j p hp => by
    have hjl := (List.getElem?_eq_some_iff.1 hp).1
    have h2 := hp
    rw [← hps] at hjl h2
    rw [ps_len] at hjl
    have h3 : (s.ps N)[j]? = some (nmOf j, letters (s.st j) (s.len j)) := by simp [Sml.ps, hjl]
    rw [h3] at h2
    injection h2 with h2
    subst h2
    refine ⟨rfl, ?_, ?_, ?_, ?_⟩
    · simp only [letters_len]; exact (len_le s j).1
    · simp only [letters_len]; exact (len_le s j).2
    · refine (fnd_self hp).2 ?_
      have h4 := nm_new ⟨j, by omega⟩
      have h5 : (ps.take j).map Prod.fst = (List.range j).map nmOf := by
        rw [← hps, List.map_take, ps_names, ← List.map_take, List.take_range, Nat.min_eq_left (by omega)]
      rw [h5]
      exact h4
    · rw [fnb, decide_eq_true_iff]
      exact (find_lt _ _).2 (List.mem_map.2 ⟨_, List.mem_of_getElem? hp, rfl⟩))
  have HKNW : Hid (fnb (numsOf nm) ps = (decide (numsOf nm = nmOf 0) || (decide (numsOf nm = nmOf 1) && decide (1 < N)) || (decide (numsOf nm = nmOf 2) && decide (2 < N)) || (decide (numsOf nm = nmOf 3) && decide (3 < N)))) := by
    show _ = _
    rw [← hps]
    exact known s _ N hN4.1 hN4.2
  have HN := Lib.hid hN
  have HPS := Lib.hid hps
  have HN4 := Lib.hid hN4
  have HII := Lib.hid hi
  have HPP := Lib.hid hp
  clear hk0 hbx hok hN hps hN4 hi hp
  obtain ⟨K, l0, l1, l2, l3, seed⟩ := s
  unfold Sml.cells at hW0 HBX HSR ⊢
  simp only at hW0 HBX HSR ⊢
  go_enter Try.func3, Try.ntmps3
  go_wp2_with fail
  rw [← hW0]
  obtain ⟨p0, hp0⟩ : ∃ p0, p0 = w.heap.size := ⟨_, rfl⟩
  rw [← hp0] at HBX ⊢
  clear hW0 hp0
  refine HAW.out.mono ?_
  rintro e w1 ⟨rfl, hk1⟩
  have HK1 := Lib.hid (HK0.out.trans hk1)
  have HBX1 := Lib.hid (HBX.out.keeps hk1 id)
  clear hk1 HAW HK0
  by_cases g1 : 300 < nm.size
  · have d1 : decide ((300 : Int) < (nm.size : Int)) = true := by simp; omega
    go_wp2
    go_ret
    exact ⟨rfl, HK1.out⟩
  have d1 : decide ((300 : Int) < (nm.size : Int)) = false := by simp; omega
  clear g1 hs
  have a0 := HBX1.out.cell 0
  have a1 := HBX1.out.cell 1
  have a2 := HBX1.out.cell 2
  have a3 := HBX1.out.cell 3
  have a4 := HBX1.out.cell 4
  have a5 := HBX1.out.cell 5
  simp only [List.getElem?_toArray, List.getElem?_cons_zero, List.getElem?_cons_succ] at a0 a1 a2 a3 a4 a5
  clear HBX HBX1
  go_upto_region 6 with (
    go_at_call 9
    refine (HSR.out w1).mono ?_
    rintro e w2 ⟨A2, c2, es, rfl, hmine, hes, hk2⟩
    have HMI := Lib.hid hmine
    have HES := Lib.hid hes
    have HK2 := Lib.hid (HK1.out.trans hk2)
    rw [HN.out] at HMI HES ⊢
    clear hmine hes hk2 HSR)
  clear a0 a1 a2 a3 a4 a5
  have HB9 := Lib.hid (Blk.new w2 29 #[.slice A2 N c2])
  have HRA := Lib.hid ((HMI.out.isRef (by have := HN4.out; omega)).more ((Keeps.refl (fun _ => False) w2).alloc (.cells #[.slice A2 N c2] 29)))
  have HK3 := Lib.hid (HK2.out.alloc (.cells #[.slice A2 N c2] 29))
  have HPE : Hid (pairs es = ps) := Lib.hid (HES.out.trans HPS.out)
  generalize w2.alloc (.cells #[.slice A2 N c2] 29) = w3 at HB9 HRA HK3 ⊢
  obtain ⟨p9, hp9⟩ : ∃ p9, w2.heap.size = p9 := ⟨_, rfl⟩
  rw [hp9] at HB9 ⊢
  have c9 : w3.cell? ⟨p9, 0, none⟩ = some (.slice A2 N c2) := HB9.out.cell 0
  clear hp9 HMI HES HK2
  obtain ⟨wo, rfl⟩ : ∃ wo, wo = w3 := ⟨_, rfl⟩
  go_wp2
  go_loopw [10, 12, 34] (fun sv _ iv wr => ∃ (j : Nat) (S : ByteArray), sv = .string S ∧ iv = .int .i64 (j : Int) ∧ j ≤ N ∧ Hid (S = strOfNums (text (ps.take j)) ∧ Keeps (fun _ => False) wo wr)) (fun _ _ iv _ => N - (intOf iv).toNat)
  case atStart => exact ⟨0, ⟨#[]⟩, rfl, rfl, by omega, Lib.hid ⟨rfl, Keeps.refl _ _⟩⟩
  case round =>
    clear c9
    obtain ⟨j, S, rfl, rfl, hj, HI⟩ := hrel
    by_cases hlt : j < N
    · obtain ⟨b, o, e, rfl, hb, he, hg, h0, h1⟩ := (HRA.out.more HI.out.2).item hlt
      have hj0 : (j : Int) < (N : Int) := by omega
      have hjw : IntKind.i64.wrap ((j : Int) + 1) = (j : Int) + 1 := IntWalk.i64_in _ (by have := HN4.out; omega)
      have hpj : ps[j]? = some e.p := by rw [← HPE.out]; exact pairs_get he
      obtain ⟨hn1, hl1, hl2, _, _⟩ := HPJ.out j e.p hpj
      simp only [Ct.p] at hn1 hl1 hl2
      obtain ⟨l, hl⟩ : ∃ l, e.sq.length = l := ⟨_, rfl⟩
      rw [hl] at h1 hl1 hl2
      have k1 := (Keeps.refl (fun _ => False) wr).alloc (.cells #[.string (strOfNums e.nm), .slice e.A l e.c] 33)
      have hcv := (hg.lies.keeps k1 (fun _ _ _ => id)).str_n (P := Try.prog) l hl 31 9 5 e.c Try.underlying31 Try.underlying5 Try.underlying9
      obtain ⟨T, hT⟩ : ∃ T, strOfNums e.nm = T := ⟨_, rfl⟩
      obtain ⟨U, hU⟩ : ∃ U, strOfNums e.sq = U := ⟨_, rfl⟩
      have hTs : T.size = (nmOf j).length := by rw [← hT, strOfNums_size, hn1]
      obtain ⟨kt, hkt⟩ : ∃ kt, (nmOf j).length = kt := ⟨_, rfl⟩
      have hkb : kt ≤ 4 := by rw [← hkt]; exact nm_len j
      rw [hkt] at hTs
      have hUs : U.size = l := by rw [← hU, strOfNums_size, hl]
      obtain ⟨ks, hSs⟩ : ∃ ks, S.size = ks := ⟨_, rfl⟩
      have hks : ks ≤ 600 := by
        have h2 := text_take_le ps j
        have h3 := HPC.out.2.2.1
        have h4 := HN4.out
        rw [← hSs, HI.out.1, strOfNums_size]
        omega
      rw [hT] at h0 hcv k1
      rw [hU] at hcv
      have HSL : Hid (S ++ ((((⟨#[62]⟩ : ByteArray) ++ T ++ ⟨#[10]⟩) ++ U) ++ ⟨#[10]⟩) = strOfNums (text (ps.take (j + 1)))) := by
        show _ = _
        have := str_line ps j e.p hpj
        simp only [Ct.p] at this
        rw [hT, hU, ← HI.out.1] at this
        exact this
      have HK4 := Lib.hid (HI.out.2.trans k1)
      have s1 : 1 + kt ≤ 9223372036854775807 := by omega
      have s2 : 1 + kt + 1 ≤ 9223372036854775807 := by omega
      have s3 : 1 + kt + 1 + l ≤ 9223372036854775807 := by omega
      have s4 : 1 + kt + 1 + l + 1 ≤ 9223372036854775807 := by omega
      have s5 : ks + (1 + kt + 1 + l + 1) ≤ 9223372036854775807 := by omega
      clear hpj hn1 hl1 hl2 hl k1 hT hU hkt hg he
      go_wp2
      go_roundw
      case rel => exact ⟨j + 1, _, rfl, by go_num, by omega, Lib.hid ⟨HSL.out, HK4.out⟩⟩
      case measure => simp [intOf]; omega
    · obtain rfl : j = N := by omega
      have hS := HI.out.1
      rw [List.take_of_length_le (by rw [HPC.out.2.1]; exact Nat.le_refl _)] at hS
      have HSW := Lib.hid hS.symm
      obtain ⟨W5, rfl⟩ : ∃ W5, W5 = wr := ⟨_, rfl⟩
      have HK5 : Hid (Keeps (fun _ => False) wo W5) := Lib.hid HI.out.2
      have HB95 := Lib.hid (HB9.out.keeps HK5.out id)
      clear HI hS
      obtain ⟨ma, hma⟩ : ∃ ma, (text ps).length = ma := ⟨_, rfl⟩
      have HMA : Hid (ma ≤ 520) := by
        show ma ≤ 520
        have h1 := HPC.out.2.2.1
        have h2 := HN4.out
        omega
      have HMAL := Lib.hid hma
      have HTA : Hid (∀ W, Keeps (fun _ => False) wo W → Calls Try.prog 11 #[.agg #[.slice A2 j c2]] W fun r w' => ∃ A c, r = .returned (.slice A ma c) ∧ ma ≤ c ∧ Lies w' A (text ps) ∧ Keeps (fun _ => False) W w') := Lib.hid (fun W kW => by
        have := text_ A2 j c2 es W (HRA.out.more kW) (by rw [HPE.out, hma]; have := HMA.out; omega)
        refine this.mono fun r w' h => ?_
        obtain ⟨A, c, h1, h2, h3⟩ := h
        rw [HPE.out] at h1 h2
        rw [hma] at h1
        have hc := own_form h2
        obtain ⟨_, _, h4, h5⟩ := hc
        injection h4 with _ h6 h7
        exact ⟨A, c, h1, by omega, Lies.of_own h2, h3⟩)
      have HPA : Hid (∀ W A c, Lies W A (text ps) → ma ≤ c → Calls Try.prog 10 #[.slice A ma c] W fun r w' => ∃ Ar nr cr esr, r = .returned (.tuple #[.agg #[.slice Ar nr cr], .int .i64 0]) ∧ ((0 : Int) = 0 → IsRef w' Ar nr esr ∧ pairs esr = ps) ∧ Keeps (fun _ => False) W w') := Lib.hid (fun W A c hL hc => by
        have := parse_ A ma c _ W hma hc hL HPC.out.2.2.2.2
        refine this.mono fun r w' h => ?_
        obtain ⟨h1, h2⟩ := h
        rw [parse_text _ (by rw [hma]; have := HMA.out; omega) HPC.out.2.2.2.1, if_pos HPC.out.1] at h2
        obtain ⟨A, n, c, es, h3, h4, h5⟩ := h2
        exact ⟨A, n, c, es, h3, fun _ => ⟨h4, h5⟩, h1⟩)
      have HCH : Hid (∀ W, Keeps (fun _ => False) wo W → Calls Try.prog 12 #[.agg #[.slice A2 j c2]] W fun r w' => r = .returned (.int .i64 0) ∧ Keeps (fun _ => False) W w') := Lib.hid (fun W kW => by
        have := check_ A2 j c2 es W (HRA.out.more kW)
        unfold ChkR at this
        rw [HPE.out, HPC.out.1] at this
        exact this)
      clear hma
      go_upto_region 12 with fail
      go_cut [13, 14] from 50 to 55 (fun v13 v14 wx => ∃ P Ar nr cr esr, v13 = .pointer (some ⟨P, 0, none⟩) ∧ v14 = .int .i64 0 ∧ Hid (Keeps (fun _ => False) W5 wx ∧ Blk wx P 29 #[.slice Ar nr cr] ∧ ((0 : Int) = 0 → IsRef wx Ar nr esr ∧ pairs esr = ps)))
      case first =>
        have f0 := HB95.out.cell 0
        go_wp2_with fail
        refine (HTA.out W5 HK5.out).mono ?_
        rintro r w5 ⟨A5, c5, rfl, hc5, hl5, hk5⟩
        have HPQ := Lib.hid (HPA.out w5 A5 c5 hl5 hc5)
        have HKa := Lib.hid hk5
        clear hc5 hl5 hk5
        go_wp2_with fail
        refine HPQ.out.mono ?_
        rintro r w8 ⟨Ar, nr, cr, esr, rfl, hpr, hk8⟩
        have HPR := Lib.hid hpr
        have HKb := Lib.hid (HKa.out.trans hk8)
        clear hpr hk8 HPQ HKa
        go_wp2_with fail
        go_meet
        exact ⟨_, Ar, nr, cr, esr, rfl, rfl, Lib.hid ⟨HKb.out.alloc _, Blk.new _ _ _, fun _ => ⟨(HPR.out trivial).1.more ((Keeps.refl _ _).alloc _), (HPR.out trivial).2⟩⟩⟩
      case rest =>
        obtain ⟨P, Ar, nr, cr, esr, rfl, rfl, HR⟩ := hcut
        have HKC : Hid (Keeps (fun _ => False) wo wc) := Lib.hid (HK5.out.trans HR.out.1)
        have HBP : Hid (Blk wc P 29 #[.slice Ar nr cr]) := Lib.hid HR.out.2.1
        have HRR : Hid (IsRef wc Ar nr esr ∧ pairs esr = ps) := Lib.hid (HR.out.2.2 rfl)
        have HSM : Hid (∀ W, Keeps (fun _ => False) wc W → Calls Try.prog 13 #[.agg #[.slice Ar nr cr], .agg #[.slice A2 j c2]] W fun r w' => r = .returned (.bool true) ∧ Keeps (fun _ => False) W w') := Lib.hid (fun W kW => by
          have := same_ Ar A2 nr j cr c2 esr es W (HRR.out.1.more kW) (HRA.out.more (HKC.out.trans kW))
          rw [HRR.out.2, HPE.out] at this
          simpa using this)
        have c9 : wc.cell? ⟨p9, 0, none⟩ = some (.slice A2 j c2) := (HB9.out.keeps HKC.out id).cell 0
        have dss : (S.toList == S.toList) = true := by simp
        clear HR
        go_wp2_with fail
        refine (HCH.out wc HKC.out).mono ?_
        rintro r w6 ⟨rfl, hk6⟩
        have HK6 := Lib.hid hk6
        have d9 : w6.cell? ⟨p9, 0, none⟩ = some (.slice A2 j c2) := (HB9.out.keeps (HKC.out.trans hk6) id).cell 0
        clear hk6 c9
        go_wp2_with fail
        refine (HTA.out w6 (HKC.out.trans HK6.out)).mono ?_
        rintro r w7 ⟨A7, c7, rfl, _, hl7, hk7⟩
        have HK7 := Lib.hid (HK6.out.trans hk7)
        have e9 : w7.cell? ⟨p9, 0, none⟩ = some (.slice A2 j c2) := (HB9.out.keeps (HKC.out.trans HK7.out) id).cell 0
        have eP : w7.cell? ⟨P, 0, none⟩ = some (.slice Ar nr cr) := (HBP.out.keeps HK7.out id).cell 0
        have hcv := hl7.str_n (P := Try.prog) ma HMAL.out 31 9 5 c7 Try.underlying31 Try.underlying5 Try.underlying9
        rw [HSW.out] at hcv
        clear hk7 d9 hl7
        go_wp2_with fail
        refine (HSM.out w7 HK7.out).mono ?_
        rintro r w8 ⟨rfl, hk8⟩
        have HK8 := Lib.hid (HKC.out.trans (HK7.out.trans hk8))
        have f9 : w8.cell? ⟨p9, 0, none⟩ = some (.slice A2 j c2) := (HB9.out.keeps HK8.out id).cell 0
        clear hk8 e9 eP hcv
        obtain ⟨wq, rfl⟩ : ∃ wq, wq = w8 := ⟨_, rfl⟩
        go_wp2
        go_loopw [15, 16, 17, 18, 79] (fun _ _ _ _ iv wr => ∃ k : Nat, iv = .int .i64 (k : Int) ∧ k ≤ j ∧ Hid (Keeps (fun _ => False) wo wr)) (fun _ _ _ _ iv _ => j - (intOf iv).toNat)
        case atStart => exact ⟨0, rfl, by omega, HK8⟩
        case round =>
          clear f9
          obtain ⟨k, rfl, hk, HJ⟩ := hrel
          by_cases hkn : k < j
          · obtain ⟨b, o, e, rfl, hb, he, hg, h0, h1⟩ := (HRA.out.more HJ.out).item hkn
            have hkn' : (k : Int) < (j : Int) := by omega
            have hkw : IntKind.i64.wrap ((k : Int) + 1) = (k : Int) + 1 := IntWalk.i64_in _ (by have := HN4.out; omega)
            have hpj : ps[k]? = some e.p := by rw [← HPE.out]; exact pairs_get he
            obtain ⟨hn1, hl1, hl2, hf1, hf2⟩ := HPJ.out k e.p hpj
            simp only [Ct.p] at hn1 hl1 hl2 hf1 hf2
            obtain ⟨l, hl⟩ : ∃ l, e.sq.length = l + 1 := ⟨e.sq.length - 1, by omega⟩
            rw [hl] at h1 hl1 hl2
            obtain ⟨gz, oz, hzA, hzb, hzc⟩ := lies_at hg.lies (j := l) (by omega)
            obtain ⟨z, hz⟩ : ∃ z, e.sq.getD l 0 = z := ⟨_, rfl⟩
            rw [hz] at hzc
            rw [hzA] at h1
            have hlo : lenOf es (k : Int) = (l : Int) + 1 := by
              have := (HRA.out).1
              rw [lenOf, if_pos (by omega)]
              simp [List.getD_eq_getElem?_getD, he, hl]
            have ha1 : atOf es (k : Int) ((l : Int) + 1) = z := by
              rw [atOf, if_pos (by rw [hlo]; omega)]
              simp [List.getD_eq_getElem?_getD, he]
              rw [← hz, List.getD_eq_getElem?_getD]
            have ha2 : atOf es (k : Int) 0 = 0 := by rw [atOf, if_neg (by omega)]
            have ha3 : atOf es (k : Int) ((l : Int) + 1 + 1) = 0 := by rw [atOf, if_neg (by rw [hlo]; omega)]
            obtain ⟨T, hT⟩ : ∃ T, strOfNums e.nm = T := ⟨_, rfl⟩
            rw [hT] at h0
            have HFI : Hid (∀ W, Keeps (fun _ => False) wo W → Calls Try.prog 14 #[.agg #[.slice (some ⟨b, o, none⟩) j c2], .string T] W fun r w' => r = .returned (.tuple #[.int .i64 (k : Int), .bool true]) ∧ Keeps (fun _ => False) W w') := Lib.hid (fun W kW => by
              have := find_ _ j c2 es e.nm W (HRA.out.more kW) hg.bn
              unfold FindR at this
              rw [HPE.out, hf1, hf2, hT] at this
              exact this)
            have HLN : Hid (∀ W, Keeps (fun _ => False) wo W → Calls Try.prog 15 #[.agg #[.slice (some ⟨b, o, none⟩) j c2], .int .i64 (k : Int)] W fun r w' => r = .returned (.int .i64 ((l : Int) + 1)) ∧ Keeps (fun _ => False) W w') := Lib.hid (fun W kW => by
              have := len_ _ j c2 es (k : Int) W (HRA.out.more kW)
              rw [hlo] at this
              exact this)
            have HA1 : Hid (∀ W, Keeps (fun _ => False) wo W → Calls Try.prog 16 #[.agg #[.slice (some ⟨b, o, none⟩) j c2], .int .i64 (k : Int), .int .i64 ((l : Int) + 1)] W fun r w' => r = .returned (.int .u8 z) ∧ Keeps (fun _ => False) W w') := Lib.hid (fun W kW => by
              have := at_ _ j c2 es (k : Int) ((l : Int) + 1) W (HRA.out.more kW)
              rw [ha1] at this
              exact this)
            have HA2 : Hid (∀ W, Keeps (fun _ => False) wo W → Calls Try.prog 16 #[.agg #[.slice (some ⟨b, o, none⟩) j c2], .int .i64 (k : Int), .int .i64 0] W fun r w' => r = .returned (.int .u8 0) ∧ Keeps (fun _ => False) W w') := Lib.hid (fun W kW => by
              have := at_ _ j c2 es (k : Int) 0 W (HRA.out.more kW)
              rw [ha2] at this
              exact this)
            have HA3 : Hid (∀ W, Keeps (fun _ => False) wo W → Calls Try.prog 16 #[.agg #[.slice (some ⟨b, o, none⟩) j c2], .int .i64 (k : Int), .int .i64 ((l : Int) + 1 + 1)] W fun r w' => r = .returned (.int .u8 0) ∧ Keeps (fun _ => False) W w') := Lib.hid (fun W kW => by
              have := at_ _ j c2 es (k : Int) ((l : Int) + 1 + 1) W (HRA.out.more kW)
              rw [ha3] at this
              exact this)
            have k9 := (Keeps.refl (fun _ => False) wr).alloc (.cells #[.string T, .slice (some ⟨gz, oz, none⟩) (l + 1) e.c] 33)
            have HK9 := Lib.hid (HJ.out.trans k9)
            have HBC := Lib.hid (Blk.new wr 33 #[.string T, .slice (some ⟨gz, oz, none⟩) (l + 1) e.c])
            have g9 : (wr.alloc (.cells #[.string T, .slice (some ⟨gz, oz, none⟩) (l + 1) e.c] 33)).cell? ⟨p9, 0, none⟩ = some (.slice (some ⟨b, o, none⟩) j c2) := (HB9.out.keeps HK9.out id).cell 0
            have HZC := Lib.hid (fun W (kW : Keeps (fun _ => False) (wr.alloc (.cells #[.string T, .slice (some ⟨gz, oz, none⟩) (l + 1) e.c] 33)) W) => (((k9.trans kW).cell (p := ⟨gz, oz + l, none⟩) hzb id).trans hzc))
            have hlb : l ≤ 200 := by omega
            clear hpj hn1 hl1 hl2 hf1 hf2 hl hz hlo ha1 ha2 ha3 hT k9 hzc hzA he hg
            go_upto_region 19 with (
              go_at_call 14
              refine (HFI.out _ (by exact HK9.out)).mono ?_
              rintro r w10 ⟨rfl, hk10⟩
              have HK10 := Lib.hid (HK9.out.trans hk10)
              have HBC10 := Lib.hid (HBC.out.keeps hk10 id)
              have HZ10 := Lib.hid (fun W (kW : Keeps (fun _ => False) w10 W) => HZC.out W (hk10.trans kW))
              clear hk10 HZC)
            obtain ⟨pc, hpc⟩ : ∃ pc, wr.heap.size = pc := ⟨_, rfl⟩
            rw [hpc] at HBC10 ⊢
            clear hpc g9 HBC
            have hw1 : IntKind.i64.wrap ((l : Int) + 1 - 1) = (l : Int) := by rw [show (l : Int) + 1 - 1 = l by omega]; exact IntWalk.i64_in _ (by omega)
            have hw2 : IntKind.i64.wrap (l : Int) = (l : Int) := IntWalk.i64_in _ (by omega)
            have hw3 : IntKind.i64.wrap ((l : Int) + 1 + 1) = (l : Int) + 1 + 1 := IntWalk.i64_in _ (by omega)
            have hll : (l : Int) < (l : Int) + 1 := by omega
            have hkk : ((k : Int) != (k : Int)) = false := by simp
            have hl2 : ((l : Int) + 1 != (l : Int) + 1) = false := by simp
            have hzz : (z != z) = false := by simp
            have KD2 : Hid (Keeps (fun _ => False) w10 w10.drew) := (Keeps.refl (fun _ => False) w10).drewN 1
            refine wp_region_noPanic ?_
            refine wp_region_held_drew (S := fun w' => Keeps (fun _ => False) w10 w') (by kernel_rfl) KD2.out (fun hHeld => ?_)
            refine wpAnyH_take (i := 0) (v := ?vz0x1) rfl (by kernel_rfl) (by kernel_rfl) (by kernel_rfl) (fun _ _ _ h => h) (Or.inl ⟨by rfl, ?yz0x1⟩) hHeld ?rz0x1
            case yz0x1 => (intro w' hSw; go_simp; try with_reducible rfl)
            simp only [Act.put, List.getElem_toArray, List.getElem_cons_succ, List.getElem_cons_zero, List.setIfInBounds_toArray, List.set_cons_zero, List.set_cons_succ]
            refine wpAnyH_take (i := 1) (v := ?vz1x2) rfl (by kernel_rfl) (by kernel_rfl) (by kernel_rfl) (fun _ _ _ h => h) (Or.inl ⟨by rfl, ?yz1x2⟩) hHeld ?rz1x2
            case yz1x2 => (intro w' hSw; go_simp; try with_reducible rfl)
            simp only [Act.put, List.getElem_toArray, List.getElem_cons_succ, List.getElem_cons_zero, List.setIfInBounds_toArray, List.set_cons_zero, List.set_cons_succ]
            refine wpAnyH_take (i := 2) (v := ?vz2x3) rfl (by kernel_rfl) (by kernel_rfl) (by kernel_rfl) (fun _ _ _ h => h) (Or.inl ⟨by rfl, ?yz2x3⟩) hHeld ?rz2x3
            case yz2x3 => (intro w' hSw; go_simp; try with_reducible rfl)
            simp only [Act.put, List.getElem_toArray, List.getElem_cons_succ, List.getElem_cons_zero, List.setIfInBounds_toArray, List.set_cons_zero, List.set_cons_succ]
            refine wpAnyH_take (i := 3) (v := ?vz3x4) rfl (by kernel_rfl) (by kernel_rfl) (by kernel_rfl) (fun _ _ _ h => h) (Or.inl ⟨by rfl, ?yz3x4⟩) hHeld ?rz3x4
            case yz3x4 => (intro w' hSw; go_simp; try with_reducible rfl)
            simp only [Act.put, List.getElem_toArray, List.getElem_cons_succ, List.getElem_cons_zero, List.setIfInBounds_toArray, List.set_cons_zero, List.set_cons_succ]
            refine wpAnyH_take (i := 4) (v := ?vz4x5) rfl (by kernel_rfl) (by kernel_rfl) (by kernel_rfl) (fun _ _ _ h => h) (Or.inl ⟨by rfl, ?yz4x5⟩) hHeld ?rz4x5
            case yz4x5 => (intro w' hSw; go_simp; try with_reducible rfl)
            simp only [Act.put, List.getElem_toArray, List.getElem_cons_succ, List.getElem_cons_zero, List.setIfInBounds_toArray, List.set_cons_zero, List.set_cons_succ]
            refine wpAnyH_take (i := 5) (v := ?vz5x6) rfl (by kernel_rfl) (by kernel_rfl) (by kernel_rfl) (fun _ _ _ h => h) (Or.inl ⟨by rfl, ?yz5x6⟩) hHeld ?rz5x6
            case yz5x6 => (intro w' hSw; go_simp; try with_reducible rfl)
            simp only [Act.put, List.getElem_toArray, List.getElem_cons_succ, List.getElem_cons_zero, List.setIfInBounds_toArray, List.set_cons_zero, List.set_cons_succ]
            refine wpAnyH_take (i := 6) (v := ?vz6x7) rfl (by kernel_rfl) (by kernel_rfl) (by kernel_rfl) (fun _ _ _ h => h) (Or.inl ⟨by rfl, ?yz6x7⟩) hHeld ?rz6x7
            case yz6x7 => (intro w' hSw; go_simp; try with_reducible rfl)
            simp only [Act.put, List.getElem_toArray, List.getElem_cons_succ, List.getElem_cons_zero, List.setIfInBounds_toArray, List.set_cons_zero, List.set_cons_succ]
            refine wpAnyH_take (i := 7) (v := ?vz7x8) rfl (by kernel_rfl) (by kernel_rfl) (by kernel_rfl) (fun _ _ _ h => h) (Or.inl ⟨by rfl, ?yz7x8⟩) hHeld ?rz7x8
            case yz7x8 => (intro w' hSw; go_simp; try with_reducible rfl)
            simp only [Act.put, List.getElem_toArray, List.getElem_cons_succ, List.getElem_cons_zero, List.setIfInBounds_toArray, List.set_cons_zero, List.set_cons_succ]
            refine wpAnyH_take (i := 8) (v := ?vz8x9) rfl (by kernel_rfl) (by kernel_rfl) (by kernel_rfl) (fun _ _ _ h => h) (Or.inl ⟨by rfl, ?yz8x9⟩) hHeld ?rz8x9
            case yz8x9 => (intro w' hSw; have y0 := (HB9.out.keeps (HK10.out.trans hSw) id).cell 0; go_simp; try with_reducible rfl)
            simp only [Act.put, List.getElem_toArray, List.getElem_cons_succ, List.getElem_cons_zero, List.setIfInBounds_toArray, List.set_cons_zero, List.set_cons_succ]
            refine wpAnyH_take (i := 9) (v := ?vz9x10) rfl (by kernel_rfl) (by kernel_rfl) (by kernel_rfl) (fun _ _ _ h => h) (Or.inl ⟨by rfl, ?yz9x10⟩) hHeld ?rz9x10
            case yz9x10 => (intro w' hSw; go_simp; try with_reducible rfl)
            simp only [Act.put, List.getElem_toArray, List.getElem_cons_succ, List.getElem_cons_zero, List.setIfInBounds_toArray, List.set_cons_zero, List.set_cons_succ]
            refine wpAnyH_take (i := 11) (v := ?vz11x11) rfl (by kernel_rfl) (by kernel_rfl) (by kernel_rfl) (fun _ _ _ h => h) (Or.inl ⟨by rfl, ?yz11x11⟩) hHeld ?rz11x11
            case yz11x11 => (intro w' hSw; go_simp; try with_reducible rfl)
            simp only [Act.put, List.getElem_toArray, List.getElem_cons_succ, List.getElem_cons_zero, List.setIfInBounds_toArray, List.set_cons_zero, List.set_cons_succ]
            refine wpAnyH_take (i := 12) (v := ?vz12x12) rfl (by kernel_rfl) (by kernel_rfl) (by kernel_rfl) (fun _ _ _ h => h) (Or.inl ⟨by rfl, ?yz12x12⟩) hHeld ?rz12x12
            case yz12x12 => (intro w' hSw; have y0 := (HBC10.out.keeps hSw id).cell 1; go_simp; try with_reducible rfl)
            simp only [Act.put, List.getElem_toArray, List.getElem_cons_succ, List.getElem_cons_zero, List.setIfInBounds_toArray, List.set_cons_zero, List.set_cons_succ]
            refine wpAnyH_take (i := 13) (v := ?vz13x13) rfl (by kernel_rfl) (by kernel_rfl) (by kernel_rfl) (fun _ _ _ h => h) (Or.inl ⟨by rfl, ?yz13x13⟩) hHeld ?rz13x13
            case yz13x13 => (intro w' hSw; go_simp; try with_reducible rfl)
            simp only [Act.put, List.getElem_toArray, List.getElem_cons_succ, List.getElem_cons_zero, List.setIfInBounds_toArray, List.set_cons_zero, List.set_cons_succ]
            refine wpAnyH_ready (rs := [10]) (by kernel_rfl) (by simp) ?_
            refine AllReadyH.cons rfl (fun KR hK => ?_) AllReadyH.nil
            go_simp
            refine (HLN.out _ (HK10.out.trans hHeld)).mono ?_
            rintro r x1 ⟨rfl, hk⟩
            dsimp only
            refine hK.out _ _ (hHeld.trans hk) (fun hHeld => ?_)
            clear hK KR hk
            try simp only [Act.put, List.getElem_toArray, List.getElem_cons_succ, List.getElem_cons_zero, List.setIfInBounds_toArray, List.set_cons_zero, List.set_cons_succ]
            refine wpAnyH_take (i := 14) (v := ?vz14x14) rfl (by kernel_rfl) (by kernel_rfl) (by kernel_rfl) (fun _ _ _ h => h) (Or.inl ⟨by rfl, ?yz14x14⟩) hHeld ?rz14x14
            case yz14x14 => (intro w' hSw; go_simp; try with_reducible rfl)
            simp only [Act.put, List.getElem_toArray, List.getElem_cons_succ, List.getElem_cons_zero, List.setIfInBounds_toArray, List.set_cons_zero, List.set_cons_succ]
            refine wpAnyH_take (i := 15) (v := ?vz15x15) rfl (by kernel_rfl) (by kernel_rfl) (by kernel_rfl) (fun _ _ _ h => h) (Or.inl ⟨by rfl, ?yz15x15⟩) hHeld ?rz15x15
            case yz15x15 => (intro w' hSw; go_simp; try with_reducible rfl)
            simp only [Act.put, List.getElem_toArray, List.getElem_cons_succ, List.getElem_cons_zero, List.setIfInBounds_toArray, List.set_cons_zero, List.set_cons_succ]
            refine wpAnyH_take (i := 16) (v := ?vz16x16) rfl (by kernel_rfl) (by kernel_rfl) (by kernel_rfl) (fun _ _ _ h => h) (Or.inl ⟨by rfl, ?yz16x16⟩) hHeld ?rz16x16
            case yz16x16 => (intro w' hSw; go_simp; try with_reducible rfl)
            simp only [Act.put, List.getElem_toArray, List.getElem_cons_succ, List.getElem_cons_zero, List.setIfInBounds_toArray, List.set_cons_zero, List.set_cons_succ]
            refine wpAnyH_take (i := 17) (v := ?vz17x17) rfl (by kernel_rfl) (by kernel_rfl) (by kernel_rfl) (fun _ _ _ h => h) (Or.inl ⟨by rfl, ?yz17x17⟩) hHeld ?rz17x17
            case yz17x17 => (intro w' hSw; have y0 := (HB9.out.keeps (HK10.out.trans hSw) id).cell 0; go_simp; try with_reducible rfl)
            simp only [Act.put, List.getElem_toArray, List.getElem_cons_succ, List.getElem_cons_zero, List.setIfInBounds_toArray, List.set_cons_zero, List.set_cons_succ]
            refine wpAnyH_take (i := 18) (v := ?vz18x18) rfl (by kernel_rfl) (by kernel_rfl) (by kernel_rfl) (fun _ _ _ h => h) (Or.inl ⟨by rfl, ?yz18x18⟩) hHeld ?rz18x18
            case yz18x18 => (intro w' hSw; go_simp; try with_reducible rfl)
            simp only [Act.put, List.getElem_toArray, List.getElem_cons_succ, List.getElem_cons_zero, List.setIfInBounds_toArray, List.set_cons_zero, List.set_cons_succ]
            refine wpAnyH_take (i := 19) (v := ?vz19x19) rfl (by kernel_rfl) (by kernel_rfl) (by kernel_rfl) (fun _ _ _ h => h) (Or.inl ⟨by rfl, ?yz19x19⟩) hHeld ?rz19x19
            case yz19x19 => (intro w' hSw; go_simp; try with_reducible rfl)
            simp only [Act.put, List.getElem_toArray, List.getElem_cons_succ, List.getElem_cons_zero, List.setIfInBounds_toArray, List.set_cons_zero, List.set_cons_succ]
            refine wpAnyH_take (i := 20) (v := ?vz20x20) rfl (by kernel_rfl) (by kernel_rfl) (by kernel_rfl) (fun _ _ _ h => h) (Or.inl ⟨by rfl, ?yz20x20⟩) hHeld ?rz20x20
            case yz20x20 => (intro w' hSw; have y0 := (HBC10.out.keeps hSw id).cell 1; go_simp; try with_reducible rfl)
            simp only [Act.put, List.getElem_toArray, List.getElem_cons_succ, List.getElem_cons_zero, List.setIfInBounds_toArray, List.set_cons_zero, List.set_cons_succ]
            refine wpAnyH_take (i := 21) (v := ?vz21x21) rfl (by kernel_rfl) (by kernel_rfl) (by kernel_rfl) (fun _ _ _ h => h) (Or.inl ⟨by rfl, ?yz21x21⟩) hHeld ?rz21x21
            case yz21x21 => (intro w' hSw; go_simp; try with_reducible rfl)
            simp only [Act.put, List.getElem_toArray, List.getElem_cons_succ, List.getElem_cons_zero, List.setIfInBounds_toArray, List.set_cons_zero, List.set_cons_succ]
            refine wpAnyH_take (i := 23) (v := ?vz23x22) rfl (by kernel_rfl) (by kernel_rfl) (by kernel_rfl) (fun _ _ _ h => h) (Or.inl ⟨by rfl, ?yz23x22⟩) hHeld ?rz23x22
            case yz23x22 => (intro w' hSw; go_simp; try with_reducible rfl)
            simp only [Act.put, List.getElem_toArray, List.getElem_cons_succ, List.getElem_cons_zero, List.setIfInBounds_toArray, List.set_cons_zero, List.set_cons_succ]
            refine wpAnyH_take (i := 24) (v := ?vz24x23) rfl (by kernel_rfl) (by kernel_rfl) (by kernel_rfl) (fun _ _ _ h => h) (Or.inl ⟨by rfl, ?yz24x23⟩) hHeld ?rz24x23
            case yz24x23 => (intro w' hSw; have y0 := (HBC10.out.keeps hSw id).cell 1; go_simp; try with_reducible rfl)
            simp only [Act.put, List.getElem_toArray, List.getElem_cons_succ, List.getElem_cons_zero, List.setIfInBounds_toArray, List.set_cons_zero, List.set_cons_succ]
            refine wpAnyH_take (i := 25) (v := ?vz25x24) rfl (by kernel_rfl) (by kernel_rfl) (by kernel_rfl) (fun _ _ _ h => h) (Or.inl ⟨by rfl, ?yz25x24⟩) hHeld ?rz25x24
            case yz25x24 => (intro w' hSw; go_simp; try with_reducible rfl)
            simp only [Act.put, List.getElem_toArray, List.getElem_cons_succ, List.getElem_cons_zero, List.setIfInBounds_toArray, List.set_cons_zero, List.set_cons_succ]
            refine wpAnyH_take (i := 26) (v := ?vz26x25) rfl (by kernel_rfl) (by kernel_rfl) (by kernel_rfl) (fun _ _ _ h => h) (Or.inl ⟨by rfl, ?yz26x25⟩) hHeld ?rz26x25
            case yz26x25 => (intro w' hSw; have y0 := (HBC10.out.keeps hSw id).cell 1; go_simp; try with_reducible rfl)
            simp only [Act.put, List.getElem_toArray, List.getElem_cons_succ, List.getElem_cons_zero, List.setIfInBounds_toArray, List.set_cons_zero, List.set_cons_succ]
            refine wpAnyH_take (i := 27) (v := ?vz27x26) rfl (by kernel_rfl) (by kernel_rfl) (by kernel_rfl) (fun _ _ _ h => h) (Or.inl ⟨by rfl, ?yz27x26⟩) hHeld ?rz27x26
            case yz27x26 => (intro w' hSw; go_simp; try with_reducible rfl)
            simp only [Act.put, List.getElem_toArray, List.getElem_cons_succ, List.getElem_cons_zero, List.setIfInBounds_toArray, List.set_cons_zero, List.set_cons_succ]
            refine wpAnyH_take (i := 28) (v := ?vz28x27) rfl (by kernel_rfl) (by kernel_rfl) (by kernel_rfl) (fun _ _ _ h => h) (Or.inl ⟨by rfl, ?yz28x27⟩) hHeld ?rz28x27
            case yz28x27 => (intro w' hSw; go_simp; try with_reducible rfl)
            simp only [Act.put, List.getElem_toArray, List.getElem_cons_succ, List.getElem_cons_zero, List.setIfInBounds_toArray, List.set_cons_zero, List.set_cons_succ]
            refine wpAnyH_take (i := 29) (v := ?vz29x28) rfl (by kernel_rfl) (by kernel_rfl) (by kernel_rfl) (fun _ _ _ h => h) (Or.inl ⟨by rfl, ?yz29x28⟩) hHeld ?rz29x28
            case yz29x28 => (intro w' hSw; go_simp; try with_reducible rfl)
            simp only [Act.put, List.getElem_toArray, List.getElem_cons_succ, List.getElem_cons_zero, List.setIfInBounds_toArray, List.set_cons_zero, List.set_cons_succ]
            refine wpAnyH_take (i := 30) (v := ?vz30x29) rfl (by kernel_rfl) (by kernel_rfl) (by kernel_rfl) (fun _ _ _ h => h) (Or.inl ⟨by rfl, ?yz30x29⟩) hHeld ?rz30x29
            case yz30x29 => (intro w' hSw; have y0 := HZ10.out w' hSw; go_simp; try with_reducible rfl)
            simp only [Act.put, List.getElem_toArray, List.getElem_cons_succ, List.getElem_cons_zero, List.setIfInBounds_toArray, List.set_cons_zero, List.set_cons_succ]
            refine wpAnyH_ready (rs := [22]) (by kernel_rfl) (by simp) ?_
            refine AllReadyH.cons rfl (fun KR hK => ?_) AllReadyH.nil
            go_simp
            refine (HA1.out _ (HK10.out.trans hHeld)).mono ?_
            rintro r x2 ⟨rfl, hk⟩
            dsimp only
            refine hK.out _ _ (hHeld.trans hk) (fun hHeld => ?_)
            clear hK KR hk
            try simp only [Act.put, List.getElem_toArray, List.getElem_cons_succ, List.getElem_cons_zero, List.setIfInBounds_toArray, List.set_cons_zero, List.set_cons_succ]
            refine wpAnyH_take (i := 31) (v := ?vz31x30) rfl (by kernel_rfl) (by kernel_rfl) (by kernel_rfl) (fun _ _ _ h => h) (Or.inl ⟨by rfl, ?yz31x30⟩) hHeld ?rz31x30
            case yz31x30 => (intro w' hSw; go_simp; try with_reducible rfl)
            simp only [Act.put, List.getElem_toArray, List.getElem_cons_succ, List.getElem_cons_zero, List.setIfInBounds_toArray, List.set_cons_zero, List.set_cons_succ]
            refine wpAnyH_take (i := 32) (v := ?vz32x31) rfl (by kernel_rfl) (by kernel_rfl) (by kernel_rfl) (fun _ _ _ h => h) (Or.inl ⟨by rfl, ?yz32x31⟩) hHeld ?rz32x31
            case yz32x31 => (intro w' hSw; go_simp; try with_reducible rfl)
            simp only [Act.put, List.getElem_toArray, List.getElem_cons_succ, List.getElem_cons_zero, List.setIfInBounds_toArray, List.set_cons_zero, List.set_cons_succ]
            refine wpAnyH_take (i := 33) (v := ?vz33x32) rfl (by kernel_rfl) (by kernel_rfl) (by kernel_rfl) (fun _ _ _ h => h) (Or.inl ⟨by rfl, ?yz33x32⟩) hHeld ?rz33x32
            case yz33x32 => (intro w' hSw; go_simp; try with_reducible rfl)
            simp only [Act.put, List.getElem_toArray, List.getElem_cons_succ, List.getElem_cons_zero, List.setIfInBounds_toArray, List.set_cons_zero, List.set_cons_succ]
            refine wpAnyH_take (i := 34) (v := ?vz34x33) rfl (by kernel_rfl) (by kernel_rfl) (by kernel_rfl) (fun _ _ _ h => h) (Or.inl ⟨by rfl, ?yz34x33⟩) hHeld ?rz34x33
            case yz34x33 => (intro w' hSw; have y0 := (HB9.out.keeps (HK10.out.trans hSw) id).cell 0; go_simp; try with_reducible rfl)
            simp only [Act.put, List.getElem_toArray, List.getElem_cons_succ, List.getElem_cons_zero, List.setIfInBounds_toArray, List.set_cons_zero, List.set_cons_succ]
            refine wpAnyH_take (i := 35) (v := ?vz35x34) rfl (by kernel_rfl) (by kernel_rfl) (by kernel_rfl) (fun _ _ _ h => h) (Or.inl ⟨by rfl, ?yz35x34⟩) hHeld ?rz35x34
            case yz35x34 => (intro w' hSw; go_simp; try with_reducible rfl)
            simp only [Act.put, List.getElem_toArray, List.getElem_cons_succ, List.getElem_cons_zero, List.setIfInBounds_toArray, List.set_cons_zero, List.set_cons_succ]
            refine wpAnyH_ready (rs := [36]) (by kernel_rfl) (by simp) ?_
            refine AllReadyH.cons rfl (fun KR hK => ?_) AllReadyH.nil
            go_simp
            refine (HA2.out _ (HK10.out.trans hHeld)).mono ?_
            rintro r x3 ⟨rfl, hk⟩
            dsimp only
            refine hK.out _ _ (hHeld.trans hk) (fun hHeld => ?_)
            clear hK KR hk
            try simp only [Act.put, List.getElem_toArray, List.getElem_cons_succ, List.getElem_cons_zero, List.setIfInBounds_toArray, List.set_cons_zero, List.set_cons_succ]
            refine wpAnyH_take (i := 37) (v := ?vz37x35) rfl (by kernel_rfl) (by kernel_rfl) (by kernel_rfl) (fun _ _ _ h => h) (Or.inl ⟨by rfl, ?yz37x35⟩) hHeld ?rz37x35
            case yz37x35 => (intro w' hSw; go_simp; try with_reducible rfl)
            simp only [Act.put, List.getElem_toArray, List.getElem_cons_succ, List.getElem_cons_zero, List.setIfInBounds_toArray, List.set_cons_zero, List.set_cons_succ]
            refine wpAnyH_take (i := 38) (v := ?vz38x36) rfl (by kernel_rfl) (by kernel_rfl) (by kernel_rfl) (fun _ _ _ h => h) (Or.inl ⟨by rfl, ?yz38x36⟩) hHeld ?rz38x36
            case yz38x36 => (intro w' hSw; go_simp; try with_reducible rfl)
            simp only [Act.put, List.getElem_toArray, List.getElem_cons_succ, List.getElem_cons_zero, List.setIfInBounds_toArray, List.set_cons_zero, List.set_cons_succ]
            refine wpAnyH_take (i := 39) (v := ?vz39x37) rfl (by kernel_rfl) (by kernel_rfl) (by kernel_rfl) (fun _ _ _ h => h) (Or.inl ⟨by rfl, ?yz39x37⟩) hHeld ?rz39x37
            case yz39x37 => (intro w' hSw; go_simp; try with_reducible rfl)
            simp only [Act.put, List.getElem_toArray, List.getElem_cons_succ, List.getElem_cons_zero, List.setIfInBounds_toArray, List.set_cons_zero, List.set_cons_succ]
            refine wpAnyH_take (i := 40) (v := ?vz40x38) rfl (by kernel_rfl) (by kernel_rfl) (by kernel_rfl) (fun _ _ _ h => h) (Or.inl ⟨by rfl, ?yz40x38⟩) hHeld ?rz40x38
            case yz40x38 => (intro w' hSw; have y0 := (HB9.out.keeps (HK10.out.trans hSw) id).cell 0; go_simp; try with_reducible rfl)
            simp only [Act.put, List.getElem_toArray, List.getElem_cons_succ, List.getElem_cons_zero, List.setIfInBounds_toArray, List.set_cons_zero, List.set_cons_succ]
            refine wpAnyH_take (i := 41) (v := ?vz41x39) rfl (by kernel_rfl) (by kernel_rfl) (by kernel_rfl) (fun _ _ _ h => h) (Or.inl ⟨by rfl, ?yz41x39⟩) hHeld ?rz41x39
            case yz41x39 => (intro w' hSw; go_simp; try with_reducible rfl)
            simp only [Act.put, List.getElem_toArray, List.getElem_cons_succ, List.getElem_cons_zero, List.setIfInBounds_toArray, List.set_cons_zero, List.set_cons_succ]
            refine wpAnyH_take (i := 42) (v := ?vz42x40) rfl (by kernel_rfl) (by kernel_rfl) (by kernel_rfl) (fun _ _ _ h => h) (Or.inl ⟨by rfl, ?yz42x40⟩) hHeld ?rz42x40
            case yz42x40 => (intro w' hSw; go_simp; try with_reducible rfl)
            simp only [Act.put, List.getElem_toArray, List.getElem_cons_succ, List.getElem_cons_zero, List.setIfInBounds_toArray, List.set_cons_zero, List.set_cons_succ]
            refine wpAnyH_take (i := 43) (v := ?vz43x41) rfl (by kernel_rfl) (by kernel_rfl) (by kernel_rfl) (fun _ _ _ h => h) (Or.inl ⟨by rfl, ?yz43x41⟩) hHeld ?rz43x41
            case yz43x41 => (intro w' hSw; have y0 := (HBC10.out.keeps hSw id).cell 1; go_simp; try with_reducible rfl)
            simp only [Act.put, List.getElem_toArray, List.getElem_cons_succ, List.getElem_cons_zero, List.setIfInBounds_toArray, List.set_cons_zero, List.set_cons_succ]
            refine wpAnyH_take (i := 44) (v := ?vz44x42) rfl (by kernel_rfl) (by kernel_rfl) (by kernel_rfl) (fun _ _ _ h => h) (Or.inl ⟨by rfl, ?yz44x42⟩) hHeld ?rz44x42
            case yz44x42 => (intro w' hSw; go_simp; try with_reducible rfl)
            simp only [Act.put, List.getElem_toArray, List.getElem_cons_succ, List.getElem_cons_zero, List.setIfInBounds_toArray, List.set_cons_zero, List.set_cons_succ]
            refine wpAnyH_take (i := 45) (v := ?vz45x43) rfl (by kernel_rfl) (by kernel_rfl) (by kernel_rfl) (fun _ _ _ h => h) (Or.inl ⟨by rfl, ?yz45x43⟩) hHeld ?rz45x43
            case yz45x43 => (intro w' hSw; go_simp; try with_reducible rfl)
            simp only [Act.put, List.getElem_toArray, List.getElem_cons_succ, List.getElem_cons_zero, List.setIfInBounds_toArray, List.set_cons_zero, List.set_cons_succ]
            refine wpAnyH_ready (rs := [46]) (by kernel_rfl) (by simp) ?_
            refine AllReadyH.cons rfl (fun KR hK => ?_) AllReadyH.nil
            go_simp
            refine (HA3.out _ (HK10.out.trans hHeld)).mono ?_
            rintro r x4 ⟨rfl, hk⟩
            dsimp only
            refine hK.out _ _ (hHeld.trans hk) (fun hHeld => ?_)
            clear hK KR hk
            try simp only [Act.put, List.getElem_toArray, List.getElem_cons_succ, List.getElem_cons_zero, List.setIfInBounds_toArray, List.set_cons_zero, List.set_cons_succ]
            refine wpAnyH_take (i := 47) (v := ?vz47x44) rfl (by kernel_rfl) (by kernel_rfl) (by kernel_rfl) (fun _ _ _ h => h) (Or.inl ⟨by rfl, ?yz47x44⟩) hHeld ?rz47x44
            case yz47x44 => (intro w' hSw; go_simp; try with_reducible rfl)
            simp only [Act.put, List.getElem_toArray, List.getElem_cons_succ, List.getElem_cons_zero, List.setIfInBounds_toArray, List.set_cons_zero, List.set_cons_succ]
            refine wpAnyH_take (i := 48) (v := ?vz48x45) rfl (by kernel_rfl) (by kernel_rfl) (by kernel_rfl) (fun _ _ _ h => h) (Or.inl ⟨by rfl, ?yz48x45⟩) hHeld ?rz48x45
            case yz48x45 => (intro w' hSw; go_simp; try with_reducible rfl)
            simp only [Act.put, List.getElem_toArray, List.getElem_cons_succ, List.getElem_cons_zero, List.setIfInBounds_toArray, List.set_cons_zero, List.set_cons_succ]
            have HKF := Lib.hid hHeld
            refine wpAnyH_done (by kernel_rfl) ?_ _
            clear hHeld
            refine NoPanic.normal ?_
            go_wp2_with fail
            exact ⟨⟨k + 1, by go_num, by omega, Lib.hid (HK10.out.trans HKF.out)⟩, by simp [intOf]; omega⟩
          · obtain rfl : k = j := by omega
            have f9 : wr.cell? ⟨p9, 0, none⟩ = some (.slice A2 k c2) := (HB9.out.keeps HJ.out id).cell 0
            obtain ⟨q1, hq1⟩ : ∃ b, decide (0 ≤ i) = b := ⟨_, rfl⟩
            obtain ⟨q2, hq2⟩ : ∃ b, decide (i < (k : Int)) = b := ⟨_, rfl⟩
            obtain ⟨q3, hq3⟩ : ∃ b, decide (1 ≤ pos) = b := ⟨_, rfl⟩
            obtain ⟨ln, hln⟩ : ∃ ln, lenOf es i = ln := ⟨_, rfl⟩
            obtain ⟨q4, hq4⟩ : ∃ b, decide (pos ≤ ln) = b := ⟨_, rfl⟩
            obtain ⟨z, hz⟩ : ∃ z, atOf es i pos = z := ⟨_, rfl⟩
            obtain ⟨KN, hKN⟩ : ∃ KN, fnb (numsOf nm) ps = KN := ⟨_, rfl⟩
            obtain ⟨F1, hF1⟩ : ∃ F1, fnd (numsOf nm) ps = F1 := ⟨_, rfl⟩
            have hel : es.length = k := HRA.out.1
            have HZF : Hid ((q1 && q2 && (q3 && q4)) = false → z = 0) := Lib.hid (fun h => by
              rw [← hz, atOf, if_neg]
              intro h2
              rw [hln] at h2
              have h3 : 0 ≤ i ∧ i < (es.length : Int) := by
                by_cases h4 : 0 ≤ i ∧ i < (es.length : Int)
                · exact h4
                · rw [lenOf, if_neg h4] at hln
                  omega
              have e1 : q1 = true := by rw [← hq1]; simpa using h3.1
              have e2 : q2 = true := by rw [← hq2]; simp; omega
              have e3 : q3 = true := by rw [← hq3]; simpa using h2.1
              have e4 : q4 = true := by rw [← hq4]; simpa using h2.2
              rw [e1, e2, e3, e4] at h
              cases h)
            have HLF : Hid ((q1 && q2) = false → ln = 0) := Lib.hid (fun h => by
              rw [← hln, lenOf, if_neg]
              intro h3
              have e1 : q1 = true := by rw [← hq1]; simpa using h3.1
              have e2 : q2 = true := by rw [← hq2]; simp; omega
              rw [e1, e2] at h
              cases h)
            have HQ1 := Lib.hid hq1
            have HQ2 := Lib.hid hq2
            have HQ3 := Lib.hid hq3
            have HQ4 := Lib.hid hq4
            have HLN2 := Lib.hid hln
            have HZZ := Lib.hid hz
            clear hln hz hq4
            go_upto_region 22 with fail
            clear hq1 hq2 hq3
            go_cut [19] from 141 to 149 (fun v wx => v = .bool (q1 && q2) ∧ wx = wr)
            case first =>
              have d1 : decide (0 ≤ i) = q1 := HQ1.out
              have d2 : decide (i < (k : Int)) = q2 := HQ2.out
              cases q1 with
              | true =>
                go_wp2
                go_meet
                exact ⟨by simp, rfl⟩
              | false =>
                go_wp2
                go_meet
                exact ⟨by simp, rfl⟩
            case rest =>
              obtain ⟨rfl, rfl⟩ := hcut
              obtain ⟨IN, hIN⟩ : ∃ IN, (q1 && q2) = IN := ⟨_, rfl⟩
              rw [hIN] at HZF HLF ⊢
              have HINN := Lib.hid hIN
              clear hIN
              go_upto_region 24 with fail
              go_cut [165] from 150 to 165 (fun v wx => v = .bool (IN && (q3 && q4)) ∧ wx = wc)
              case first =>
                cases IN with
                | false =>
                  go_wp2
                  go_meet
                  exact ⟨by simp, rfl⟩
                | true =>
                  have d3 : decide (1 ≤ pos) = q3 := HQ3.out
                  cases q3 with
                  | false =>
                    go_wp2
                    go_meet
                    exact ⟨by simp, rfl⟩
                  | true =>
                    have hi2 : 0 ≤ i ∧ i < (k : Int) := by
                      have h1 := HINN.out
                      rw [← HQ1.out, ← HQ2.out] at h1
                      simpa using h1
                    obtain ⟨ki, rfl⟩ : ∃ ki : Nat, i = (ki : Int) := ⟨i.toNat, by omega⟩
                    have hkk : ki < k := by omega
                    obtain ⟨b, o, e, rfl, hb, he, hg, h0, h1⟩ := (HRA.out.more HJ.out).item hkk
                    have hki : (ki : Int) < (k : Int) := by omega
                    have hll : ln = (e.sq.length : Int) := by
                      rw [← HLN2.out, lenOf, if_pos (by omega)]
                      simp [List.getD_eq_getElem?_getD, he]
                    have d4 : decide (pos ≤ ln) = q4 := HQ4.out
                    rw [hll] at d4
                    obtain ⟨l, hl⟩ : ∃ l, e.sq.length = l := ⟨_, rfl⟩
                    rw [hl] at h1 d4
                    clear hg he hll hl h0
                    go_wp2
                    go_meet
                    exact ⟨by simp, rfl⟩
              case rest =>
                obtain ⟨rfl, rfl⟩ := hcut
                obtain ⟨CD, hCD⟩ : ∃ CD, (IN && (q3 && q4)) = CD := ⟨_, rfl⟩
                rw [hCD] at HZF ⊢
                have HCD := Lib.hid hCD
                clear hCD
                go_upto_if 165 with fail
                go_cut [20] from 166 to 175 (fun v wx => v = .int .u8 z ∧ wx = wc)
                case first =>
                  cases CD with
                  | false =>
                    have hz0 : z = 0 := HZF.out rfl
                    go_wp2
                    go_meet
                    exact ⟨by rw [hz0], rfl⟩
                  | true =>
                    have hc2 : (0 ≤ i ∧ i < (k : Int)) ∧ 1 ≤ pos ∧ pos ≤ ln := by
                      have h1 := HCD.out
                      rw [← HINN.out, ← HQ1.out, ← HQ2.out, ← HQ3.out, ← HQ4.out] at h1
                      simpa using h1
                    obtain ⟨⟨hi2, hi3⟩, hp2, hp3⟩ := hc2
                    obtain ⟨ki, rfl⟩ : ∃ ki : Nat, i = (ki : Int) := ⟨i.toNat, by omega⟩
                    obtain ⟨pp, rfl⟩ : ∃ pp : Nat, pos = (pp : Int) + 1 := ⟨(pos - 1).toNat, by omega⟩
                    have hkk : ki < k := by omega
                    obtain ⟨b, o, e, rfl, hb, he, hg, h0, h1⟩ := (HRA.out.more HJ.out).item hkk
                    have hll : ln = (e.sq.length : Int) := by
                      rw [← HLN2.out, lenOf, if_pos (by omega)]
                      simp [List.getD_eq_getElem?_getD, he]
                    have hppl : pp < e.sq.length := by omega
                    obtain ⟨gz, oz, hzA, hzb, hzc⟩ := lies_at hg.lies hppl
                    obtain ⟨_, _, hl9, _⟩ := HPJ.out ki e.p (by rw [← HPE.out]; exact pairs_get he)
                    simp only [Ct.p] at hl9
                    have hzz : z = e.sq.getD pp 0 := by
                      rw [← HZZ.out, atOf, if_pos (by rw [HLN2.out]; omega)]
                      simp [List.getD_eq_getElem?_getD, he]
                    rw [← hzz] at hzc
                    rw [hzA] at h1
                    obtain ⟨l, hl⟩ : ∃ l, e.sq.length = l := ⟨_, rfl⟩
                    rw [hl] at h1 hppl hl9
                    have hki : (ki : Int) < (k : Int) := by omega
                    have hpl : (pp : Int) < (l : Int) := by omega
                    have hs1 : (pp : Int) + 1 - 1 = (pp : Int) := by omega
                    have hs2 : IntKind.i64.wrap (pp : Int) = (pp : Int) := IntWalk.i64_in _ (by omega)
                    have hs3 : wrap64 ((pp : Int) + 1 - 1) = (pp : Int) := by unfold wrap64; omega
                    have hs4 : wrap64 (pp : Int) = (pp : Int) := by unfold wrap64; omega
                    clear hg he hll hl h0 hzz hzA
                    go_wp2
                    go_meet
                    exact ⟨rfl, rfl⟩
                case rest =>
                  obtain ⟨rfl, rfl⟩ := hcut
                  go_upto_region 26 with fail
                  go_cut [21] from 176 to 207 (fun v wx => v = .bool KN ∧ wx = wc)
                  case first =>
                    have hb0 := nm_is nm [99, 49] [99, 49] (fun x hx => by simp at hx; omega) (by decide +kernel)
                    have hb1 := nm_is nm [99, 104, 114, 88] [99, 104, 114, 88] (fun x hx => by simp at hx; omega) (by decide +kernel)
                    have hb2 := nm_is nm [97] [97] (fun x hx => by simp at hx; omega) (by decide +kernel)
                    have hb3 := nm_is nm [122, 33, 57] [122, 33, 57] (fun x hx => by simp at hx; omega) (by decide +kernel)
                    have hkn := HKNW.out
                    rw [hKN] at hkn
                    simp only [nmOf] at hkn
                    have m1 : decide ((1 : Int) < (k : Int)) = decide (1 < k) := by rw [decide_eq_decide]; omega
                    have m2 : decide ((2 : Int) < (k : Int)) = decide (2 < k) := by rw [decide_eq_decide]; omega
                    have m3 : decide ((3 : Int) < (k : Int)) = decide (3 < k) := by rw [decide_eq_decide]; omega
                    by_cases e0 : numsOf nm = [99, 49]
                    · rw [e0] at hb0 hkn
                      have HV : Hid (KN = true) := by show _ = _; rw [hkn]; simp
                      simp only [decide_true] at hb0
                      clear hb1 hb2 hb3 hkn m1 m2 m3 e0
                      go_wp2
                      go_meet
                      exact ⟨by rw [HV.out], rfl⟩
                    · have f0 : (nm.toList == [99, 49]) = false := by rw [hb0, decide_eq_false e0]
                      clear hb0
                      by_cases e1 : numsOf nm = [99, 104, 114, 88]
                      · have g1 : (nm.toList == [99, 104, 114, 88]) = true := by rw [hb1, decide_eq_true e1]
                        have g2 : (nm.toList == [97]) = false := by rw [hb2, e1]; rfl
                        have g3 : (nm.toList == [122, 33, 57]) = false := by rw [hb3, e1]; rfl
                        have HV : Hid (KN = decide (1 < k)) := by show _ = _; rw [hkn, e1]; simp
                        clear hb1 hb2 hb3 hkn e0 e1 m2 m3
                        obtain ⟨v1, hv1⟩ : ∃ v, decide (1 < k) = v := ⟨_, rfl⟩
                        rw [hv1] at m1 HV
                        cases v1 with
                        | true =>
                          go_wp2
                          go_meet
                          exact ⟨by rw [HV.out], rfl⟩
                        | false =>
                          go_wp2
                          go_meet
                          exact ⟨by rw [HV.out], rfl⟩
                      · have f1 : (nm.toList == [99, 104, 114, 88]) = false := by rw [hb1, decide_eq_false e1]
                        clear hb1
                        by_cases e2 : numsOf nm = [97]
                        · have g2 : (nm.toList == [97]) = true := by rw [hb2, decide_eq_true e2]
                          have g3 : (nm.toList == [122, 33, 57]) = false := by rw [hb3, e2]; rfl
                          have HV : Hid (KN = decide (2 < k)) := by show _ = _; rw [hkn, e2]; simp
                          clear hb2 hb3 hkn e0 e1 e2 m1 m3
                          obtain ⟨v1, hv1⟩ : ∃ v, decide (2 < k) = v := ⟨_, rfl⟩
                          rw [hv1] at m2 HV
                          cases v1 with
                          | true =>
                            go_wp2
                            go_meet
                            exact ⟨by rw [HV.out], rfl⟩
                          | false =>
                            go_wp2
                            go_meet
                            exact ⟨by rw [HV.out], rfl⟩
                        · have f2 : (nm.toList == [97]) = false := by rw [hb2, decide_eq_false e2]
                          clear hb2
                          by_cases e3 : numsOf nm = [122, 33, 57]
                          · have g3 : (nm.toList == [122, 33, 57]) = true := by rw [hb3, decide_eq_true e3]
                            have HV : Hid (KN = decide (3 < k)) := by show _ = _; rw [hkn, e3]; simp
                            clear hb3 hkn e0 e1 e2 e3 m1 m2
                            obtain ⟨v1, hv1⟩ : ∃ v, decide (3 < k) = v := ⟨_, rfl⟩
                            rw [hv1] at m3 HV
                            cases v1 with
                            | true =>
                              go_wp2
                              go_meet
                              exact ⟨by rw [HV.out], rfl⟩
                            | false =>
                              go_wp2
                              go_meet
                              exact ⟨by rw [HV.out], rfl⟩
                          · have f3 : (nm.toList == [122, 33, 57]) = false := by rw [hb3, decide_eq_false e3]
                            have HV : Hid (KN = false) := by
                              show _ = _
                              rw [hkn, decide_eq_false e0, decide_eq_false e1, decide_eq_false e2, decide_eq_false e3]
                              rfl
                            clear hb3 hkn e0 e1 e2 e3 m1 m2 m3
                            go_wp2
                            go_meet
                            exact ⟨by rw [HV.out], rfl⟩
                  case rest =>
                    obtain ⟨rfl, rfl⟩ := hcut
                    have HFI : Hid (∀ W, Keeps (fun _ => False) wo W → Calls Try.prog 14 #[.agg #[.slice A2 k c2], .string nm] W fun r w' => r = .returned (.tuple #[.int .i64 (F1 : Int), .bool KN]) ∧ Keeps (fun _ => False) W w') := Lib.hid (fun W kW => by
                      have := find_ A2 k c2 es (numsOf nm) W (HRA.out.more kW) (nums_byt nm)
                      unfold FindR at this
                      rw [HPE.out, hF1, hKN, str_nums] at this
                      exact this)
                    have HAT : Hid (∀ W, Keeps (fun _ => False) wo W → Calls Try.prog 16 #[.agg #[.slice A2 k c2], .int .i64 i, .int .i64 pos] W fun r w' => r = .returned (.int .u8 z) ∧ Keeps (fun _ => False) W w') := Lib.hid (fun W kW => by
                      have := at_ A2 k c2 es i pos W (HRA.out.more kW)
                      rw [HZZ.out] at this
                      exact this)
                    have HLE : Hid (∀ W, Keeps (fun _ => False) wo W → Calls Try.prog 15 #[.agg #[.slice A2 k c2], .int .i64 i] W fun r w' => r = .returned (.int .i64 ln) ∧ Keeps (fun _ => False) W w') := Lib.hid (fun W kW => by
                      have := len_ A2 k c2 es i W (HRA.out.more kW)
                      rw [HLN2.out] at this
                      exact this)
                    have hzz : (z == z) = true := by simp
                    have hknn : (KN == KN) = true := by simp
                    clear hKN hF1
                    go_wp2_with fail
                    refine (HFI.out _ HJ.out).mono ?_
                    rintro r y1 ⟨rfl, hk1⟩
                    have HY1 := Lib.hid (HJ.out.trans hk1)
                    have g9 : y1.cell? ⟨p9, 0, none⟩ = some (.slice A2 k c2) := (HB9.out.keeps HY1.out id).cell 0
                    clear hk1 f9
                    go_wp2_with fail
                    refine (HAT.out _ HY1.out).mono ?_
                    rintro r y2 ⟨rfl, hk2⟩
                    have HY2 := Lib.hid (HY1.out.trans hk2)
                    have g9' : y2.cell? ⟨p9, 0, none⟩ = some (.slice A2 k c2) := (HB9.out.keeps HY2.out id).cell 0
                    clear hk2 g9
                    cases IN with
                    | true =>
                      go_wp2
                      go_ret
                      exact ⟨by simp, HK3.out.trans HY2.out⟩
                    | false =>
                      have hl0 : ln = 0 := HLF.out rfl
                      subst hl0
                      go_wp2_with fail
                      refine (HLE.out _ HY2.out).mono ?_
                      rintro r y3 ⟨rfl, hk3⟩
                      have HY3 := Lib.hid (HY2.out.trans hk3)
                      clear hk3
                      go_wp2
                      go_ret
                      exact ⟨by simp, HK3.out.trans HY3.out⟩
end Go.Proofs.Ytbekdcakmeejaaa.Ct

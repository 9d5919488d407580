/- The tables' bytes (chain.tables.put). -/
import Derived.Test.YtnanmenoemajfaaChTO
import Derived.Test.YtnanmenoemajfaaRnHav
namespace Go.Proofs.Ytnanmenoemajfaa.Cq
open Go.RowKit Go.Proofs.Ytnanmenoemajfaa.Gen Go.Proofs.Ytnanmenoemajfaa.Wr Go.Proofs.Ytnanmenoemajfaa.Ww Go.Proofs.Ytnanmenoemajfaa.It Go.Proofs.Ytnanmenoemajfaa.Ir Go.Proofs.Ytnanmenoemajfaa.Ib Go.Proofs.Ytnanmenoemajfaa.Fq Go.Proofs.Ytnanmenoemajfaa.Fb Go.Proofs.Ytnanmenoemajfaa.Rp Go.Proofs.Ytnanmenoemajfaa.Rs Go.Proofs.Ytnanmenoemajfaa.Ch Go.Proofs.Ytnanmenoemajfaa.Cm Go.Proofs.Ytnanmenoemajfaa.Ck

theorem cntF_tab (tb : Nat → Option (List Int)) : ∀ d, cntF (tabV tb) d = tbN tb d
  | 0 => rfl
  | d + 1 => by
    have h := cntF_tab tb d
    unfold cntF at h ⊢
    rw [List.range_succ, List.filter_append, List.length_append, h]
    cases ht : tb d with
    | none => rw [(tbB_none ht).2]; simp [tabV, ht]
    | some l => rw [(tbB_some ht).2]; simp [tabV, ht]
theorem its_map {w : World} {base g b N : Nat} {k : TypeId} {kl : Nat → Lit} {v : Value} {ys : List Int} {val : Nat → Option Value} (h : IsWr base g v ys w) (hm : IsF Try.prog k N kl w b val) : ¬ Its g v b := by
  rintro (e | hi)
  · obtain ⟨t, _, hb⟩ := h.2.2.2.2.1
    exact hm.ne_blk hb e.symm
  · rcases h.2.2.2.2.2.2 with ⟨rfl, _⟩ | ⟨g', cap, cur, rfl, _, hh, _⟩
    · simp [Value.ownBlock] at hi
    · have : g' = b := by simpa [Value.ownBlock] using hi
      exact hm.ne_blk (show Blk w g' 5 cur from hh) this
theorem its_new {w w1 : World} {base g b : Nat} {v : Value} {ys : List Int} (h : IsWr base g v ys w) (hs : w.heap.size ≤ w1.heap.size) (hb : w1.heap.size ≤ b) : ¬ Its g v b := by
  rintro (rfl | hi)
  · have := h.lt; omega
  · have := (h.2.2.2.2.2.lt b hi).2; omega
theorem hav_trans {base g : Nat} {v0 v : Value} {zs : List Int} {w0 w w' : World} (k : Keeps (Its g v0) w0 w ∧ At w0 v0 v) (h2 : Hav base g v zs w w') : Hav base g v0 zs w0 w' := by
  obtain ⟨v', h1, h3, h4⟩ := h2
  exact ⟨v', h1, its_next k.1 k.2 h3, at_next k.1.size k.2 h4⟩
theorem wpList_len_f {w : World} {ops : Array Oper} {rest : List Oper} {o : Oper} {a : Act} {Q : Exit → Act → World → Prop} {k : TypeId} {N : Nat} {kv : Nat → Value} {kl : Nat → Lit} (K : Ks Try.prog k N kv kl) (hg : o.guard = none) (x : Operand) (t : TypeId) (hop : o.op = Op.call { callee := Callee.builtin Builtin.len, args := #[x], argTypes := #[t] }) (e : TypeId) (ht : Try.prog.underlying t = some (.map k e)) (b n : Nat) (val : Nat → Option Value)
    (hm : a.eval x = .map (some b)) (h : IsF Try.prog k N kl w b val) (hn : cntF val N = n) (hK : wpList Try.prog ops Q rest (a.put o.dst (.int .i64 (n : Int))) w) : wpList Try.prog ops Q (o :: rest) a w := by
  obtain ⟨m, h1, h2⟩ := h
  exact Mp.wpList_len_m w hg x t hop k e ht b n m hm h1 (by rw [h2.len K h1.nd, hn]) hK

set_option maxHeartbeats 8000000 in
set_option maxRecDepth 100000 in
theorem tput_ (b g base : Nat) (v0 : Value) (ys : List Int) (tb : Nat → Option (List Int)) (w : World) (hm : IsF Try.prog 5 256 bkl w b (tabV tb)) (h : IsWr base g v0 ys w) (hn : ys.length ≤ 100) (ht : ∀ a l, tb a = some l → Tb l) :
    Calls Try.prog 13 #[.map (some b), .pointer (some ⟨g, 0, none⟩)] w fun r w' => r = .returned (.tuple #[]) ∧ Hav base g v0 (ys ++ tbA tb) w w' := by
  have HM := Lib.hid hm
  have H := Lib.hid h
  have HN := Lib.hid hn
  have HT := Lib.hid ht
  have HNI := Lib.hid (its_map h hm)
  obtain ⟨N, hN⟩ : ∃ N, tbN tb 256 = N := ⟨_, rfl⟩
  have hNb : N ≤ 256 := by rw [← hN]; exact tbN_le tb 256
  have hwN : IntKind.u32.wrap (N : Int) = (N : Int) := IntWalk.u32_in _ (by omega)
  have HNN := Lib.hid hN
  have hz : ∀ w, (zeroValue 65).run Try.prog w = .ok (.agg (vs zs)) w := tab_zero
  have HZI : Hid ((Try.prog.info? 65).map (·.size) = some (vs zs).size) := tab_size zs_len
  have HZ1 : Hid ((vs zs).all (·.oneCell') = true) := vs_one _
  have HZS : Hid ((vs zs).size = 256) := by show _ = _; rw [vs_size, zs_len]
  generalize hZ : vs zs = Z at hz HZI HZ1 HZS
  have HZ := Lib.hid hZ
  clear hm h hn ht hN hZ
  go_enter Try.func13, Try.ntmps13
  go_upto_region 1 with (first
    | (at_len
       refine wpList_len_f byte_ks rfl _ _ rfl 65 Try.underlying40 b N (tabV tb) rfl HM.out (by rw [cntF_tab]; exact HNN.out) ?_)
    | (go_at_call 9
       refine (Iw.int g base v0 ys (N : Int) _ H.out (by have := HN.out; omega) (by omega) (by omega)).mono ?_
       rintro e w1 hp
       obtain rfl := hp.1
       have HP := Lib.hid (Hav.next H.out ⟨Keeps.refl _ _, .inl rfl⟩ hp)
       clear hp))
  go_wp2_with fail
  go_loopw [4, 5, 6, 7, 13] (fun _ _ _ _ iv wr => ∃ d : Nat, iv = .int .i64 (d : Int) ∧ d ≤ 256 ∧ Hid (Hav base g v0 (ys ++ (encInt (N : Int) ++ tbB tb d)) w wr)) (fun _ _ _ _ iv _ => 256 - (intOf iv).toNat)
  case atStart => exact ⟨0, rfl, by omega, by show Hav _ _ _ _ _ _; rw [show tbB tb 0 = [] from rfl, List.append_nil]; exact HP.out⟩
  case round =>
    clear HP
    obtain ⟨d, rfl, hd, HH⟩ := hrel
    by_cases hlt : d < 256
    · have hd1 : (d : Int) < 256 := by omega
      have hwd : IntKind.u8.wrap (d : Int) = (d : Int) := IntWalk.u8_in _ (by omega)
      have hMr : IsF Try.prog 5 256 bkl wr b (tabV tb) := by
        obtain ⟨_, _, k, _⟩ := HH.out
        exact HM.out.keeps k HNI.out
      have HD := Lib.hid hlt
      cases htd : tb d with
      | none =>
        have hlk : (Instr.lookup 40 (.map (some b)) (.int .u8 (d : Int)) true).run Try.prog wr = .ok (.tuple #[.agg Z, .bool false]) wr := ((hMr.look byte_ks Try.underlying40 (hz wr) hlt).2 (by rw [tabV, htd]; rfl)).2
        have HNX : Hid (∀ W, Keeps (fun _ => False) wr W → Hav base g v0 (ys ++ (encInt (N : Int) ++ tbB tb (d + 1))) w W) := by
          refine Lib.hid fun W k => ?_
          rw [(tbB_none htd).1]
          exact hav_next HH.out k
        have HK : Hid (Keeps (fun _ => False) wr ((wr.alloc (.cells Z 65)).setRow wr.heap.size Z)) := Keeps.put_new (Keeps.refl _ _)
        clear hMr htd hlt hd
        go_wp2_with ((with_reducible refine st_row (Blk.new _ 65 Z) HZI.out rfl HZ1.out ?_ ?_ ?_); rfl; rfl)
        exact ⟨⟨d + 1, by go_num, HD.out, HNX.out _ HK.out⟩, by have := HD.out; simp [intOf]; omega⟩
      | some l =>
        obtain ⟨V, hV⟩ : ∃ V, vs l = V := ⟨_, rfl⟩
        have hT := HT.out d l htd
        have hlk : (Instr.lookup 40 (.map (some b)) (.int .u8 (d : Int)) true).run Try.prog wr = .ok (.tuple #[.agg V, .bool true]) wr := ((hMr.look byte_ks Try.underlying40 (hz wr) hlt).1 (.agg V) (by rw [tabV, htd, ← hV]; rfl)).2
        have HVI : Hid ((Try.prog.info? 65).map (·.size) = some V.size) := by show _ = _; rw [← hV]; exact tab_size hT.len
        have HV1 : Hid (V.all (·.oneCell') = true) := by show _ = _; rw [← hV]; exact vs_one _
        have HVZ : Hid (Z.size = V.size) := by show _ = _; rw [HZS.out, ← hV, vs_size, hT.len]
        have HB5 : Hid (Blk ((wr.alloc (.cells Z 65)).setRow wr.heap.size V) wr.heap.size 65 V) := new_put
        have HK5 : Hid (Keeps (fun _ => False) wr ((wr.alloc (.cells Z 65)).setRow wr.heap.size V)) := Keeps.put_new (Keeps.refl _ _)
        obtain ⟨zq, hzq⟩ : ∃ zq, ys ++ (encInt (N : Int) ++ tbB tb d) = zq := ⟨_, rfl⟩
        have hH := HH.out
        rw [hzq] at hH
        have HZL : Hid (zq.length ≤ 657000) := by
          show _ ≤ _
          have h1 := (Ib.encInt_len (N : Int)).2
          have h2 := tbB_len tb d
          have h3 := HN.out
          rw [← hzq]
          simp only [List.length_append]
          omega
        have HZE : Hid (ys ++ (encInt (N : Int) ++ tbB tb (d + 1)) = zq ++ [(d : Int)] ++ tabB l) := by
          show _ = _
          rw [(tbB_some htd).1, ← hzq]
          simp
        obtain ⟨v5, hW5, hK5w⟩ := hH
        have HPN : Hid (¬ Its g v5 wr.heap.size) := its_new hW5 (Nat.le_refl _) (Nat.le_refl _)
        have HW5 := Lib.hid (hW5.keeps HK5.out (fun _ _ => id))
        have HKW5 : Hid (Keeps (Its g v0) w ((wr.alloc (.cells Z 65)).setRow wr.heap.size V) ∧ At w v0 v5) := Lib.hid ⟨hK5w.1.trans HK5.out.none_, hK5w.2⟩
        have HT2 := Lib.hid hT
        have HV := Lib.hid hV
        clear hMr htd hlt hd hT hV hzq hW5 hK5w HK5 HH
        go_upto_region 6 with ((with_reducible refine st_row (Blk.new _ 65 Z) HVI.out HVZ.out HV1.out ?_ ?_ ?_); rfl; rfl)
        obtain ⟨p, hp⟩ : ∃ p, wr.heap.size = p := ⟨_, rfl⟩
        generalize (wr.alloc (.cells Z 65)).setRow wr.heap.size V = W5 at HB5 HW5 HKW5 ⊢
        rw [hp] at HB5 HPN ⊢
        clear hp hlk
        have hwd : IntKind.u8.wrap (d : Int) = (d : Int) := IntWalk.u8_in _ (by have := HD.out; omega)
        go_wp2_with (first
          | (go_at_call 35
             refine (Ww.byte g base v5 zq (d : Int) W5 HW5.out (by have := HZL.out; omega)).mono ?_
             rintro e w6 hp6
             obtain rfl := hp6.1
             obtain ⟨_, v6, h6a, h6b, h6c⟩ := hp6
             have HB6 := Lib.hid (HB5.out.keeps h6b HPN.out)
             have HW6 := Lib.hid h6a
             have HKW6 : Hid (Keeps (Its g v0) w w6 ∧ At w v0 v6) := Lib.hid ⟨its_next HKW5.out.1 HKW5.out.2 h6b, at_next HKW5.out.1.size HKW5.out.2 h6c⟩
             clear h6a h6b h6c HB5)
          | ((with_reducible refine ld_row HB6.out Try.underlying65 HVI.out ?_ ?_); rfl)
          | (go_at_call 36
             refine (hput_ok g base v6 (zq ++ [(d : Int)]) l V w6 HW6.out (by have := HZL.out; rw [List.length_append, List.length_singleton]; omega) HT2.out.len HV.out HT2.out.fine HT2.out.sum).mono ?_
             rintro e w7 ⟨rfl, hh7⟩
             have HH7 := Lib.hid (hav_trans HKW6.out hh7)
             rw [← HZE.out] at HH7
             clear hh7))
        exact ⟨⟨d + 1, by go_num, HD.out, HH7⟩, by have := HD.out; simp [intOf]; omega⟩
    · obtain rfl : d = 256 := by omega
      have hge : ¬ ((256 : Int) < 256) := by omega
      have HE : Hid (Hav base g v0 (ys ++ tbA tb) w wr) := by
        show Hav _ _ _ _ _ _
        rw [tbA, HNN.out]
        exact HH.out
      clear HH hlt hd
      go_wp2_with fail
      go_end0
      exact ⟨rfl, HE.out⟩
end Go.Proofs.Ytnanmenoemajfaa.Cq

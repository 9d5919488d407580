/- The sum of bytes in as many parts as one likes, by a table that lies in memory; of a nil one. -/
import Derived.Test.YtbehchibgkgpbaaCrcTab
namespace Go.Proofs.Ytbehchibgkgpbaa.Cs
open Go.RowKit Go.Proofs.Ytbehchibgkgpbaa.Gen Go.Proofs.Ytbehchibgkgpbaa.Cp Go.Proofs.Ytbehchibgkgpbaa.Ct

/-- Bytes as numbers. -/
def nat (xs : List Int) : List Nat := xs.map Int.toNat
theorem nat_len (xs : List Int) : (nat xs).length = xs.length := by simp [nat]
theorem nat_app (xs ys : List Int) : nat (xs ++ ys) = nat xs ++ nat ys := by simp [nat]
def Byt (xs : List Int) : Prop := ∀ x ∈ xs, 0 ≤ x ∧ x < 256
theorem Byt.take {xs : List Int} (h : Byt xs) (k : Nat) : Byt (xs.take k) := fun x hx => h x (List.mem_of_mem_take hx)
theorem Byt.drop {xs : List Int} (h : Byt xs) (k : Nat) : Byt (xs.drop k) := fun x hx => h x (List.mem_of_mem_drop hx)
theorem nat_byte {xs : List Int} (h : Byt xs) : ∀ x ∈ nat xs, x < 256 := by
  intro x hx
  obtain ⟨y, hy, rfl⟩ := List.mem_map.1 hx
  have := h y hy
  omega
theorem bitsOf_app (xs ys : List Nat) : bitsOf (xs ++ ys) = bitsOf xs ++ bitsOf ys := by simp [bitsOf]
theorem low_byte (c x : Nat) (hx : x < 256) : (c ^^^ x) % 256 = c % 256 ^^^ x := by
  have := Nat.xor_mod_two_pow (a := c) (b := x) (n := 8)
  rw [show (2 : Nat) ^ 8 = 256 from rfl, Nat.mod_eq_of_lt hx] at this
  exact this
theorem xor8 {c x : Nat} (hx : x < 256) : bits .xor .u8 ((c : Int) % 256) (x : Int) = ((c % 256 ^^^ x : Nat) : Int) := by
  have := u8_xor_nat (c % 256) x (by omega) hx
  rw [← this]
  simp
theorem q_lt {c x : Nat} (hx : x < 256) : c % 256 ^^^ x < 256 := Nat.xor_lt_two_pow (n := 8) (Nat.mod_lt _ (by decide)) hx
theorem one_byte {c x : Nat} (hc : c < 4294967296) (hx : x < 256) : bits .xor .u32 ((c : Int) / 256) ((it 8 (c % 256 ^^^ x) : Nat) : Int) = ((feed c (lows x 8) : Nat) : Int) := by
  have hl := it_lt 8 (c := c % 256 ^^^ x) (by have := q_lt (c := c) hx; omega)
  have := u32_xor_nat (c / 256) (it 8 (c % 256 ^^^ x)) (by omega) hl
  rw [byte_step c x hx, byte_high c x hx, low_byte c x hx, Nat.xor_comm (it 8 _), ← this]
  simp
theorem feed_more {xs : List Int} {e : Nat} (c : Nat) (he : e < xs.length) : feed c (bitsOf (nat (xs.take (e + 1)))) = feed (feed c (bitsOf (nat (xs.take e)))) (lows (xs.getD e 0).toNat 8) := by
  rw [List.take_add_one, List.getElem?_eq_getElem he, nat_app, bitsOf_app, feed_app]
  simp [nat, bitsOf, List.getD_eq_getElem?_getD, List.getElem?_eq_getElem he]
theorem feed_byte {xs : List Int} {c : Nat} (hc : c < 4294967296) : feed c (bitsOf (nat xs)) < 4294967296 := feed_lt _ (bitsOf_bit _) hc

/-- A part: where it lies, its room, its bytes. -/
abbrev Part := Option Addr × Nat × List Int
def pv (q : Part) : Value := .slice q.1 q.2.2.length q.2.1
def flat (ps : List Part) : List Int := ps.flatMap (·.2.2)
theorem flat_more {ps : List Part} {d : Nat} (h : d < ps.length) : flat (ps.take (d + 1)) = flat (ps.take d) ++ ps[d].2.2 := by
  rw [List.take_add_one, List.getElem?_eq_getElem h]
  unfold flat
  rw [List.flatMap_append]
  simp only [Option.toList_some, List.flatMap_cons, List.flatMap_nil, List.append_nil]
/-- The parts lie at block p, each as it says. -/
structure Parts (w : World) (p : Nat) (ps : List Part) : Prop where
  blk : Blk w p 22 (ps.map pv).toArray
  lies : ∀ q ∈ ps, Lies w q.1 q.2.2
  byt : ∀ q ∈ ps, Byt q.2.2
  len : ∀ q ∈ ps, q.2.2.length ≤ 1000000
  few : ps.length ≤ 1000
theorem sum_none (v : Value) (w : World) : Calls Try.prog 11 #[.pointer none, v] w fun r w' => r = .returned (.int .u32 0) ∧ w' = w := by
  go_enter Try.func11, Try.ntmps11
  go_wp2
  go_ret
  exact ⟨rfl, rfl⟩
theorem sum_ (g p m : Nat) (ps : List Part) (w : World) (hg : Blk w g 37 (tabAt 256)) (hp : Parts w p ps) (hm : ps.length = m) :
    Calls Try.prog 11 #[.pointer (some ⟨g, 0, none⟩), .slice (some ⟨p, 0, none⟩) m m] w fun r w' => r = .returned (.int .u32 ((sumOf (nat (flat ps)) : Nat) : Int)) ∧ w' = w := by
  have HG := Lib.hid hg
  have HP := Lib.hid hp
  have HM := Lib.hid hm
  have hm0 : m ≤ 1000 := by have := hp.few; omega
  clear hg hp hm
  go_enter Try.func11, Try.ntmps11
  go_wp2
  go_loopw [5, 14] (fun nv i wr => ∃ d : Nat, d ≤ m ∧ nv = .int .u32 ((feed Cp.start (bitsOf (nat (flat (ps.take d)))) : Nat) : Int) ∧ i = .int .i64 (d : Int) ∧ wr = w) (fun _ i _ => m - (intOf i).toNat)
  case atStart => exact ⟨0, by omega, rfl, rfl, rfl⟩
  case round =>
    obtain ⟨d, hd, rfl, rfl, rfl⟩ := hrel
    have hcl : feed Cp.start (bitsOf (nat (flat (ps.take d)))) < 4294967296 := feed_byte (by decide)
    obtain ⟨c, hC⟩ : ∃ c, c = feed Cp.start (bitsOf (nat (flat (ps.take d)))) := ⟨_, rfl⟩
    rw [← hC] at hcl ⊢
    have HC := Lib.hid hC
    clear hC
    by_cases hlt : d < m
    · obtain ⟨A, cap, xs, k, hq, hk, hl, hby, hkl, hnext⟩ : ∃ (A : Option Addr) (cap : Nat) (xs : List Int) (k : Nat), wr.cell? ⟨p, d, none⟩ = some (.slice A k cap) ∧ xs.length = k ∧ Lies wr A xs ∧ Byt xs ∧ k ≤ 1000000 ∧
          feed Cp.start (bitsOf (nat (flat (ps.take (d + 1))))) = feed c (bitsOf (nat xs)) := by
        have hdl : d < ps.length := by have := HM.out; omega
        have hmem : ps[d] ∈ ps := List.getElem_mem hdl
        refine ⟨ps[d].1, ps[d].2.1, ps[d].2.2, _, ?_, rfl, HP.out.lies _ hmem, HP.out.byt _ hmem, HP.out.len _ hmem, ?_⟩
        · rw [HP.out.blk.cell d]
          simp [hdl, pv]
        · rw [HC.out, ← feed_app, ← bitsOf_app, ← nat_app, flat_more hdl]
      have HL := Lib.hid hl
      have HBY := Lib.hid hby
      have HX := Lib.hid hk
      have HN := Lib.hid hnext
      clear hl hby hk hnext
      go_wp2
      go_loopw [5, 20] (fun nv i wx => ∃ e : Nat, e ≤ k ∧ nv = .int .u32 ((feed c (bitsOf (nat (xs.take e))) : Nat) : Int) ∧ i = .int .i64 (e : Int) ∧ wx = wr) (fun _ i _ => k - (intOf i).toNat)
      case atStart => exact ⟨0, by omega, rfl, rfl, rfl⟩
      case round =>
        obtain ⟨e, he, rfl, rfl, rfl⟩ := hrel
        have hfl : feed c (bitsOf (nat (xs.take e))) < 4294967296 := feed_byte hcl
        by_cases hle : e < k
        · obtain ⟨b, o, x, rfl, hcx, hx, hnx⟩ : ∃ b o x, A = some ⟨b, o, none⟩ ∧ wr.cell? ⟨b, o + e, none⟩ = some (.int .u8 ((x : Nat) : Int)) ∧ x < 256 ∧ feed c (bitsOf (nat (xs.take (e + 1)))) = feed (feed c (bitsOf (nat (xs.take e)))) (lows x 8) := by
            have hkx := HX.out
            rcases HL.out with h | ⟨b, o, h, _, hcl⟩
            · rw [h] at hkx; simp at hkx; omega
            · have hy := HBY.out (xs.getD e 0) (by rw [List.getD_eq_getElem?_getD, List.getElem?_eq_getElem (by omega)]; simp)
              refine ⟨b, o, (xs.getD e 0).toNat, h, ?_, by omega, feed_more c (by omega)⟩
              rw [show (((xs.getD e 0).toNat : Nat) : Int) = xs.getD e 0 by omega]
              exact hcl e (by omega)
          obtain ⟨n, hn⟩ : ∃ n, n = feed c (bitsOf (nat (xs.take e))) := ⟨_, rfl⟩
          rw [← hn] at hfl hnx ⊢
          obtain ⟨q, hq2⟩ : ∃ q, q = n % 256 ^^^ x := ⟨_, rfl⟩
          have hql : q < 256 := by rw [hq2]; exact q_lt hx
          have hxo := xor8 (c := n) hx
          rw [← hq2] at hxo
          have hct : wr.cell? ⟨g, q, none⟩ = some (.int .u32 ((it 8 q : Nat) : Int)) := by
            rw [HG.out.cell q, tabAt_get hql, if_pos hql]
          have HO := Lib.hid (one_byte hfl hx)
          rw [← hq2] at HO
          have HNX := Lib.hid hnx
          have hq0 : (0 : Int) ≤ (q : Int) := by omega
          have hq1 : (q : Int) < 256 := by omega
          have hx0 : (0 : Int) ≤ (x : Int) := by omega
          have hx1 : (x : Int) < 256 := by omega
          clear hn hnx hq2
          generalize it 8 q = T at *
          go_wp2
          exact ⟨⟨e + 1, by omega, by rw [HNX.out, ← HO.out], by go_num, trivial⟩, by simp [intOf]; omega⟩
        · obtain rfl : e = k := by omega
          go_wp2
          have hkx := HX.out
          refine ⟨⟨d + 1, by omega, ?_, by go_num, trivial⟩, by simp [intOf]; omega⟩
          rw [HN.out, List.take_of_length_le (by omega)]
    · obtain rfl : d = m := by omega
      have HS : Hid (bits .xor .u32 IntKind.u32.max (c : Int) = ((sumOf (nat (flat ps)) : Nat) : Int)) := by
        show bits .xor .u32 IntKind.u32.max (c : Int) = ((sumOf (nat (flat ps)) : Nat) : Int)
        have hc := HC.out
        rw [List.take_of_length_le (by have := HM.out; omega)] at hc
        unfold sumOf
        rw [← hc]
        have := u32_xor_nat Cp.start c (by decide) hcl
        rw [Nat.xor_comm, ← this]
        rfl
      go_wp2
      go_ret
      exact ⟨by rw [← HS.out]; rfl, rfl⟩
end Go.Proofs.Ytbehchibgkgpbaa.Cs

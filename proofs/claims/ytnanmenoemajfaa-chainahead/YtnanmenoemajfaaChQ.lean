/- Bytes in four quarters; the byte ahead of a place (chain.quarters, chain.ahead). -/
import Derived.Test.YtnanmenoemajfaaChAll
import Derived.Test.YtnanmenoemajfaaAnyApp
import Derived.RegionTactic
import Derived.Outline
import Derived.BigQuiet
import Derived.Deep.CutRange
namespace Go.Proofs.Ytnanmenoemajfaa.Cq
open Go.RowKit Go.Proofs.Ytnanmenoemajfaa.Gen Go.Proofs.Ytnanmenoemajfaa.Wr Go.Proofs.Ytnanmenoemajfaa.It Go.Proofs.Ytnanmenoemajfaa.Ch

/-- A quarter's address; the quarter. -/
def qad (A : Option Addr) (n c : Nat) : Nat → Option Addr
  | 0 => A
  | i + 1 => cutAt A c (qo n (i + 1))
def qsl (A : Option Addr) (n c i : Nat) : Value := .slice (qad A n c i) (ql n i) (c - qo n i)
def qs (A : Option Addr) (n c : Nat) : Array Value := #[qsl A n c 0, qsl A n c 1, qsl A n c 2, qsl A n c 3]
theorem qs_get {A : Option Addr} {n c i : Nat} (h : i < 4) : (qs A n c)[i]? = some (qsl A n c i) := by
  rcases q4 h with rfl | rfl | rfl | rfl <;> rfl
theorem qs_size (A : Option Addr) (n c : Nat) : (qs A n c).size = 4 := rfl
theorem qs_one (A : Option Addr) (n c : Nat) : (qs A n c).all (·.oneCell') = true := by simp [qs, qsl, Value.oneCell']
theorem q_info : (Try.prog.info? 79).map (·.size) = some 4 := by kernel_rfl
theorem qs_info (A : Option Addr) (n c : Nat) : (Try.prog.info? 79).map (·.size) = some (qs A n c).size := q_info
/-- A quarter's bytes. -/
def qb (xs : List Int) (i : Nat) : List Int := (xs.drop (qo xs.length i)).take (ql xs.length i)
theorem qb_lies {w : World} {A : Option Addr} {xs : List Int} {c i : Nat} (h : Lies w A xs) (hc : xs.length ≤ c) (hi : i < 4) : Lies w (qad A xs.length c i) (qb xs i) := by
  have he := ql_end xs.length hi
  cases i with
  | zero =>
    have := Ap.lies_take h (ql xs.length 0)
    exact this
  | succ i => exact h.cutAt c _ _ hc he
theorem qb_len (xs : List Int) {i : Nat} (hi : i < 4) : (qb xs i).length = ql xs.length i := by
  have he := ql_end xs.length hi
  simp [qb]
  omega
theorem qb_get {xs : List Int} {i d : Nat} (hd : d < ql xs.length i) : (qb xs i).getD d 0 = xs.getD (qo xs.length i + d) 0 := by
  rw [qb, List.getD, List.getElem?_take_of_lt hd, List.getElem?_drop]
  rfl
theorem size_u8 (w : World) : (sizeOf 5).run Try.prog w = .ok 1 w := by simp [go_sem]
theorem run_cut_to (A : Option Addr) (n c m : Nat) (kh : IntKind) (hk : m ≤ c) (w : World) :
    (Instr.slice 22 (.slice A n c) none (some (.int kh (m : Int))) none).run Try.prog w = .ok (.slice A m c) w := by
  have ht : Try.prog.underlying 22 = some (.slice 5) := Try.underlying22
  have hel : Try.prog.elem 22 = 5 := by simp [Program.elem, ht]
  rw [run_slice_h (P := Try.prog) w 22 A n c (by rw [hel]; exact ht) kh (m : Int) (by omega) (by omega), hel, size_u8]
  simp [Result.andThen, sliced]
  intro _
  cases A <;> simp [Addr.add]
theorem run_cut2 (A : Option Addr) (n c k h m : Nat) (kl kh : IntKind) (hm : k + m = h) (hk : h ≤ c) (w : World) :
    (Instr.slice 22 (.slice A n c) (some (.int kl (k : Int))) (some (.int kh (h : Int))) none).run Try.prog w = .ok (.slice (cutAt A c k) m (c - k)) w := by
  subst hm
  have := run_cut (P := Try.prog) 22 5 A n c k m kl kh Try.underlying22 size_u8 (by omega) w
  rw [show ((k + m : Nat) : Int) = (k : Int) + (m : Int) by omega]
  exact this
theorem ret_q {fn : Func} {j : Nat} (h : fn.results = #[.cell j 79]) (tmps : Array Value) (w : World) (g : Nat) (v : Array Value) (hi : (Try.prog.info? 79).map (·.size) = some v.size)
    (hp : tmps.getD j undef = .pointer (some ⟨g, 0, none⟩)) (hb : Blk w g 79 v) : (results fn tmps).run Try.prog w = .ok (.agg v) w :=
  results_cell_row h tmps w g 79 v (0, 0) _ hp hb Try.underlying79 rfl hi

set_option maxHeartbeats 1000000 in
set_option maxRecDepth 100000 in
theorem quarters_ (A : Option Addr) (n c : Nat) (w : World) (hn : n ≤ c) (hl : n ≤ 1000000) : Calls Try.prog 31 #[.slice A n c] w fun r w' => r = .returned (.agg (qs A n c)) ∧ Keeps (fun _ => False) w w' := by
  obtain ⟨f, hf⟩ : ∃ f, n / 4 = f := ⟨_, rfl⟩
  obtain ⟨h, hh⟩ : ∃ h, n / 2 = h := ⟨_, rfl⟩
  obtain ⟨t, ht⟩ : ∃ t, h + f = t := ⟨_, rfl⟩
  have h0 : (0 : Int) ≤ (n : Int) := by omega
  have d4 : (n : Int) / 4 = (f : Int) := by omega
  have d2 : (n : Int) / 2 = (h : Int) := by omega
  have d4t : Int.tdiv (n : Int) 4 = (f : Int) := by rw [Int.tdiv_eq_ediv_of_nonneg h0]; exact d4
  have d2t : Int.tdiv (n : Int) 2 = (h : Int) := by rw [Int.tdiv_eq_ediv_of_nonneg h0]; exact d2
  have ds : (h : Int) + (f : Int) = (t : Int) := by omega
  have w0 : IntKind.i64.wrap (f : Int) = (f : Int) := IntWalk.i64_in _ (by omega)
  have w1 : IntKind.i64.wrap (h : Int) = (h : Int) := IntWalk.i64_in _ (by omega)
  have w2 : IntKind.i64.wrap (t : Int) = (t : Int) := IntWalk.i64_in _ (by omega)
  have s0 := run_cut_to A n c f .i64 (by omega)
  have s1 := run_cut2 A n c f h (h - f) .i64 .i64 (by omega) (by omega)
  have s2 := run_cut2 A n c h t (t - h) .i64 .i64 (by omega) (by omega)
  have s3 := run_cut_from (P := Try.prog) 22 5 A n c t .i64 Try.underlying22 size_u8 (by omega)
  have HQ : Hid (qs A n c = #[.slice A f c, .slice (cutAt A c f) (h - f) (c - f), .slice (cutAt A c h) (t - h) (c - h), .slice (cutAt A c t) (n - t) (c - t)]) := by
    show _ = _
    simp only [qs, qsl, qad, ql, qo, hf, hh, ht, Nat.sub_zero]
  generalize cutAt A c f = A1 at s1 HQ
  generalize cutAt A c h = A2 at s2 HQ
  generalize cutAt A c t = A3 at s3 HQ
  generalize h - f = l1 at s1 HQ
  generalize t - h = l2 at s2 HQ
  generalize n - t = l3 at s3 HQ
  generalize c - f = c1 at s1 HQ
  generalize c - h = c2 at s2 HQ
  generalize c - t = c3 at s3 HQ
  clear hf hh ht
  go_enter Try.func31, Try.ntmps31
  go_upto_region 3 with fail
  go_region
  go_wp2_with fail
  refine bodyPost_ret (v := .agg (qs A n c)) ?_ rfl ⟨rfl, ((Keeps.refl _ _).alloc _).drewN 1⟩
  rw [HQ.out]
  exact ret_q rfl _ _ w.heap.size _ (by rw [← HQ.out]; exact qs_info A n c) rfl (Blk.drewN (Blk.new w 79 _) 1)
theorem ahead_ (A : Option Addr) (n c d : Nat) (xs : List Int) (v : Int) (w : World) (hx : xs.length = n) (hl : Lies w A xs) (hd : d < n) (hn : n ≤ 1000000) (hv : (if d = 0 then 0 else xs.getD (d - 1) 0) = v) :
    Calls Try.prog 32 #[.slice A n c, .int .i64 (d : Int)] w fun r w' => r = .returned (.int .u8 v) ∧ w' = w := by
  by_cases h0 : d = 0
  · subst h0
    simp at hv
    subst hv
    clear hl hx
    go_enter Try.func32, Try.ntmps32
    go_wp2
    go_ret
    exact ⟨rfl, rfl⟩
  · rw [if_neg h0] at hv
    obtain ⟨j, rfl⟩ : ∃ j, d = j + 1 := ⟨d - 1, by omega⟩
    rw [Nat.add_sub_cancel] at hv
    rcases hl with h1 | ⟨b, o, rfl, _, hc⟩
    · rw [h1] at hx; simp at hx; omega
    · have hcj := hc j (by omega)
      rw [hv] at hcj
      have e0 : ¬ (((j + 1 : Nat) : Int) = 0) := by omega
      have e1 : ((j + 1 : Nat) : Int) - 1 = (j : Int) := by omega
      have e2 : (0 : Int) ≤ (j : Int) := by omega
      have e3 : (j : Int) < (n : Int) := by omega
      have e4 : IntKind.i64.wrap (j : Int) = (j : Int) := IntWalk.i64_in _ (by omega)
      obtain ⟨D, hD⟩ : ∃ D, ((j + 1 : Nat) : Int) = D := ⟨_, rfl⟩
      rw [hD] at e0 e1 ⊢
      clear hc hv hx hd h0 hn hD
      go_enter Try.func32, Try.ntmps32
      go_wp2
      go_ret
      exact ⟨rfl, rfl⟩
end Go.Proofs.Ytnanmenoemajfaa.Cq

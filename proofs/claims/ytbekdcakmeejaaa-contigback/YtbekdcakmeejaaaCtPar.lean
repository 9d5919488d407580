/- A text of contigs (contig's Parse): any bytes: contigs whose text they are, or what is wrong. -/
import Derived.Test.YtbekdcakmeejaaaCtChk
import Derived.Test.YtbekdcakmeejaaaCtCut
import Derived.Deep.AppendLies
import Derived.Deep.RegionLaw
import Derived.Deep.CutBlock
import Derived.Outline
namespace Go.Proofs.Ytbekdcakmeejaaa.Ct
open Go.RowKit Go.Proofs.Ytbekdcakmeejaaa.Gen Go.Proofs.Ytbekdcakmeejaaa.Ca Go.Proofs.Ytbekdcakmeejaaa.Cl

theorem con_info : (Try.prog.info? 33).map (fun i => (i.zero, i.size, i.bytes)) = some (some (.agg #[.string ⟨#[]⟩, .slice none 0 0]), 2, 40) := by kernel_rfl
/-- Contigs in a row of one's own are contigs in memory. -/
theorem isRef_own {w : World} {base n c : Nat} {A : Option Addr} {es : List Ct} (h : w.ownsRow base 33 2 (.slice A n c) n (cvs es)) (hl : es.length = n) (hn : n ≤ 3000000) (hg : ∀ e ∈ es, Good w e) : IsRef w A n es := by
  refine ⟨hl, hn, ?_, hg⟩
  rcases h.2 with ⟨_, h0⟩ | ⟨g, cap, cur, hv, _, hh, _⟩
  · left
    exact List.eq_nil_of_length_eq_zero (by omega)
  · injection hv with hA
    subst hA
    refine .inr ⟨g, 0, rfl, (Array.getElem?_eq_some_iff.1 hh).1, fun j hj => ?_⟩
    have := h.cells (g := g) rfl j _ (List.getElem?_eq_getElem hj)
    rw [add_none] at this
    rw [this, List.getElem?_eq_getElem hj]
theorem con_news (w : World) (S v : Value) : ∀ j u, [S, v][j]? = some u → (w.alloc (.cells #[S, v] 33)).cell? ((⟨w.heap.size, 0, none⟩ : Addr).add j) = some u := by
  intro j u hu
  rw [add_none, (Blk.new w 33 #[S, v]).cell]
  simpa using hu
/-- What Parse answers. -/
def ParseR (xs : List Int) (w : World) (r : Ending) (w' : World) : Prop :=
  Keeps (fun _ => False) w w' ∧ match parse xs with
  | .error e => r = .returned (.tuple #[.agg #[.slice none 0 0], .int .i64 e])
  | .ok ps => ∃ A n c es, r = .returned (.tuple #[.agg #[.slice A n c], .int .i64 0]) ∧ IsRef w' A n es ∧ pairs es = ps
theorem parseR_err {xs : List Int} {w w' : World} {e : Int} (h : parse xs = .error e) (k : Keeps (fun _ => False) w w') : ParseR xs w (.returned (.tuple #[.agg #[.slice none 0 0], .int .i64 e])) w' := by
  refine ⟨k, ?_⟩
  rw [h]
theorem parseR_ok {xs : List Int} {w w' : World} {A : Option Addr} {n c : Nat} {es : List Ct} (h : parse xs = .ok (pairs es)) (hr : IsRef w' A n es) (k : Keeps (fun _ => False) w w') : ParseR xs w (.returned (.tuple #[.agg #[.slice A n c], .int .i64 0])) w' := by
  refine ⟨k, ?_⟩
  rw [h]
  exact ⟨A, n, c, es, rfl, hr, rfl⟩
theorem forms_nil (g : Nat) : forms (g + 1) [] = some [] := rfl
theorem forms_none {g : Nat} {xs : List Int} (h : xs ≠ []) (hl : lines xs = none) : forms (g + 1) xs = none := by rw [forms, if_neg h, hl]
theorem forms_some {g : Nat} {xs a b t : List Int} (h : xs ≠ []) (hl : lines xs = some (a, b, t)) : forms (g + 1) xs = (forms g t).map ((a, b) :: ·) := by rw [forms, if_neg h, hl]
/-- While lines are taken: what is left, the contigs so far. -/
structure PaS (xs : List Int) (n : Nat) (rest : List Int) (es : List Ct) (A : Option Addr) (m : Nat) (B : Option Addr) (k cb : Nat) (w wr : World) : Prop where
  lies : Lies w A rest
  byt : Byt rest
  len : rest.length = m
  res : Blk wr w.heap.size 29 #[.slice none 0 0]
  ref : Blk wr (w.heap.size + 1) 29 #[.slice B k cb]
  own : wr.ownsRow (w.heap.size + 2) 33 2 (.slice B k cb) k (cvs es)
  el : es.length = k
  good : ∀ e ∈ es, Good wr e ∧ wr.ownsRow w.heap.size 5 1 e.v e.sq.length (bv e.sq)
  room : k + m ≤ n
  keeps : Keeps (fun _ => False) w wr
  base_ : w.heap.size + 2 ≤ wr.heap.size
  form : ∃ f, rest.length < f ∧ forms (n + 1) xs = (forms f rest).map (pairs es ++ ·)
theorem PaS.more {xs rest : List Int} {n m k cb : Nat} {es : List Ct} {A B : Option Addr} {w wr w1 : World} (h : PaS xs n rest es A m B k cb w wr) (hk : Keeps (fun _ => False) wr w1) : PaS xs n rest es A m B k cb w w1 :=
  ⟨h.lies, h.byt, h.len, h.res.keeps hk id, h.ref.keeps hk id, own_keeps h.own hk (fun _ _ => id), h.el, fun e he => ⟨(h.good e he).1.more hk (fun _ _ _ => id), own_keeps (h.good e he).2 hk (fun _ _ => id)⟩, h.room, h.keeps.trans hk, Nat.le_trans h.base_ hk.size, h.form⟩
theorem own_apart {w : World} {b1 b2 s1 s2 n1 n2 : Nat} {e1 e2 : TypeId} {v1 v2 : Value} {xs ys : List Value} (h : w.ownsRow b1 e1 s1 v1 n1 xs) (k : w.ownsRow b2 e2 s2 v2 n2 ys) (hne : e1 ≠ e2) {b : Nat} (hb : v1.ownBlock = some b) : v2.ownBlock ≠ some b := by
  rcases k.2 with ⟨rfl, _⟩ | ⟨g, cap, cur, rfl, _, hh, _⟩
  · simp [Value.ownBlock]
  · intro he
    obtain rfl : g = b := by simpa [Value.ownBlock] using he
    exact own_ne h (show Blk w g e2 cur from hh) hne hb
theorem PaS.put {xs rest a b t : List Int} {n m k cb cb' lt : Nat} {es : List Ct} {A A3 B B' : Option Addr} {w w3 w6 : World} (h : PaS xs n rest es A m B k cb w w3) (hne : 0 < m) (E : Ct)
    (hgood : Good w3 E) (hown : w3.ownsRow w.heap.size 5 1 E.v E.sq.length (bv E.sq)) (hl3 : Lies w A3 t) (hlt : t.length = lt) (bt : Byt t) (hm : k + 1 + lt ≤ n)
    (ho : w6.ownsRow (w.heap.size + 2) 33 2 (.slice B' (k + 1) cb') (k + 1) (cvs (es ++ [E]))) (hg : w3.grownBy w6 (Value.slice B k cb).ownBlock)
    (hf : ∃ f, t.length < f ∧ forms (n + 1) xs = (forms f t).map (pairs (es ++ [E]) ++ ·)) :
    PaS xs n t (es ++ [E]) A3 lt B' (k + 1) cb' w (w6.setCell ⟨w.heap.size + 1, 0, none⟩ (.slice B' (k + 1) cb')) := by
  have r6 : Blk w6 (w.heap.size + 1) 29 #[.slice B k cb] := h.ref.grown hg (own_ne h.own h.ref (by decide))
  have k6 : Keeps (fun j => (Value.slice B k cb).ownBlock = some j) w3 w6 := (Keeps.refl _ _).grown hg (fun j hj => .inl hj)
  have k7 : Keeps (fun j => j = w.heap.size + 1) w6 (w6.setCell ⟨w.heap.size + 1, 0, none⟩ (.slice B' (k + 1) cb')) := (Keeps.refl _ _).setOwn _ _
  have hu : ∀ (e : Ct), Good w3 e → w3.ownsRow w.heap.size 5 1 e.v e.sq.length (bv e.sq) → Good (w6.setCell ⟨w.heap.size + 1, 0, none⟩ (.slice B' (k + 1) cb')) e ∧ (w6.setCell ⟨w.heap.size + 1, 0, none⟩ (.slice B' (k + 1) cb')).ownsRow w.heap.size 5 1 e.v e.sq.length (bv e.sq) := by
    intro e hge hoe
    have o6 := own_keeps hoe k6 (fun b hb => own_apart hoe h.own (by decide) hb)
    have o7 := own_keeps o6 k7 (fun b hb e => own_ne o6 r6 (by decide) (by rw [hb, e]))
    exact ⟨⟨Lies.of_own o7, hge.bs, hge.bn, hge.ls, hge.ln⟩, o7⟩
  refine ⟨hl3, bt, hlt, ?_, r6.setCell 0 _, own_keeps ho k7 (fun b hb e => own_ne ho r6 (by decide) (by rw [hb, e])), by simp [h.el], ?_, hm, ?_, ?_, hf⟩
  · exact (h.res.keeps k6 (fun e => own_ne h.own h.res (by decide) e)).setFar (by simp) _
  · intro e he
    rcases List.mem_append.1 he with h1 | h1
    · exact hu e (h.good e h1).1 (h.good e h1).2
    · simp at h1
      subst h1
      exact hu e hgood hown
  · exact (h.keeps.grown hg (fun j hj => .inr (by have := (h.own.lt j hj).1; omega))).setCell (.inr (by simp)) _
  · have := h.base_
    have := hg.size
    simp [World.setCell]
    omega
theorem PaS.none_ {xs rest : List Int} {n m k cb : Nat} {es : List Ct} {A B : Option Addr} {w wr : World} (h : PaS xs n rest es A m B k cb w wr) (hx : xs.length = n) (hn : n ≤ 2097152) (hne : 0 < m) (hl : lines rest = none) : parse xs = .error 4 := by
  obtain ⟨f, hf, he⟩ := h.form
  have hr : rest ≠ [] := fun e => by have := h.len; rw [e] at this; simp at this; omega
  obtain ⟨g, rfl⟩ : ∃ g, f = g + 1 := ⟨f - 1, by omega⟩
  rw [forms_none hr hl] at he
  rw [parse, if_neg (by omega), hx, he]
  rfl
theorem PaS.end_ {xs rest : List Int} {n m k cb : Nat} {es : List Ct} {A B : Option Addr} {w wr : World} (h : PaS xs n rest es A m B k cb w wr) (hx : xs.length = n) (hn : n ≤ 2097152) (hne : m = 0) : parse xs = if chk (pairs es) = 0 then .ok (pairs es) else .error (chk (pairs es)) := by
  obtain ⟨f, hf, he⟩ := h.form
  have hr : rest = [] := List.eq_nil_of_length_eq_zero (by rw [h.len, hne])
  obtain ⟨g, rfl⟩ : ∃ g, f = g + 1 := ⟨f - 1, by omega⟩
  rw [hr, forms_nil] at he
  rw [parse, if_neg (by omega), hx, he]
  simp
theorem PaS.form_next {xs rest a b t : List Int} {n m k cb : Nat} {es : List Ct} {A B : Option Addr} {w wr : World} (h : PaS xs n rest es A m B k cb w wr) (hne : 0 < m) (hl : lines rest = some (a, b, t)) (E : Ct) (hE : E.p = (a, b)) :
    ∃ f, t.length < f ∧ forms (n + 1) xs = (forms f t).map (pairs (es ++ [E]) ++ ·) := by
  obtain ⟨f, hf, he⟩ := h.form
  have hr : rest ≠ [] := fun e => by have := h.len; rw [e] at this; simp at this; omega
  obtain ⟨g, rfl⟩ : ∃ g, f = g + 1 := ⟨f - 1, by omega⟩
  rw [forms_some hr hl] at he
  refine ⟨g, by have := lines_short hl; omega, ?_⟩
  rw [he]
  simp only [Option.map_map]
  congr 1
  funext ys
  simp [pairs, hE]
theorem lines_len {xs a b t : List Int} (h : lines xs = some (a, b, t)) : xs.length = a.length + b.length + 3 + t.length := by
  have := congrArg List.length (lines_eq h).1
  rw [List.length_append, line_len] at this
  exact this
theorem lines_byt {xs a b t : List Int} (h : lines xs = some (a, b, t)) (hb : Byt xs) : Byt a ∧ Byt b ∧ Byt t := by
  have e := (lines_eq h).1
  rw [e] at hb
  simp only [line] at hb
  exact ⟨fun x hx => hb x (by simp [hx]), fun x hx => hb x (by simp [hx]), fun x hx => hb x (by simp [hx])⟩

set_option maxHeartbeats 16000000 in
set_option maxRecDepth 100000 in
theorem parse_ (A : Option Addr) (n c : Nat) (xs : List Int) (w : World) (hx : xs.length = n) (hnc : n ≤ c) (hl : Lies w A xs) (hb : Byt xs) :
    Calls Try.prog 10 #[.slice A n c] w (ParseR xs w) := by
  by_cases hbig : 2097152 < n
  · have d : decide ((2097152 : Int) < (n : Int)) = true := by simp; omega
    have HP : Hid (parse xs = .error 6) := by show _ = _; rw [parse, if_pos (by omega)]
    clear hl hb hx
    go_enter Try.func10, Try.ntmps10
    go_wp2
    refine bodyPost_ret (v := .tuple #[.agg #[.slice none 0 0], .int .i64 6]) (by simp [results, Try.results10, go_sem]) rfl ?_
    refine parseR_err HP.out ?_
    first | exact ((Keeps.refl _ _).alloc _) | exact ((Keeps.refl _ _).alloc _).setCell (.inr (by simp)) _
  · have d : decide ((2097152 : Int) < (n : Int)) = false := by simp; omega
    have hn : n ≤ 2097152 := by omega
    have HX := Lib.hid hx
    obtain ⟨i0, hi0, hz0, hz1, hz2⟩ := info_parts con_info
    have HS : Hid (PaS xs n xs [] A n none 0 0 w ((w.alloc (.cells #[.slice none 0 0] 29)).alloc (.cells #[.slice none 0 0] 29))) := by
      have k1 := (Keeps.refl (fun _ => False) w).alloc (.cells #[.slice none 0 0] 29)
      have k2 := k1.alloc (.cells #[.slice none 0 0] 29)
      have b2 := Blk.new (w.alloc (.cells #[.slice none 0 0] 29)) 29 #[.slice none 0 0]
      rw [show (w.alloc (.cells #[.slice none 0 0] 29)).heap.size = w.heap.size + 1 by simp] at b2
      refine ⟨hl, hb, hx, (Blk.new w 29 #[.slice none 0 0]).alloc _, b2, World.ownsRow_nil _ _ _ _, rfl, fun e he => (by cases he), by omega, k2, by simp, ⟨n + 1, by omega, ?_⟩⟩
      cases forms (n + 1) xs <;> rfl
    clear hl hb hx hbig
    go_enter Try.func10, Try.ntmps10
    go_wp2
    go_loopw [0, 5, 6, 7, 8] (fun bv _ _ _ _ wr => ∃ (rest : List Int) (es : List Ct) (A' : Option Addr) (m c' : Nat) (B : Option Addr) (k cb : Nat), bv = .slice A' m c' ∧ m ≤ c' ∧ Hid (PaS xs n rest es A' m B k cb w wr)) (fun bv _ _ _ _ _ => match bv with | .slice _ m _ => m | _ => 0)
    case atStart => exact ⟨xs, [], A, n, c, none, 0, 0, rfl, hnc, HS⟩
    case round =>
      clear HS
      obtain ⟨rest, es, A', m, c', B, k, cb, rfl, hmc, HI⟩ := hrel
      have hkm := HI.out.room
      by_cases hne : 0 < m
      · have dm : decide (0 < m) = true := by simpa using hne
        have HLC := Lib.hid (lines_ A' m c' rest wr HI.out.len hmc (by omega) (HI.out.lies.keeps HI.out.keeps (fun _ _ _ => id)) HI.out.byt)
        go_wp2_with fail
        refine HLC.out.mono ?_
        rintro r1 w1 ⟨hk1, hm1⟩
        have HI1 := Lib.hid (HI.out.more hk1)
        clear HLC
        obtain ⟨L, hL⟩ : ∃ L, lines rest = L := ⟨_, rfl⟩
        rw [hL] at hm1
        have HL := Lib.hid hL
        clear hL
        cases L with
        | none =>
          obtain ⟨v1, v2, v3, rfl⟩ := hm1
          have c0 := HI1.out.res.cell 0
          have f0 := HI1.out.res.frozen 0
          have HP := Lib.hid (HI1.out.none_ HX.out hn hne HL.out)
          go_wp2
          have hres : (w1.setCell ⟨w.heap.size, 0, none⟩ (.slice none 0 0)).cell? ⟨w.heap.size, 0, none⟩ = some (.slice none 0 0) := (HI1.out.res.setCell 0 _).cell 0
          refine bodyPost_ret (v := .tuple #[.agg #[.slice none 0 0], .int .i64 4]) (by simp [results, Try.results10, go_sem, hres]) rfl ?_
          exact parseR_err HP.out (HI1.out.keeps.setCell (.inr (by simp)) _)
        | some L =>
          obtain ⟨a, b, t⟩ := L
          obtain ⟨A1, c1, A2, c2, A3, c3, rfl, gg, g4⟩ := hm1
          have GW := gg _ HI.out.lies
          have GW1 := gg _ (HI.out.lies.keeps HI1.out.keeps (fun _ _ _ => id))
          have g1 := GW1.1
          have g2 := GW1.2.1
          have g3 := GW.2.2
          have hll := lines_len HL.out
          have hbb := lines_byt HL.out HI.out.byt
          have hm' := HI.out.len
          obtain ⟨la, hla⟩ : ∃ la, a.length = la := ⟨_, rfl⟩
          obtain ⟨lb, hlb⟩ : ∃ lb, b.length = lb := ⟨_, rfl⟩
          obtain ⟨lt, hlt⟩ : ∃ lt, t.length = lt := ⟨_, rfl⟩
          rw [hla, hlb, hlt]
          rw [hlt] at g4
          have hmm : m = la + lb + 3 + lt := by omega
          have HBB := Lib.hid hbb
          have HLA := Lib.hid hla
          have HLB := Lib.hid hlb
          have HLT := Lib.hid hlt
          have HG1 := Lib.hid g1
          have HG2 := Lib.hid g2
          have HG3 := Lib.hid g3
          obtain ⟨S, hS⟩ : ∃ S, strOfNums a = S := ⟨_, rfl⟩
          have hcv := g1.str_n (P := Try.prog) la hla 31 9 5 c1 Try.underlying31 Try.underlying5 Try.underlying9
          have hcv2 := (show Lies w1.drew A1 a from g1).str_n (P := Try.prog) la hla 31 9 5 c1 Try.underlying31 Try.underlying5 Try.underlying9
          rw [hS] at hcv hcv2
          have HS := Lib.hid hS
          have HMM := Lib.hid hmm
          have hke : HI.out.el = HI.out.el := rfl
          have c0 : w1.cell? ⟨w.heap.size + 1, 0, none⟩ = some (.slice B k cb) := HI1.out.ref.cell 0
          have f0 := HI1.out.ref.frozen 0
          clear hll hbb hm' hla hlb hlt g1 g2 g3 hS hmm hke gg GW GW1
          go_upto_region 8 with fail
          go_region_law (first
            | (have H0 := HG2
               go_simp
               refine (clone_n A2 lb c2 b _ HLB.out (by exact HG2.out) (by have := HMM.out; omega)).mono ?_
               rintro e2 w2 ⟨A5, c5, rfl, hv5, hk5⟩
               have HK5 : Hid (Keeps (fun _ => False) w1 w2) := Lib.hid hk5.of_drew
               have HI2 := Lib.hid (HI1.out.more HK5.out)
               have c2' : w2.cell? ⟨w.heap.size + 1, 0, none⟩ = some (.slice B k cb) := HI2.out.ref.cell 0
               have hcv3 := (HG1.out.keeps HK5.out (fun _ _ _ => id)).str_n (P := Try.prog) la HLA.out 31 9 5 c1 Try.underlying31 Try.underlying5 Try.underlying9
               rw [HS.out] at hcv3
               have HV5 := Lib.hid hv5
               have c3' : (w2.alloc (.cells #[.string S, .slice A5 lb c5] 33)).cell? ⟨w.heap.size + 1, 0, none⟩ = some (.slice B k cb) := (HI2.out.ref.alloc _).cell 0
               have HNW := Lib.hid (con_news w2 (.string S) (.slice A5 lb c5))
               have HKA := Lib.hid ((Keeps.refl (fun _ => False) w2).alloc (.cells #[.string S, .slice A5 lb c5] 33))
               have HI3 := Lib.hid (HI2.out.more HKA.out)
               clear hk5 hv5 H0 HG2)
            | (have H0 := HI3
               refine step_append_lies _ (by rfl) _ _ _ (by rfl) (w.heap.size + 2) 33 i0 _ 2 40 Try.underlying27 hi0 hz0 hz1 hz2 rfl (by omega) (.slice B k cb) k (cvs es) (by rfl) (by exact HI3.out.own) ⟨w2.heap.size, 0, none⟩ 1 1 [.string S, .slice A5 lb c5] (by rfl) rfl (by exact HNW.out) (by simp [Value.oneCell']) (by omega) (by simp only [maxLen]; omega) (by omega) (by exact HI3.out.base_) _ rfl ?_
               intro g6 cap6 w6 hown6 hgrow6 hat6 hlt6
               have h7 : Blk w6 (w.heap.size + 1) 29 #[.slice B k cb] := HI3.out.ref.grown hgrow6 (own_ne HI3.out.own HI3.out.ref (by decide))
               have c6 : w6.cell? ⟨w.heap.size + 1, 0, none⟩ = some (.slice B k cb) := h7.cell 0
               have f6 : w6.frozen? ⟨w.heap.size + 1, 0, none⟩ = false := h7.frozen 0
               have H7 := Lib.hid h7
               have HO6 := Lib.hid hown6
               have HG6 := Lib.hid hgrow6
               clear h7 hown6 hgrow6 hat6 hlt6 H0))
          all_goals go_wp2
          all_goals
            have HE := HI3.out.put (E := ⟨a, A5, c5, b⟩) (A3 := A3) (t := t) (b := b) (a := a) (lt := lt) (B' := some ⟨g6, 0, none⟩) (cb' := cap6) (w6 := w6) hne
              ⟨by exact (Lies.of_own (HV5.out)).keeps HKA.out (fun _ _ _ => id), HBB.out.2.1, HBB.out.1, by have := HMM.out; have := HLB.out; simp only; omega, by have := HMM.out; have := HLA.out; simp only; omega⟩
              (by have := own_keeps (S := fun _ => False) HV5.out HKA.out (fun _ _ => id); simp only [Ct.v, HLB.out]; exact own_base this (by have := HI1.out.base_; simp only [World.drew]; omega))
              HG3.out HLT.out HBB.out.2.2 (by have := HMM.out; have := HI.out.room; omega) (by rw [cvs_app]; simpa [cvs, Ct.v, HS.out, HLB.out] using HO6.out) HG6.out (HI3.out.form_next hne HL.out ⟨a, A5, c5, b⟩ rfl)
            exact ⟨⟨t, es ++ [⟨a, A5, c5, b⟩], A3, lt, c3, some ⟨g6, 0, none⟩, k + 1, cap6, rfl, g4, Lib.hid HE⟩, by have := HMM.out; simp only; omega⟩
      · have HM0 : Hid (m = 0) := by show _ = _; omega
        have dm : decide (0 < m) = false := by simpa using hne
        have HPE := Lib.hid (HI.out.end_ HX.out hn HM0.out)
        have c0 := HI.out.ref.cell 0
        have c1 : wr.cell? ⟨w.heap.size + 1, 0, none⟩ = some (.slice B k cb) := c0
        obtain ⟨e, he⟩ : ∃ e, chk (pairs es) = e := ⟨_, rfl⟩
        have HIR : Hid (IsRef wr B k es) := Lib.hid (isRef_own HI.out.own HI.out.el (by have := HI.out.room; omega) (fun e he => (HI.out.good e he).1))
        have HCH : Hid (Calls Try.prog 12 #[.agg #[.slice B k cb]] wr fun r w' => r = .returned (.int .i64 e) ∧ Keeps (fun _ => False) wr w') := Lib.hid (by
          have := check_ B k cb es wr HIR.out
          unfold ChkR at this
          rw [he] at this
          exact this)
        rw [he] at HPE
        clear c0 he
        by_cases h0 : e = 0
        · subst h0
          have HPP : Hid (parse xs = .ok (pairs es)) := by show _ = _; rw [HPE.out, if_pos rfl]
          go_wp2_with (go_at_call 12
                       refine HCH.out.mono ?_
                       rintro e2 w2 ⟨rfl, hk2⟩
                       have HI2 := Lib.hid (HI.out.more hk2)
                       have q0 := HI2.out.res.cell 0
                       have q1 := HI2.out.res.frozen 0
                       have q2 : w2.cell? ⟨w.heap.size + 1, 0, none⟩ = some (.slice B k cb) := HI2.out.ref.cell 0
                       clear hk2)
          have hres : (w2.setCell ⟨w.heap.size, 0, none⟩ (.slice B k cb)).cell? ⟨w.heap.size, 0, none⟩ = some (.slice B k cb) := (HI2.out.res.setCell 0 _).cell 0
          refine bodyPost_ret (v := .tuple #[.agg #[.slice B k cb], .int .i64 0]) (by simp [results, Try.results10, go_sem, hres]) rfl ?_
          have k7 : Keeps (fun j => j = w.heap.size) w2 (w2.setCell ⟨w.heap.size, 0, none⟩ (.slice B k cb)) := (Keeps.refl _ _).setOwn _ _
          refine parseR_ok HPP.out (isRef_own (own_keeps HI2.out.own k7 (fun b hb e => own_ne HI2.out.own HI2.out.res (by decide) (by rw [hb, e]))) HI2.out.el (by have := HI.out.room; omega) (fun f hf => ?_)) (HI2.out.keeps.setCell (.inr (by simp)) _)
          have hg := HI2.out.good f hf
          have o7 := own_keeps hg.2 k7 (fun b hb e => own_ne hg.2 HI2.out.res (by decide) (by rw [hb, e]))
          exact ⟨Lies.of_own o7, hg.1.bs, hg.1.bn, hg.1.ls, hg.1.ln⟩
        · have d0 : (e != 0) = true := by simpa using h0
          have HPP : Hid (parse xs = .error e) := by show _ = _; rw [HPE.out, if_neg h0]
          go_wp2_with (go_at_call 12
                       refine HCH.out.mono ?_
                       rintro e2 w2 ⟨rfl, hk2⟩
                       have HI2 := Lib.hid (HI.out.more hk2)
                       have q0 := HI2.out.res.cell 0
                       have q1 := HI2.out.res.frozen 0
                       clear hk2)
          have hres : (w2.setCell ⟨w.heap.size, 0, none⟩ (.slice none 0 0)).cell? ⟨w.heap.size, 0, none⟩ = some (.slice none 0 0) := (HI2.out.res.setCell 0 _).cell 0
          refine bodyPost_ret (v := .tuple #[.agg #[.slice none 0 0], .int .i64 e]) (by simp [results, Try.results10, go_sem, hres]) rfl ?_
          exact parseR_err HPP.out (HI2.out.keeps.setCell (.inr (by simp)) _)
end Go.Proofs.Ytbekdcakmeejaaa.Ct

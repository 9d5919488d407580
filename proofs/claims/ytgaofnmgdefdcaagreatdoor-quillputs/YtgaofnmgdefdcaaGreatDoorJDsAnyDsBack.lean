/- Ways taken of any bytes: what may be, and its bytes; or an error (plain data; names no function of the program). -/
/- What is put is taken: ways out of their own bytes (desc; plain data). Names no function of the program. -/
import Derived.Test.YtgaofnmgdefdcaaGreatDoorJDsTkPDsPutA

namespace Go.Proofs.YtgaofnmgdefdcaaGreatDoor.Ds
open Go.RowKit Go.Proofs.YtgaofnmgdefdcaaGreatDoor.Gen Go.Proofs.YtgaofnmgdefdcaaGreatDoor.Wr Go.Proofs.YtgaofnmgdefdcaaGreatDoor.It Go.Proofs.YtgaofnmgdefdcaaGreatDoor.Ir Go.Proofs.YtgaofnmgdefdcaaGreatDoor.Ib Go.Proofs.YtgaofnmgdefdcaaGreatDoor.Tw Go.Proofs.YtgaofnmgdefdcaaGreatDoor.Hr Go.Proofs.YtgaofnmgdefdcaaGreatDoor.Hn Go.Proofs.YtgaofnmgdefdcaaGreatDoor.Hk Go.Proofs.YtgaofnmgdefdcaaGreatDoor.Ln

/-- From s to s1 these bytes were taken, or there is an error. -/
structure Step (s s1 : RS) (ys : List Int) : Prop where
  xs : s1.xs = s.xs
  ok : s1.ok
  good : s1.e = 0 → s.e = 0 ∧ s.k ≤ s1.k ∧ ys = (s.xs.drop s.k).take (s1.k - s.k)
theorem Step.refl {s : RS} (h : s.ok) : Step s s [] := ⟨rfl, h, fun he => ⟨he, Nat.le_refl _, by rw [Nat.sub_self]; simp⟩⟩
theorem Step.trans {s s1 s2 : RS} {ys zs : List Int} (h : Step s s1 ys) (h2 : Step s1 s2 zs) : Step s s2 (ys ++ zs) := by
  refine ⟨h2.xs.trans h.xs, h2.ok, fun he => ?_⟩
  obtain ⟨a1, a2, a3⟩ := h2.good he
  obtain ⟨b1, b2, b3⟩ := h.good a1
  refine ⟨b1, by omega, ?_⟩
  rw [b3, a3, h.xs, show s2.k - s.k = (s1.k - s.k) + (s2.k - s1.k) by omega, List.take_add, List.drop_drop, show s.k + (s1.k - s.k) = s1.k by omega]
theorem Step.bad {s s1 : RS} {ys : List Int} (hx : s1.xs = s.xs) (ho : s1.ok) (he : s1.e ≠ 0) : Step s s1 ys := ⟨hx, ho, fun h => absurd h he⟩
theorem fail_ne' {s : RS} {e : Int} (h : e ≠ 0) : (s.fail e).e ≠ 0 := by
  unfold RS.fail
  split
  · exact h
  · assumption
theorem fail_xs (s : RS) (e : Int) : (s.fail e).xs = s.xs := by
  unfold RS.fail
  split <;> rfl
theorem rs_eq {s : RS} (h : s.e = 0) : s = ⟨s.xs, s.k, 0⟩ := by
  cases s
  simp only at h
  subst h
  rfl
theorem lead_zero : lead 0 = 0 := by decide
theorem foll_zero : ¬ foll 0 < 0 := by omega
theorem int_bad {s : RS} (h : s.e ≠ 0) : RS.int s = (0, s) := by
  have hb : s.byte = (0, s) := byte_bad h
  have hn : RS.num s 4 = (0, 0, s) := by
    unfold RS.num
    rw [hb]
    simp only [lead_zero, Nat.zero_min, RS.gath]
    rfl
  unfold RS.int
  rw [hn]
  unfold five RS.needs
  simp [h]
theorem byte_end {s : RS} (h : s.e = 0) (hk : s.xs.length ≤ s.k) : s.byte = (0, ⟨s.xs, s.k, 3⟩) := by
  unfold RS.byte
  rw [if_pos h, if_neg (by omega)]
theorem int_end {s : RS} (h : s.e = 0) (hk : s.xs.length ≤ s.k) : RS.int s = (0, ⟨s.xs, s.k, 3⟩) := by
  have hb := byte_end h hk
  have hn : RS.num s 4 = (0, 0, ⟨s.xs, s.k, 3⟩) := by
    unfold RS.num
    rw [hb]
    simp only [lead_zero, Nat.zero_min, RS.gath]
    rfl
  unfold RS.int
  rw [hn]
  unfold five RS.needs
  simp
theorem int_step {s : RS} (ho : s.ok) : Step s (RS.int s).2 (encInt (RS.int s).1) := by
  by_cases he : s.e = 0
  · rcases Nat.lt_or_ge s.k s.xs.length with hk | hk
    · have h := int_any ho.2.2 hk ho.2.1
      rw [← rs_eq he] at h
      rcases h with ⟨h1, h2, h3⟩ | ⟨n, f, h1, h2, h3, h4, h5⟩
      · refine .bad h1 ⟨by rw [h1]; exact h2, by rw [h1]; exact ho.2.1, by rw [h1]; exact ho.2.2⟩ (by omega)
      · rw [h1]
        refine ⟨rfl, ⟨h2, ho.2.1, ho.2.2⟩, fun _ => ⟨he, by simp only; omega, ?_⟩⟩
        rw [h5]
        congr 1
        simp only
        omega
    · rw [int_end he hk]
      exact .bad rfl ⟨ho.1, ho.2.1, ho.2.2⟩ (by simp)
  · rw [int_bad he]
    exact .bad rfl ho he
theorem count_step {s : RS} (ho : s.ok) (m : Int) : Step s (RS.count s m).2 (encInt (RS.count s m).1) := by
  have h := int_step ho
  unfold RS.count
  split
  · exact .bad (by rw [fail_xs]; exact h.xs) (fail_ok h.ok 7) (fail_ne' (by decide))
  · exact h
theorem byte_step {s : RS} (ho : s.ok) : Step s s.byte.2 [s.byte.1] := by
  by_cases he : s.e = 0
  · rcases Nat.lt_or_ge s.k s.xs.length with hk | hk
    · have hb : s.byte = (s.xs.getD s.k 0, { s with k := s.k + 1 }) := by unfold RS.byte; rw [if_pos he, if_pos hk]
      rw [hb]
      refine ⟨rfl, ⟨hk, ho.2.1, ho.2.2⟩, fun _ => ⟨he, by simp only; omega, ?_⟩⟩
      simp only
      rw [show s.k + 1 - s.k = 1 by omega, List.drop_eq_getElem_cons hk, List.getD_eq_getElem?_getD, List.getElem?_eq_getElem hk]
      rfl
    · rw [byte_end he hk]
      exact .bad rfl ⟨ho.1, ho.2.1, ho.2.2⟩ (by simp)
  · rw [byte_bad he]
    exact .bad rfl ho he
theorem sg_sign {n : Int} (h0 : 0 ≤ n) (h1 : n < 4294967296) : sg (sign32 n) = n := by
  unfold sg sign32
  split <;> omega
theorem tkS_step {s : RS} (ho : s.ok) : ∀ j, Step s (tkS s j).2 (encs (fun n => encInt (sg n)) (tkS s j).1)
  | 0 => Step.refl ho
  | j + 1 => by
    have ih := tkS_step ho j
    have h := int_step ih.ok
    have hi := int_in ih.ok
    have := ih.trans h
    simp only [tkS]
    rw [encs_snoc, sg_sign hi.1 hi.2]
    exact this
theorem tkZ_step {s : RS} (ho : s.ok) : ∀ j, Step s (tkZ s j).2 (encs encInt (tkZ s j).1)
  | 0 => Step.refl ho
  | j + 1 => by
    have ih := tkZ_step ho j
    have := ih.trans (count_step ih.ok 20)
    simp only [tkZ]
    rw [encs_snoc]
    exact this
theorem tkL_step {s : RS} (ho : s.ok) (n : Nat) : Step s (tkL s n).2 (symB (tkL s n).1 ++ sizB (tkL s n).1) := by
  have h1 := tkS_step ho n
  have h2 := h1.trans (tkZ_step h1.ok n)
  have e1 : (tkL s n).1.map (·.1) = (tkS s n).1 := List.map_fst_zip (by rw [tkS_len, tkZ_len]; exact Nat.le_refl _)
  have e2 : (tkL s n).1.map (·.2) = (tkZ (tkS s n).2 n).1 := List.map_snd_zip (by rw [tkS_len, tkZ_len]; exact Nat.le_refl _)
  rw [symB, sizB, e1, e2]
  exact h2
theorem tkE_step {s : RS} (ho : s.ok) : Step s (tkE s).2 (entB (tkE s).1) := by
  have h1 := count_step ho 256
  have hc := (count_in ho (m := 256) (by omega)).1
  have h2 := h1.trans (tkL_step h1.ok (RS.count s 256).1.toNat)
  rw [entB]
  unfold tkE
  rw [tkL_len, Int.toNat_of_nonneg hc]
  exact h2
theorem tkI_step {s : RS} (ho : s.ok) : Step s (tkI s).2 (bytI (tkI s).1) := by
  have h1 := count_step ho 255
  unfold tkI bytI bodI
  split
  · rename_i hk
    have h2 := h1.trans (count_step h1.ok 60000)
    rw [hk] at h2
    exact h2
  · split
    · rename_i hk
      have h2 := h1.trans (tkE_step h1.ok)
      rw [hk] at h2
      exact h2
    · split
      · rename_i hk
        have h2 := int_step h1.ok
        have hi := int_in h1.ok
        have h3 := h1.trans (h2.trans (count_step h2.ok 31))
        rw [hk] at h3
        simp only
        rw [sg_sign hi.1 hi.2]
        exact h3
      · rename_i n1 n3 n6
        rw [List.append_nil]
        exact h1
theorem tkA_step {s : RS} (ho : s.ok) (hk : (tkA s).1.K = 4 ∨ (tkA s).1.K = 5) : Step s (tkA s).2 (bytA (tkA s).1) := by
  have h1 := count_step ho 255
  have h2 := h1.trans (count_step h1.ok 60000)
  unfold tkA at hk ⊢
  unfold bytA
  split
  · rename_i h4
    have h3 := h2.trans (tkI_step h2.ok)
    rw [h4, List.append_assoc] at h3
    simp only
    rw [if_neg (by decide)]
    exact h3
  · split
    · rename_i h5
      have h3 := h2.trans (byte_step h2.ok)
      rw [h5, List.append_assoc] at h3
      simp only
      rw [if_pos trivial]
      exact h3
    · rename_i n4 n5
      rw [if_neg n4, if_neg n5] at hk
      simp only at hk
      omega
theorem ends_zero {s : RS} {e : Int} (h : (ends s e).e = 0) : e = 0 ∧ ends s e = s := by
  unfold ends at h ⊢
  split at h
  · exact absurd h (fail_ne' (by assumption))
  · rename_i hn
    have : e = 0 := by omega
    exact ⟨this, by rw [if_neg hn]⟩
theorem ends_ok {s : RS} (h : s.ok) (e : Int) : (ends s e).ok ∧ (ends s e).xs = s.xs := by
  unfold ends
  split
  · exact ⟨fail_ok h e, fail_xs s e⟩
  · exact ⟨h, rfl⟩
theorem TI_any {s : RS} (ho : s.ok) : (TI s).2.ok ∧ (TI s).2.xs = s.xs ∧ ((TI s).2.e = 0 → chkI (TI s).1 = 0 ∧ s.e = 0 ∧ s.k ≤ (TI s).2.k ∧ bytI (TI s).1 = (s.xs.drop s.k).take ((TI s).2.k - s.k)) ∧ ((TI s).2.e ≠ 0 → (TI s).1 = D0) := by
  have h := tkI_step ho
  have h2 := ends_ok h.ok (chkI (tkI s).1)
  unfold TI
  split
  · rename_i he
    obtain ⟨h3, h4⟩ := ends_zero he
    refine ⟨h2.1, h2.2.trans h.xs, fun _ => ?_, fun hn => absurd he hn⟩
    simp only
    rw [h4] at he ⊢
    exact ⟨h3, h.good he⟩
  · rename_i he
    exact ⟨h2.1, h2.2.trans h.xs, fun hn => absurd hn he, fun _ => rfl⟩
theorem TA_any {s : RS} (ho : s.ok) : ((TA s).2.e = 0 → chkA (TA s).1 = 0 ∧ s.e = 0 ∧ s.k ≤ (TA s).2.k ∧ bytA (TA s).1 = (s.xs.drop s.k).take ((TA s).2.k - s.k)) ∧ ((TA s).2.e ≠ 0 → (TA s).1 = E0) := by
  unfold TA
  split
  · rename_i he
    obtain ⟨h3, h4⟩ := ends_zero he
    refine ⟨fun _ => ?_, fun hn => absurd he hn⟩
    simp only
    have hk := (chkA_ok h3).2
    have h := tkA_step ho (by rcases hk with h | h; exact .inr h; exact .inl h.1)
    rw [h4] at he ⊢
    exact ⟨h3, h.good he⟩
  · rename_i he
    exact ⟨fun hn => absurd hn he, fun _ => rfl⟩
end Go.Proofs.YtgaofnmgdefdcaaGreatDoor.Ds

namespace Go.Proofs.YtgaofnmgdefdcaaGreatDoor.Ds
open Go.RowKit Go.Proofs.YtgaofnmgdefdcaaGreatDoor.Gen Go.Proofs.YtgaofnmgdefdcaaGreatDoor.Wr Go.Proofs.YtgaofnmgdefdcaaGreatDoor.It Go.Proofs.YtgaofnmgdefdcaaGreatDoor.Ir Go.Proofs.YtgaofnmgdefdcaaGreatDoor.Ib Go.Proofs.YtgaofnmgdefdcaaGreatDoor.Tw Go.Proofs.YtgaofnmgdefdcaaGreatDoor.Hr Go.Proofs.YtgaofnmgdefdcaaGreatDoor.Hn Go.Proofs.YtgaofnmgdefdcaaGreatDoor.Hk Go.Proofs.YtgaofnmgdefdcaaGreatDoor.Ln

/-- What belongs to its kind, and no more. -/
def clI (d : D) : D := if d.K = 1 then ⟨1, d.B, [], 0, 0⟩ else if d.K = 3 then ⟨3, 0, d.L, 0, 0⟩ else if d.K = 6 then ⟨6, 0, [], d.le, d.bi⟩ else ⟨d.K, 0, [], 0, 0⟩
def clA (a : E) : E := if a.K = 4 then ⟨clI a.d, 4, a.B, 0⟩ else if a.K = 5 then ⟨D0, 5, a.B, a.S⟩ else ⟨D0, a.K, a.B, 0⟩
theorem sign_sg {n : Int} (h0 : -2147483648 ≤ n) (h1 : n ≤ 2147483647) : sign32 (sg n) = n ∧ 0 ≤ sg n ∧ sg n < 4294967296 := by
  unfold sg sign32
  split <;> omega
theorem drop_next {all xs rest : List Int} {k : Nat} (h : all.drop k = xs ++ rest) : all.drop (k + xs.length) = rest := by
  rw [← List.drop_drop, h, List.drop_left]
theorem count_back {all rest : List Int} {k : Nat} {n m : Int} (h : all.drop k = encInt n ++ rest) (h0 : 0 ≤ n) (h1 : n ≤ m) (h2 : m < 4294967296) : RS.count ⟨all, k, 0⟩ m = (n, ⟨all, k + (encInt n).length, 0⟩) := by
  unfold RS.count
  rw [int_back h h0 (by omega)]
  exact if_neg (by simp only; omega)
theorem encs_cons (e : Int → List Int) (x : Int) (zs : List Int) : encs e (x :: zs) = e x ++ encs e zs := by simp [encs]
theorem encs_split (e : Int → List Int) {zs : List Int} {j : Nat} {x : Int} (h : zs[j]? = some x) : encs e zs = encs e (zs.take j) ++ (e x ++ encs e (zs.drop (j + 1))) := by
  obtain ⟨hl, hx⟩ := List.getElem?_eq_some_iff.1 h
  have h2 : zs = zs.take j ++ x :: zs.drop (j + 1) := by
    rw [← hx, List.getElem_cons_drop, List.take_append_drop]
  conv => lhs; rw [h2]
  simp [encs]
theorem tkS_back {all rest L : List Int} {k : Nat} (h : all.drop k = encs (fun n => encInt (sg n)) L ++ rest) (hL : ∀ n ∈ L, -2147483648 ≤ n ∧ n ≤ 2147483647) :
    ∀ j, j ≤ L.length → tkS ⟨all, k, 0⟩ j = (L.take j, ⟨all, k + (encs (fun n => encInt (sg n)) (L.take j)).length, 0⟩)
  | 0, _ => by simp [tkS, encs]
  | j + 1, hj => by
    have ih := tkS_back h hL j (by omega)
    have hx : L[j]? = some L[j] := List.getElem?_eq_getElem (by omega)
    obtain ⟨s1, s2, s3⟩ := sign_sg (hL L[j] (List.getElem_mem _)).1 (hL L[j] (List.getElem_mem _)).2
    have hd : all.drop (k + (encs (fun n => encInt (sg n)) (L.take j)).length) = encInt (sg L[j]) ++ (encs (fun n => encInt (sg n)) (L.drop (j + 1)) ++ rest) := by
      apply drop_next
      rw [h, encs_split _ hx]
      simp only [List.append_assoc]
    have hi := int_back hd s2 s3
    simp only [tkS, ih, hi, s1]
    rw [encs_take hx, take_snoc hx, List.length_append, Nat.add_assoc]
theorem tkZ_back {all rest L : List Int} {k : Nat} (h : all.drop k = encs encInt L ++ rest) (hL : ∀ n ∈ L, 0 ≤ n ∧ n ≤ 20) :
    ∀ j, j ≤ L.length → tkZ ⟨all, k, 0⟩ j = (L.take j, ⟨all, k + (encs encInt (L.take j)).length, 0⟩)
  | 0, _ => by simp [tkZ, encs]
  | j + 1, hj => by
    have ih := tkZ_back h hL j (by omega)
    have hx : L[j]? = some L[j] := List.getElem?_eq_getElem (by omega)
    have hr := hL L[j] (List.getElem_mem _)
    have hd : all.drop (k + (encs encInt (L.take j)).length) = encInt L[j] ++ (encs encInt (L.drop (j + 1)) ++ rest) := by
      apply drop_next
      rw [h, encs_split _ hx]
      simp only [List.append_assoc]
    have hi := count_back hd hr.1 hr.2 (by decide)
    simp only [tkZ, ih, hi]
    rw [encs_take hx, take_snoc hx, List.length_append, Nat.add_assoc]
theorem zip_back : ∀ L : List G, (L.map (·.1)).zip (L.map (·.2)) = L
  | [] => rfl
  | x :: L => by rw [List.map_cons, List.map_cons, List.zip_cons_cons, zip_back L]
theorem tkL_back {all rest : List Int} {L : List G} {k : Nat} (h : all.drop k = symB L ++ (sizB L ++ rest)) (hL : ∀ p ∈ L, (-2147483647 ≤ p.1 ∧ p.1 ≤ 2147483647) ∧ 0 ≤ p.2 ∧ p.2 ≤ 20) :
    tkL ⟨all, k, 0⟩ L.length = (L, ⟨all, k + (symB L).length + (sizB L).length, 0⟩) := by
  have h1 := tkS_back (L := L.map (·.1)) h (fun n hn => by
    obtain ⟨p, hp, rfl⟩ := List.mem_map.1 hn
    have := hL p hp
    omega) L.length (by simp)
  rw [List.take_of_length_le (by simp)] at h1
  have h2 := tkZ_back (L := L.map (·.2)) (drop_next h) (fun n hn => by
    obtain ⟨p, hp, rfl⟩ := List.mem_map.1 hn
    exact (hL p hp).2) L.length (by simp)
  rw [List.take_of_length_le (by simp)] at h2
  unfold tkL
  rw [h1]
  simp only
  rw [show k + (encs (fun n => encInt (sg n)) (L.map (·.1))).length = k + (symB L).length from rfl, h2]
  simp only
  rw [zip_back]
  rfl
theorem tkE_back {all rest : List Int} {L : List G} {k : Nat} (h : all.drop k = entB L ++ rest) (hn : L.length ≤ 256) (hL : ∀ p ∈ L, (-2147483647 ≤ p.1 ∧ p.1 ≤ 2147483647) ∧ 0 ≤ p.2 ∧ p.2 ≤ 20) :
    tkE ⟨all, k, 0⟩ = (L, ⟨all, k + (entB L).length, 0⟩) := by
  rw [entB, List.append_assoc] at h
  have h1 := count_back (m := 256) h (by omega) (by omega) (by decide)
  have h2 := drop_next h
  rw [List.append_assoc] at h2
  unfold tkE
  rw [h1]
  simp only [Int.toNat_natCast]
  rw [tkL_back h2 hL, entB, List.length_append, List.length_append]
  simp only [Nat.add_assoc]
theorem chkI_in {d : D} (h : chkI d = 0) : (d.K = 1 ∧ 1 ≤ d.B ∧ d.B ≤ 60000) ∨ (d.K = 3 ∧ newE d.L = 0) ∨ (d.K = 6 ∧ (-2147483647 ≤ d.le ∧ d.le ≤ 2147483647) ∧ 0 ≤ d.bi ∧ d.bi ≤ 31) := by
  unfold chkI at h
  split at h
  · refine .inl ⟨by assumption, ?_⟩
    unfold blkE at h
    split at h <;> omega
  · split at h
    · exact .inr (.inl ⟨by assumption, h⟩)
    · split at h
      · refine .inr (.inr ⟨by assumption, ?_⟩)
        unfold fixE at h
        split at h <;> omega
      · omega
theorem chkI_cl (d : D) : chkI (clI d) = chkI d := by
  unfold clI
  split
  · rename_i hk
    simp [chkI, hk]
  · split
    · rename_i hk
      simp [chkI, hk]
    · split
      · rename_i hk
        simp [chkI, hk]
      · rename_i n1 n3 n6
        simp [chkI, n1, n3, n6]
theorem tkI_back {all rest : List Int} {d : D} {k : Nat} (h : all.drop k = bytI d ++ rest) (hc : chkI d = 0) : tkI ⟨all, k, 0⟩ = (clI d, ⟨all, k + (bytI d).length, 0⟩) := by
  rcases chkI_in hc with ⟨hk, hb⟩ | ⟨hk, hb⟩ | ⟨hk, hb⟩
  · have e1 : bytI d = encInt 1 ++ encInt d.B := by simp [bytI, bodI, hk]
    rw [e1, List.append_assoc] at h
    have h1 := count_back (m := 255) h (by decide) (by decide) (by decide)
    have h2 := count_back (m := 60000) (drop_next h) (by omega) (by omega) (by decide)
    unfold tkI
    rw [h1]
    simp only
    rw [if_pos trivial, h2, e1, List.length_append, clI, if_pos hk, Nat.add_assoc]
  · have e1 : bytI d = encInt 3 ++ entB d.L := by simp [bytI, bodI, hk]
    rw [e1, List.append_assoc] at h
    have h1 := count_back (m := 255) h (by decide) (by decide) (by decide)
    have h2 := tkE_back (drop_next h) (newE_zero hb).1.2 (newE_in hb)
    unfold tkI
    rw [h1]
    simp only
    rw [if_neg (by decide), if_pos trivial, h2, e1, List.length_append, clI, if_neg (by omega), if_pos hk, Nat.add_assoc]
  · have e1 : bytI d = encInt 6 ++ (encInt (sg d.le) ++ encInt d.bi) := by simp [bytI, bodI, hk]
    rw [e1, List.append_assoc, List.append_assoc] at h
    obtain ⟨s1, s2, s3⟩ := sign_sg (n := d.le) (by omega) (by omega)
    have h1 := count_back (m := 255) h (by decide) (by decide) (by decide)
    have h2 := int_back (drop_next h) s2 s3
    have h3 := count_back (m := 31) (drop_next (drop_next h)) hb.2.1 hb.2.2 (by decide)
    unfold tkI
    rw [h1]
    simp only
    rw [if_neg (by decide), if_neg (by decide), if_pos trivial, h2]
    simp only
    rw [h3, s1, e1, List.length_append, List.length_append, clI, if_neg (by omega), if_neg (by omega), if_pos hk]
    simp only [Nat.add_assoc]
theorem TI_back {all rest : List Int} {d : D} {k : Nat} (h : all.drop k = bytI d ++ rest) (hc : chkI d = 0) : TI ⟨all, k, 0⟩ = (clI d, ⟨all, k + (bytI d).length, 0⟩) := by
  unfold TI
  rw [tkI_back h hc]
  simp only
  rw [chkI_cl, hc]
  rfl
theorem TA_back {all rest : List Int} {a : E} {k : Nat} (h : all.drop k = bytA a ++ rest) (hc : chkA a = 0) : TA ⟨all, k, 0⟩ = (clA a, ⟨all, k + (bytA a).length, 0⟩) := by
  obtain ⟨hb, hk⟩ := chkA_ok hc
  have hcl : chkA (clA a) = 0 := by
    have hz : blkE a.B = 0 := by unfold blkE; rw [if_neg (by omega)]
    rcases hk with hk | ⟨hk, hd⟩
    · simp [clA, chkA, hk, hz]
    · simp [clA, chkA, hk, hz, chkI_cl, hd]
  have ht : tkA ⟨all, k, 0⟩ = (clA a, ⟨all, k + (bytA a).length, 0⟩) := by
    rcases hk with hk | ⟨hk, hd⟩
    · have e1 : bytA a = encInt 5 ++ (encInt a.B ++ [a.S]) := by simp [bytA, hk]
      rw [e1, List.append_assoc, List.append_assoc] at h
      have h1 := count_back (m := 255) h (by decide) (by decide) (by decide)
      have h2 := count_back (m := 60000) (drop_next h) (by omega) (by omega) (by decide)
      have h3 := drop_next (drop_next h)
      have hx : all[k + (encInt 5).length + (encInt a.B).length]? = some a.S := by
        have := at_drop h3 0
        rwa [Nat.add_zero] at this
      obtain ⟨hl, hx2⟩ := List.getElem?_eq_some_iff.1 hx
      have h4 : RS.byte ⟨all, k + (encInt 5).length + (encInt a.B).length, 0⟩ = (a.S, ⟨all, k + (encInt 5).length + (encInt a.B).length + 1, 0⟩) := by
        unfold RS.byte
        rw [if_pos rfl, if_pos hl]
        simp only
        rw [List.getD_eq_getElem?_getD, hx]
        rfl
      unfold tkA
      rw [h1]
      simp only
      rw [if_neg (by decide), if_pos trivial, h2]
      simp only
      rw [h4, e1, List.length_append, List.length_append, clA, if_neg (by omega), if_pos hk]
      simp only [Nat.add_assoc, List.length_singleton]
    · have e1 : bytA a = encInt 4 ++ (encInt a.B ++ bytI a.d) := by simp [bytA, hk]
      rw [e1, List.append_assoc, List.append_assoc] at h
      have h1 := count_back (m := 255) h (by decide) (by decide) (by decide)
      have h2 := count_back (m := 60000) (drop_next h) (by omega) (by omega) (by decide)
      have h3 := tkI_back (drop_next (drop_next h)) hd
      unfold tkA
      rw [h1]
      simp only
      rw [if_pos trivial, h2]
      simp only
      rw [h3, e1, List.length_append, List.length_append, clA, if_pos hk]
      simp only [Nat.add_assoc]
  unfold TA
  rw [ht]
  simp only
  rw [hcl]
  rfl
end Go.Proofs.YtgaofnmgdefdcaaGreatDoor.Ds

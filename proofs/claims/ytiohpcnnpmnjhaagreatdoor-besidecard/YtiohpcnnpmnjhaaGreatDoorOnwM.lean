import Derived.Test.YtiohpcnnpmnjhaaGreatDoorLinM
import Derived.Test.YtiohpcnnpmnjhaaGreatDoorAftM
import Derived.Test.YtiohpcnnpmnjhaaGreatDoorStpM
import Derived.Test.YtiohpcnnpmnjhaaGreatDoorRulM
import Derived.Test.YtiohpcnnpmnjhaaGreatDoorCrsM
import Derived.Test.YtiohpcnnpmnjhaaGreatDoorBotM
namespace Go.Proofs.YtiohpcnnpmnjhaaGreatDoor
open Go.RowKit Go.Shelf
set_option linter.unusedVariables false

/-- From place i on the text is t. -/
def Rest (s : ByteArray) (i : Nat) (t : List UInt8) : Prop := s.data.toList.drop i = t
theorem rest_cons {s : ByteArray} {i : Nat} {c : UInt8} {t : List UInt8} (h : Rest s i (c :: t)) : i < s.size ∧ pk s i = (c.toNat : Int) ∧ Rest s (i + 1) t := by
  unfold Rest at *
  have hl : i < s.data.toList.length := by
    apply Decidable.byContradiction
    intro hn
    rw [List.drop_eq_nil_of_le (by omega)] at h
    cases h
  have h2 := List.drop_eq_getElem_cons hl
  rw [h] at h2
  obtain ⟨h3, h4⟩ := List.cons.inj h2
  have hs : i < s.size := by simpa using hl
  refine ⟨hs, ?_, h4.symm⟩
  rw [pk_in hs, h3]
  simp [ByteArray.getElem_eq_getElem_data]
theorem rest_nil {s : ByteArray} {i : Nat} (h : Rest s i []) : s.size ≤ i := by
  unfold Rest at h
  have := List.drop_eq_nil_iff.1 h
  simpa using this
theorem rest_app {s : ByteArray} {i : Nat} {a t : List UInt8} (h : Rest s i (a ++ t)) : Rest s (i + a.length) t := by
  unfold Rest at *
  rw [← List.drop_drop, h]
  simp

/-- What does not go on a number. -/
def NoDg : List UInt8 → Prop
  | [] => True
  | c :: _ => isDg (c.toNat : Int) = false
theorem dg_rest {s : ByteArray} {t : List UInt8} (ht : NoDg t) : ∀ (d : List UInt8) {i : Nat}, Rest s i (d ++ t) → (∀ c ∈ d, isDg (c.toNat : Int) = true) → dg s i = i + d.length
  | [], i, h, _ => by
    cases t with
    | nil => exact skip_end (rest_nil h)
    | cons c t => exact dg_stop (by rw [(rest_cons h).2.1]; exact ht)
  | c :: d, i, h, hd => by
    obtain ⟨h1, h2, h3⟩ := rest_cons h
    rw [dg_go h1 (by rw [h2]; exact hd c (by simp)), dg_rest ht d h3 (fun x hx => hd x (by simp [hx]))]
    simp; omega

theorem ofNat_dig {k : Nat} (h : k < 10) : ((UInt8.ofNat (48 + k)).toNat : Int) = 48 + (k : Int) := by simp; omega
theorem dec_dig (u : Nat) : ∀ c ∈ Lib.decDigits u, isDg ((c.toNat : Nat) : Int) = true := by
  induction u using Nat.strongRecOn with
  | _ u ih =>
    intro c hc
    rw [Lib.decDigits] at hc
    split at hc
    · simp only [List.mem_singleton] at hc
      subst hc
      rw [ofNat_dig (by omega), isDg_iff]; omega
    · rw [List.mem_append, List.mem_singleton] at hc
      rcases hc with hc | rfl
      · exact ih (u / 10) (by omega) c hc
      · rw [ofNat_dig (by omega), isDg_iff]; omega
theorem dec_head (u : Nat) (hu : 1 ≤ u) : ∃ c r, Lib.decDigits u = c :: r ∧ ((c.toNat : Nat) : Int) ≠ 48 := by
  induction u using Nat.strongRecOn with
  | _ u ih =>
    rw [Lib.decDigits]
    split
    · exact ⟨_, _, rfl, by rw [ofNat_dig (by omega)]; omega⟩
    · obtain ⟨c, r, h1, h2⟩ := ih (u / 10) (by omega) (by omega)
      rw [h1]
      exact ⟨c, _, rfl, h2⟩
theorem dec_ne (u : Nat) : ∃ c r, Lib.decDigits u = c :: r := by
  rw [Lib.decDigits]
  split
  · exact ⟨_, _, rfl⟩
  · cases h : Lib.decDigits (u / 10) with
    | nil => exact ⟨_, _, rfl⟩
    | cons c r => exact ⟨_, _, rfl⟩
theorem dv_dec (s : ByteArray) (i : Nat) (u : Nat) : ∀ t, Rest s i (Lib.decDigits u ++ t) → dv s i (Lib.decDigits u).length = u := by
  induction u using Nat.strongRecOn with
  | _ u ih =>
    intro t h
    rw [Lib.decDigits] at h ⊢
    split at h
    · rename_i hu
      rw [dif_pos hu]
      have h2 := (rest_cons h).2.1
      rw [ofNat_dig (by omega)] at h2
      simp [dv, h2]
      omega
    · rename_i hu
      rw [dif_neg hu]
      rw [List.append_assoc] at h
      have h1 := ih (u / 10) (by omega) _ h
      have h2 := (rest_cons (rest_app h)).2.1
      rw [ofNat_dig (by omega)] at h2
      rw [List.length_append]
      simp only [List.length_cons, List.length_nil, Nat.zero_add, dv, h1, h2]
      omega
theorem dec_le : ∀ (k u : Nat), 1 ≤ k → u < 10 ^ k → (Lib.decDigits u).length ≤ k
  | 0, u, h, _ => by omega
  | k + 1, u, _, hu => by
    rw [Lib.decDigits]
    split
    · simp
    · cases k with
      | zero => simp at hu; omega
      | succ k =>
        have := dec_le (k + 1) (u / 10) (by omega) (by rw [Nat.pow_succ] at hu; omega)
        simp; omega

theorem numTok_rest {s : ByteArray} {i : Nat} {z : Int} {t : List UInt8} (h : Rest s i (Lib.itoa z ++ t)) (ht : NoDg t) (hz : z.natAbs < 10 ^ 19) : numTok s i = some (z, i + (Lib.itoa z).length) := by
  unfold Lib.itoa at *
  unfold numTok
  split at h
  · rename_i hn
    obtain ⟨h1, h2, h3⟩ := rest_cons h
    have hd := dg_rest ht _ h3 (dec_dig _)
    have hl := dec_le 19 z.natAbs (by omega) hz
    have hv := dv_dec s (i + 1) z.natAbs t h3
    obtain ⟨c, r, hc⟩ := dec_ne z.natAbs
    have hp : 0 < (Lib.decDigits z.natAbs).length := by rw [hc]; simp
    rw [if_pos (by rw [h2]; rfl), if_pos hn, hd, if_neg (by omega), show i + 1 + (Lib.decDigits z.natAbs).length - (i + 1) = (Lib.decDigits z.natAbs).length by omega, hv]
    simp only [Option.some.injEq, Prod.mk.injEq, List.length_cons]
    omega
  · rename_i hn
    have e : z.toNat = z.natAbs := by omega
    rw [e] at h
    have hd := dg_rest ht _ h (dec_dig _)
    have hl := dec_le 19 z.natAbs (by omega) hz
    have hv := dv_dec s i z.natAbs t h
    obtain ⟨c, r, hc⟩ := dec_ne z.natAbs
    have hp : 0 < (Lib.decDigits z.natAbs).length := by rw [hc]; simp
    have h2 := h
    rw [hc] at h2
    have h3 := (rest_cons h2).2.1
    have h4 := isDg_iff.1 (dec_dig z.natAbs c (by rw [hc]; simp))
    rw [if_neg (by rw [h3]; omega), if_neg hn, e, hd, if_neg (by omega), show i + (Lib.decDigits z.natAbs).length - i = (Lib.decDigits z.natAbs).length by omega, hv]
    simp only [Option.some.injEq, Prod.mk.injEq]
    exact ⟨by omega, trivial⟩

/-- The text of runs. -/
def runT : List (Nat × UInt8) → List UInt8
  | [] => []
  | (m, c) :: r => (if 1 < m then Lib.itoa (m : Int) else []) ++ c :: runT r
def okR (r : Nat × UInt8) : Prop := 1 ≤ r.1 ∧ r.1 ≤ 9999 ∧ (r.2 = 98 ∨ r.2 = 111 ∨ r.2 = 36)
theorem let_not {c : UInt8} (h : c = 98 ∨ c = 111 ∨ c = 36) : isDg (c.toNat : Int) = false ∧ isBl (c.toNat : Int) = false ∧ isLt (c.toNat : Int) = true ∧ (c.toNat : Int) ≠ 33 := by
  rcases h with rfl | rfl | rfl <;> decide
theorem itoa_nat (m : Nat) : Lib.itoa (m : Int) = Lib.decDigits m := by unfold Lib.itoa; rw [if_neg (by omega)]; simp
/-- How a run begins: no blank, no mark. -/
theorem run_head {m : Nat} {c : UInt8} {t : List UInt8} (ho : okR (m, c)) : ∃ d r, (if 1 < m then Lib.itoa (m : Int) else []) ++ c :: t = d :: r ∧ isBl (d.toNat : Int) = false ∧ (d.toNat : Int) ≠ 33 := by
  split
  · rw [itoa_nat]
    obtain ⟨d, r, hd⟩ := dec_ne m
    have := isDg_iff.1 (dec_dig m d (by rw [hd]; simp))
    rw [hd]
    refine ⟨d, r ++ c :: t, rfl, ?_, by omega⟩
    unfold isBl
    simp
    omega
  · exact ⟨c, t, rfl, (let_not ho.2.2).2.1, (let_not ho.2.2).2.2.2⟩
theorem cnt_rest {s : ByteArray} {i m : Nat} {c : UInt8} {t : List UInt8} (ho : okR (m, c)) (h : Rest s i ((if 1 < m then Lib.itoa (m : Int) else []) ++ c :: t)) :
    ∃ k, cntTok s i = some (m, k) ∧ Rest s k (c :: t) ∧ k = i + (if 1 < m then Lib.itoa (m : Int) else []).length := by
  obtain ⟨o1, o2, o3⟩ := ho
  simp only at o1 o2 o3
  obtain ⟨n1, n2, n3, n4⟩ := let_not o3
  unfold cntTok
  by_cases hm : 1 < m
  · rw [if_pos hm] at h ⊢
    rw [itoa_nat] at h ⊢
    have hd := dg_rest (t := c :: t) n1 _ h (dec_dig m)
    have hl := dec_le 4 m (by omega) (by omega)
    have hv := dv_dec s i m _ h
    obtain ⟨d, r, hc, h48⟩ := dec_head m o1
    have h2 := h
    rw [hc] at h2
    have h3 := (rest_cons h2).2.1
    have h4 := dec_dig m d (by rw [hc]; simp)
    have h5 := rest_app h
    have hb : bl s (i + (Lib.decDigits m).length) = i + (Lib.decDigits m).length := bl_stop (by rw [(rest_cons h5).2.1]; exact n2)
    refine ⟨i + (Lib.decDigits m).length, ?_, h5, rfl⟩
    rw [if_pos (by rw [h3]; exact h4), hd, if_neg (by rw [h3]; omega), hb, show i + (Lib.decDigits m).length - i = (Lib.decDigits m).length by omega, hv]
  · rw [if_neg hm] at h ⊢
    have h2 := (rest_cons h).2.1
    refine ⟨i, ?_, h, rfl⟩
    rw [if_neg (by rw [h2, n1]; simp), show m = 1 by omega]
theorem runs_rest {s : ByteArray} : ∀ (rs : List (Nat × UInt8)) {i : Nat}, (∀ r ∈ rs, okR r) → Rest s i (runT rs ++ [33]) → runsAt s i = .inr (rs.map (fun r => (r.1, ((r.2.toNat : Nat) : Int))), s.size) ∧ isBl (pk s i) = false
  | [], i, _, h => by
    obtain ⟨h1, h2, h3⟩ := rest_cons h
    have h4 := rest_nil h3
    rw [runsAt_eq s i (by omega), if_pos (by rw [h2]; rfl)]
    refine ⟨?_, by rw [h2]; rfl⟩
    simp
    omega
  | (m, c) :: rs, i, ho, h => by
    have o := ho (m, c) (by simp)
    rw [runT, List.append_assoc, List.cons_append] at h
    obtain ⟨k, k1, k2, k3⟩ := cnt_rest o h
    obtain ⟨d, r, e1, e2, e3⟩ := run_head (t := runT rs ++ [33]) o
    rw [e1] at h
    obtain ⟨h1, h2, h3⟩ := rest_cons h
    obtain ⟨g1, g2, g3⟩ := rest_cons k2
    obtain ⟨ih1, ih2⟩ := runs_rest rs (fun r hr => ho r (by simp [hr])) g3
    refine ⟨?_, by rw [h2]; exact e2⟩
    rw [runsAt_eq s i (by omega), if_neg (by rw [h2]; exact e3), k1]
    simp only
    rw [if_pos (by rw [g2]; exact (let_not o.2.2).2.2.1), bl_stop ih2, ih1, g2]
    rfl

/-- A run as runs of 9999 and the rest. -/
def runLN : Nat → Nat → UInt8 → List (Nat × UInt8)
  | 0, _, _ => []
  | f + 1, n, c => if n = 0 then [] else (min n 9999, c) :: runLN f (n - min n 9999) c
theorem runN_eqT (c : UInt8) : ∀ (f n : Nat), runN f n c = runT (runLN f n c)
  | 0, n => rfl
  | f + 1, n => by
    rw [runN, runLN]
    split
    · rfl
    · rw [runT, runN_eqT c f]
theorem runLN_ok {c : UInt8} (hc : c = 98 ∨ c = 111 ∨ c = 36) : ∀ (f n : Nat), ∀ r ∈ runLN f n c, okR r
  | 0, n, r, h => by simp [runLN] at h
  | f + 1, n, r, h => by
    rw [runLN] at h
    split at h
    · simp at h
    · rcases List.mem_cons.1 h with rfl | h
      · exact ⟨by simp only; omega, by simp only; omega, hc⟩
      · exact runLN_ok hc f _ r h
theorem runT_app : ∀ (a b : List (Nat × UInt8)), runT (a ++ b) = runT a ++ runT b
  | [], b => rfl
  | (m, c) :: a, b => by rw [List.cons_append, runT, runT, runT_app a b]; simp

/-- The pen's way along runs. -/
def penT (cx : Int) (st : Int × Int × List Span) (rs : List (Nat × UInt8)) : Int × Int × List Span := (rs.map (fun r => (r.1, ((r.2.toNat : Nat) : Int)))).foldl (penGo cx) st
theorem penT_app (cx : Int) (st : Int × Int × List Span) (a b : List (Nat × UInt8)) : penT cx st (a ++ b) = penT cx (penT cx st a) b := by simp [penT]
theorem penT_b (cx : Int) : ∀ (f n : Nat) (x y : Int) (sp : List Span), n ≤ f → penT cx (x, y, sp) (runLN f n 98) = (x + n, y, sp)
  | 0, n, x, y, sp, h => by obtain rfl : n = 0 := by omega
                            simp [penT, runLN]
  | f + 1, n, x, y, sp, h => by
    rw [runLN]
    split
    · rename_i h0; subst h0; simp [penT]
    · have := penT_b cx f (n - min n 9999) (x + (min n 9999 : Nat)) y sp (by omega)
      unfold penT at *
      rw [List.map_cons, List.foldl_cons]
      have e : penGo cx (x, y, sp) (min n 9999, (((98 : UInt8).toNat : Nat) : Int)) = (x + (min n 9999 : Nat), y, sp) := rfl
      rw [e, this]
      congr 1
      omega
theorem penT_d (cx : Int) : ∀ (f n : Nat) (x y : Int) (sp : List Span), n ≤ f → 1 ≤ n → penT cx (x, y, sp) (runLN f n 36) = (cx, y + n, sp)
  | 0, n, x, y, sp, h, h1 => by omega
  | f + 1, n, x, y, sp, h, h1 => by
    rw [runLN, if_neg (by omega)]
    have e : penGo cx (x, y, sp) (min n 9999, (((36 : UInt8).toNat : Nat) : Int)) = (cx, y + (min n 9999 : Nat), sp) := rfl
    unfold penT
    rw [List.map_cons, List.foldl_cons]
    simp only [e]
    by_cases h2 : n - min n 9999 = 0
    · rw [h2]
      cases f with
      | zero => simp [runLN]; omega
      | succ f => simp [runLN]; omega
    · have := penT_d cx f (n - min n 9999) cx (y + (min n 9999 : Nat)) sp (by omega) (by omega)
      unfold penT at this
      rw [this]
      congr 2
      omega
theorem penT_o (cx : Int) (n : Nat) (x y : Int) (sp : List Span) (h1 : 1 ≤ n) (h2 : n ≤ 9999) : penT cx (x, y, sp) (runLN n n 111) = (x + n, y, sp ++ [(x, y, (n : Int))]) := by
  obtain ⟨k, rfl⟩ : ∃ k, n = k + 1 := ⟨n - 1, by omega⟩
  rw [runLN, if_neg (by omega), show k + 1 - min (k + 1) 9999 = 0 by omega, show min (k + 1) 9999 = k + 1 by omega]
  have : runLN k 0 111 = [] := by cases k <;> simp [runLN]
  rw [this]
  rfl

/-- Spans in order from the pen on. -/
def SegsFrom (cx : Int) : Int → Int → List Span → Prop
  | _, _, [] => True
  | ax, ay, (x, y, n) :: q => (ay < y ∨ (ay = y ∧ ax ≤ x)) ∧ cx ≤ x ∧ 1 ≤ n ∧ n ≤ 9999 ∧ SegsFrom cx (x + n) y q
/-- The runs that are written. -/
def segR (cx ax ay : Int) : List Span → List (Nat × UInt8)
  | [] => []
  | (x, y, n) :: q => (if ay < y then runLN (y - ay).toNat (y - ay).toNat 36 ++ runLN (x - cx).toNat (x - cx).toNat 98 else runLN (x - ax).toNat (x - ax).toNat 98) ++ runLN n.toNat n.toNat 111 ++ segR cx (x + n) y q
theorem segR_ok (cx : Int) : ∀ (l : List Span) (ax ay : Int), ∀ r ∈ segR cx ax ay l, okR r
  | [], _, _, r, h => by simp [segR] at h
  | (x, y, n) :: q, ax, ay, r, h => by
    rw [segR, List.mem_append, List.mem_append] at h
    rcases h with (h | h) | h
    · split at h
      · rw [List.mem_append] at h
        rcases h with h | h
        · exact runLN_ok (.inr (.inr rfl)) _ _ r h
        · exact runLN_ok (.inl rfl) _ _ r h
      · exact runLN_ok (.inl rfl) _ _ r h
    · exact runLN_ok (.inr (.inl rfl)) _ _ r h
    · exact segR_ok cx q _ _ r h
theorem segRun_T (cx : Int) : ∀ (l : List Span) (ax ay : Int) (b : List UInt8), (l.foldl (segGo cx) ((ax, ay), b)).2 = b ++ runT (segR cx ax ay l)
  | [], ax, ay, b => by simp [segR, runT]
  | (x, y, n) :: q, ax, ay, b => by
    rw [List.foldl_cons, segGo, segRun_T cx q, segR, runT_app, runT_app]
    simp only [runB, runN_eqT]
    split <;> simp [runT_app]
theorem pen_seg (cx : Int) : ∀ (l : List Span) (ax ay : Int) (sp : List Span), SegsFrom cx ax ay l → (penT cx (ax, ay, sp) (segR cx ax ay l)).2.2 = sp ++ l
  | [], ax, ay, sp, _ => by simp [segR, penT]
  | (x, y, n) :: q, ax, ay, sp, h => by
    obtain ⟨h1, h2, h3, h4, h5⟩ := h
    rw [segR, penT_app, penT_app]
    have e1 : penT cx (ax, ay, sp) (if ay < y then runLN (y - ay).toNat (y - ay).toNat 36 ++ runLN (x - cx).toNat (x - cx).toNat 98 else runLN (x - ax).toNat (x - ax).toNat 98) = (x, y, sp) := by
      split
      · rw [penT_app, penT_d _ _ _ _ _ _ (Nat.le_refl _) (by omega), penT_b _ _ _ _ _ _ (Nat.le_refl _)]
        congr 1
        · omega
        · congr 1; omega
      · rw [penT_b _ _ _ _ _ _ (Nat.le_refl _)]
        congr 1
        · omega
        · congr 1; omega
    rw [e1, penT_o _ _ _ _ _ (by omega) (by omega), show ((n.toNat : Nat) : Int) = n by omega, pen_seg cx q _ _ _ h5]
    simp

theorem segs_pos : ∀ (C : List Cel), ∀ s ∈ segs C, 1 ≤ s.2.2
  | [], s, h => by simp [segs] at h
  | (x, y) :: r, s, h => by
    have ih := segs_pos r
    rw [segs] at h
    split at h
    · simp at h; subst h; simp
    · rename_i x' y' n q e
      have i0 := ih (x', y', n) (by rw [e]; simp)
      simp only at i0
      split at h
      · rcases List.mem_cons.1 h with rfl | h
        · simp only; omega
        · exact ih s (by rw [e]; simp [h])
      · rcases List.mem_cons.1 h with rfl | h
        · simp
        · exact ih s (by rw [e]; exact h)
theorem span_one (x y n : Int) (hn : 1 ≤ n) : spanCells (x, y, n + 1) = (x, y) :: spanCells (x + 1, y, n) := by
  unfold spanCells runCells
  simp only
  rw [show (n + 1).toNat = n.toNat + 1 by omega, List.range_succ_eq_map, List.map_cons, List.map_map]
  congr 1
  · simp
  · refine List.map_congr_left fun a _ => ?_
    simp only [Function.comp]
    congr 1
    omega
/-- The cells of the spans are the cells. -/
theorem cells_segs : ∀ (C : List Cel), cellsOf (segs C) = C
  | [] => rfl
  | (x, y) :: r => by
    have ih := cells_segs r
    have hp := segs_pos r
    rw [segs]
    split
    · rename_i e
      rw [e] at ih
      rw [← ih]
      simp [cellsOf, spanCells, runCells]
    · rename_i x' y' n q e
      have i0 := hp (x', y', n) (by rw [e]; simp)
      simp only at i0
      rw [e] at ih
      split
      · rename_i hx
        obtain ⟨rfl, rfl⟩ := hx
        rw [← ih]
        simp only [cellsOf, List.flatMap_cons]
        rw [span_one _ _ _ i0]
        simp
      · rw [← ih]
        simp [cellsOf, spanCells, runCells]
theorem total_segs : ∀ (C : List Cel), total (segs C) = C.length
  | [] => rfl
  | (x, y) :: r => by
    have ih := total_segs r
    rw [segs]
    split
    · rename_i e
      rw [e] at ih
      simp [total] at ih ⊢
      omega
    · rename_i x' y' n q e
      rw [e] at ih
      split
      · simp [total] at ih ⊢; omega
      · simp [total] at ih ⊢; omega
/-- Where the first span begins. -/
theorem segs_cons (x y : Int) (r : List Cel) : ∃ n q, segs ((x, y) :: r) = (x, y, n) :: q := by
  rw [segs]
  split
  · exact ⟨_, _, rfl⟩
  · split
    · exact ⟨_, _, rfl⟩
    · exact ⟨_, _, rfl⟩
theorem segs_le : ∀ (C : List Cel), ∀ s ∈ segs C, s.2.2 ≤ C.length
  | [], s, h => by simp [segs] at h
  | (x, y) :: r, s, h => by
    have ih := segs_le r
    rw [segs] at h
    split at h
    · simp at h; subst h; simp only [List.length_cons]; omega
    · rename_i x' y' n q e
      have i0 := ih (x', y', n) (by rw [e]; simp)
      simp only at i0
      simp only [List.length_cons]
      split at h
      · rcases List.mem_cons.1 h with rfl | h
        · simp only; omega
        · have := ih s (by rw [e]; simp [h]); omega
      · rcases List.mem_cons.1 h with rfl | h
        · simp only; omega
        · have := ih s (by rw [e]; exact h); omega
theorem segs_from (cx : Int) : ∀ (C : List Cel) (ax ay : Int), Asc C → C.length ≤ 9999 → (∀ c ∈ C, cx ≤ c.1) → (∀ x y r, C = (x, y) :: r → ay < y ∨ (ay = y ∧ ax ≤ x)) → SegsFrom cx ax ay (segs C)
  | [], ax, ay, _, _, _, _ => trivial
  | (x, y) :: r, ax, ay, ha, hl, hc, h0 => by
    have h1 := h0 x y r rfl
    have h2 := hc (x, y) (by simp)
    have ha' : Asc r := (List.pairwise_cons.1 ha).2
    have hb : ∀ c ∈ r, before (x, y) c := (List.pairwise_cons.1 ha).1
    have hle := segs_le ((x, y) :: r)
    have ih := segs_from cx r (x + 1) y ha' (by simp at hl; omega) (fun c h => hc c (by simp [h])) (fun x' y' r' e => by
      have := hb (x', y') (by rw [e]; simp)
      unfold before at this
      simp only at this
      omega)
    rw [segs] at hle ⊢
    split
    · exact ⟨h1, h2, by omega, by omega, trivial⟩
    · rename_i x' y' n q e
      rw [e] at ih
      obtain ⟨i1, i2, i3, i4, i5⟩ := ih
      split
      · rename_i hx
        obtain ⟨rfl, rfl⟩ := hx
        have h9 := hle (x, y', n + 1) (by rw [e]; simp)
        simp only at h9
        refine ⟨h1, h2, by omega, by omega, ?_⟩
        rw [show x + (n + 1) = x + 1 + n by omega]
        exact i5
      · exact ⟨h1, h2, by omega, by omega, i1, i2, i3, i4, i5⟩

theorem minX_least : ∀ (C : List Cel) (x : Int), minX x C ≤ x ∧ ∀ c ∈ C, minX x C ≤ c.1
  | [], x => ⟨by simp [minX], fun c hc => by simp at hc⟩
  | c :: r, x => by
    have h := minX_least r (min x c.1)
    have e : minX x (c :: r) = minX (min x c.1) r := rfl
    rw [e]
    refine ⟨by omega, fun d hd => ?_⟩
    rcases List.mem_cons.1 hd with rfl | hd
    · omega
    · exact h.2 d hd
theorem minX_mem : ∀ (C : List Cel) (x : Int), minX x C = x ∨ ∃ c ∈ C, minX x C = c.1
  | [], x => .inl (by simp [minX])
  | c :: r, x => by
    have e : minX x (c :: r) = minX (min x c.1) r := rfl
    rw [e]
    rcases minX_mem r (min x c.1) with h | ⟨d, hd, h⟩
    · by_cases hx : x ≤ c.1
      · exact .inl (by omega)
      · exact .inr ⟨c, by simp, by omega⟩
    · exact .inr ⟨d, by simp [hd], h⟩

theorem farB_false {x y : Int} : farB x y = false ↔ (-2000000000000000000 ≤ x ∧ x ≤ 2000000000000000000) ∧ (-2000000000000000000 ≤ y ∧ y ≤ 2000000000000000000) := by
  simp only [farB, MC, Bool.or_eq_false_iff, decide_eq_false_iff_not]
  omega
theorem farL_near {C : List Cel} (h : farL C = false) : ∀ c ∈ C, (-2000000000000000000 ≤ c.1 ∧ c.1 ≤ 2000000000000000000) ∧ (-2000000000000000000 ≤ c.2 ∧ c.2 ≤ 2000000000000000000) := fun c hc => by
  have := List.any_eq_false.1 h c hc
  exact farB_false.1 (by simpa using this)
theorem corn_near {C : List Cel} (h : farL C = false) : (-2000000000000000000 ≤ (cornP C).1 ∧ (cornP C).1 ≤ 2000000000000000000) ∧ (-2000000000000000000 ≤ (cornP C).2 ∧ (cornP C).2 ≤ 2000000000000000000) := by
  have hn := farL_near h
  cases C with
  | nil => simp [cornP]
  | cons p r =>
    obtain ⟨x, y⟩ := p
    have h0 := hn (x, y) (by simp)
    simp only at h0
    refine ⟨?_, h0.2⟩
    show -2000000000000000000 ≤ minX x ((x, y) :: r) ∧ minX x ((x, y) :: r) ≤ 2000000000000000000
    rcases minX_mem ((x, y) :: r) x with e | ⟨c, hc, e⟩
    · rw [e]; exact h0.1
    · rw [e]; exact (hn c hc).1
theorem far_segs {C : List Cel} (h : farL C = false) : (segs C).any farS = false := by
  rw [List.any_eq_false]
  intro s hs
  have hp := segs_pos C s hs
  have hn := farL_near h
  have hm : ∀ c ∈ spanCells s, c ∈ C := fun c hc => by
    rw [← cells_segs C]
    exact List.mem_flatMap.2 ⟨s, hs, hc⟩
  have h1 := hn _ (hm (s.1, s.2.1) (by
    unfold spanCells runCells
    exact List.mem_map.2 ⟨0, List.mem_range.2 (by omega), by simp⟩))
  have h2 := hn _ (hm (s.1 + s.2.2 - 1, s.2.1) (by
    unfold spanCells runCells
    exact List.mem_map.2 ⟨(s.2.2 - 1).toNat, List.mem_range.2 (by omega), by congr 1; omega⟩))
  simp only at h1 h2
  unfold farS
  rw [farB_false.2 h1, farB_false.2 h2]
  simp

/-- The plain text is read back. -/
theorem parse_plain {C : List Cel} (ha : Asc C) (hl : C.length ≤ 100) (hn : (-4000000000000000000 ≤ (cornP C).1 ∧ (cornP C).1 ≤ 4000000000000000000) ∧ (-4000000000000000000 ≤ (cornP C).2 ∧ (cornP C).2 ≤ 4000000000000000000)) :
    ∃ l, parse ⟨(plainB C).toArray⟩ = .inr ((cornP C).1, (cornP C).2, l) ∧ (penRun (cornP C).1 (cornP C).2 l).2.2 = segs C := by
  obtain ⟨⟨cx, cy⟩, hco⟩ : ∃ c, cornP C = c := ⟨_, rfl⟩
  rw [hco] at hn
  have hR0 : Rest ⟨(plainB C).toArray⟩ 0 (Lib.itoa cx ++ (32 :: (Lib.itoa cy ++ (32 :: (runT (segR cx cx cy (segs C)) ++ [33]))))) := by
    unfold Rest plainB headB segRun
    rw [hco]
    simp only [segRun_T]
    simp
  rw [hco]
  generalize (⟨(plainB C).toArray⟩ : ByteArray) = s at hR0 ⊢
  have bl0 : bl s 0 = 0 := by
    refine bl_stop ?_
    by_cases hz : cx < 0
    · have h1 := hR0
      rw [Lib.itoa, if_pos hz] at h1
      rw [(rest_cons h1).2.1]; decide
    · have h1 := hR0
      rw [Lib.itoa, if_neg hz] at h1
      obtain ⟨d, r, hd⟩ := dec_ne cx.toNat
      have := isDg_iff.1 (dec_dig cx.toNat d (by rw [hd]; simp))
      rw [hd] at h1
      rw [(rest_cons h1).2.1]
      unfold isBl
      simp
      omega
  have n1 := numTok_rest hR0 (show isDg (((32 : UInt8).toNat : Nat) : Int) = false by decide) (by omega)
  have hR1 := rest_app hR0
  obtain ⟨a1, a2, a3⟩ := rest_cons hR1
  have notbl : ∀ (z : Int) (i : Nat) (t : List UInt8), Rest s i (Lib.itoa z ++ t) → isBl (pk s i) = false := fun z i t h => by
    unfold Lib.itoa at h
    split at h
    · rw [(rest_cons h).2.1]; decide
    · obtain ⟨d, r, hd⟩ := dec_ne z.toNat
      have := isDg_iff.1 (dec_dig z.toNat d (by rw [hd]; simp))
      rw [hd] at h
      rw [(rest_cons h).2.1]
      unfold isBl
      simp
      omega
  have bl1 : bl s (0 + (Lib.itoa cx).length) = 0 + (Lib.itoa cx).length + 1 := by
    rw [bl_go a1 (by rw [a2]; decide)]
    exact bl_stop (notbl cy _ _ a3)
  have n2 := numTok_rest a3 (show isDg (((32 : UInt8).toNat : Nat) : Int) = false by decide) (by omega)
  have hR2 := rest_app a3
  obtain ⟨b1, b2, b3⟩ := rest_cons hR2
  obtain ⟨r1, r2⟩ := runs_rest (segR cx cx cy (segs C)) (segR_ok cx _ _ _) b3
  have bl2 : bl s (0 + (Lib.itoa cx).length + 1 + (Lib.itoa cy).length) = 0 + (Lib.itoa cx).length + 1 + (Lib.itoa cy).length + 1 := by
    rw [bl_go b1 (by rw [b2]; decide)]
    exact bl_stop r2
  have hsz : bl s s.size = s.size := skip_end (Nat.le_refl _)
  refine ⟨(segR cx cx cy (segs C)).map (fun r => (r.1, ((r.2.toNat : Nat) : Int))), ?_, ?_⟩
  · unfold parse
    rw [bl0, n1]
    simp only
    rw [bl1, if_neg (by omega), n2]
    simp only
    rw [bl2, r1]
    simp only
    rw [hsz, if_neg (by omega)]
  · have hmin : ∀ c ∈ C, cx ≤ c.1 := fun c hc => by
      cases C with
      | nil => simp at hc
      | cons p r =>
        obtain ⟨x, y⟩ := p
        have := (minX_least ((x, y) :: r) x).2 c hc
        have e : cx = minX x ((x, y) :: r) := by
          have h := congrArg Prod.fst hco
          exact h.symm
        omega
    have hs := segs_from cx C cx cy ha (by omega) hmin (fun x y r e => by
      subst e
      have h1 : y = cy := congrArg Prod.snd hco
      exact .inr ⟨h1.symm, hmin (x, y) (by simp)⟩)
    have := pen_seg cx (segs C) cx cy [] hs
    rw [List.nil_append] at this
    exact this
theorem patR_plain {C : List Cel} (ha : Asc C) (hl : C.length ≤ 100) (hf : farL C = false) (hs : (plainB C).length ≤ 1500) : patR ⟨(plainB C).toArray⟩ = .inr C := by
  obtain ⟨l, h1, h2⟩ := parse_plain ha hl (by have := corn_near hf; omega)
  unfold patR
  rw [if_neg (by show ¬ 1500 < (plainB C).toArray.size; simp; omega), h1]
  simp only
  have hb : farB (cornP C).1 (cornP C).2 = false := farB_false.2 (corn_near hf)
  rw [h2, hb, far_segs hf, total_segs, cells_segs]
  simp
  omega
theorem patR_long {C : List Cel} (hs : ¬ (plainB C).length ≤ 1500) : patR ⟨(plainB C).toArray⟩ = .inl (1, 0) := by
  unfold patR
  rw [if_pos (by show 1500 < (plainB C).toArray.size; simp; omega)]

end Go.Proofs.YtiohpcnnpmnjhaaGreatDoor

namespace Go.Proofs.YtiohpcnnpmnjhaaGreatDoor
open Go.RowKit Go.Shelf
set_option linter.unusedVariables false

theorem known_any (k : Int) (w : World) : Calls Tryz.prog 18 #[.int .i64 k] w fun e w' => e = .returned (.bool (k == 0)) ∧ w' = w := by
  go_enter Tryz.func18, Tryz.ntmps18
  go_wp2_with (go_at_call 14; refine (num_any k _).mono ?_; rintro e w3 ⟨rfl, rfl⟩)
  go_ret
  exact ⟨rfl, rfl⟩

def cntB (n : Int) : Bool := decide (0 ≤ n) && decide (n ≤ 1000000000000000000)
theorem counted_any (n : Int) (w : World) : Calls Tryz.prog 19 #[.int .i64 n] w fun e w' => e = .returned (.bool (cntB n)) ∧ w' = w := by
  unfold cntB
  by_cases h0 : 0 ≤ n
  · have h1 : decide (0 ≤ n) = true := decide_eq_true h0
    rw [h1]
    go_enter Tryz.func19, Tryz.ntmps19
    go_wp2
    go_ret
    exact ⟨rfl, rfl⟩
  · have h1 : decide (0 ≤ n) = false := decide_eq_false h0
    rw [h1]
    go_enter Tryz.func19, Tryz.ntmps19
    go_wp2
    go_ret
    exact ⟨rfl, rfl⟩

/-- Have rule and text no error by themselves? -/
def rightB (rule text : ByteArray) : Bool := match ruleR rule with
  | .inl _ => false
  | .inr _ => match patR text with
    | .inl _ => false
    | .inr _ => true
set_option maxRecDepth 100000 in
set_option maxHeartbeats 800000 in
theorem right_any (rule text : ByteArray) (w : World) (h1 : rule.size ≤ maxLen) (h2 : text.size ≤ maxLen) :
    Calls Tryz.prog 17 #[.string rule, .string text] w fun e w' => e = .returned (.bool (rightB rule text)) ∧ Below w.heap.size w w' := by
  have hR := refRule_any rule w h1
  have hT := fun w => refRead_any text w h2
  obtain ⟨f', g', k, i, hr, hR'⟩ : ∃ f' g' k i, ((k == 0) = match ruleR rule with | .inl _ => false | .inr _ => true) ∧ Calls Tryz.prog 49 #[.string rule] w fun e w' => e = .returned (.tuple #[.agg (twoN f' g'), .int .i64 k, .int .i64 i]) ∧ Below w.heap.size w w' := by
    cases hr : ruleR rule with
    | inl x =>
      obtain ⟨k, i⟩ := x
      have hk := ruleR_bad hr
      refine ⟨noD, noD, k, i, by simpa using hk, hR.mono fun e w' h => ?_⟩
      unfold RefLaw at h; rw [hr] at h; exact ⟨h.2, h.1⟩
    | inr x =>
      obtain ⟨f, g⟩ := x
      refine ⟨f, g, 0, 0, rfl, hR.mono fun e w' h => ?_⟩
      unfold RefLaw at h; rw [hr] at h; exact ⟨h.2, h.1⟩
  obtain ⟨k2, i2, hp, hT'⟩ : ∃ k2 i2, ((k2 == 0) = match patR text with | .inl _ => false | .inr _ => true) ∧ ∀ w, Calls Tryz.prog 22 #[.string text] w fun e w' => (∃ v, e = .returned (.tuple #[v, .int .i64 k2, .int .i64 i2])) ∧ Below w.heap.size w w' := by
    cases hp : patR text with
    | inl x =>
      obtain ⟨k, i⟩ := x
      have hk := patR_bad hp
      refine ⟨k, i, by simpa using hk, fun w => (hT w).mono fun e w' h => ?_⟩
      unfold RefPat at h; rw [hp] at h; exact ⟨⟨_, h.2⟩, h.1⟩
    | inr C =>
      refine ⟨0, 0, rfl, fun w => (hT w).mono fun e w' h => ?_⟩
      unfold RefPat at h; rw [hp] at h; obtain ⟨hb, v, he, _⟩ := h; exact ⟨⟨v, he⟩, hb⟩
  have HB : Hid (rightB rule text = ((k == 0) && (k2 == 0))) := by
    show _ = _
    unfold rightB
    rw [hr, hp]
    cases ruleR rule <;> simp <;> cases patR text <;> simp
  have HL : Hid ((Tryz.prog.info? 77).map (·.size) = some (twoN f' g').size) := info27
  have H1 : Hid ((twoN f' g').all (·.oneCell') = true) := twoN_one _ _
  have HS : Hid ((twoN noD noD).size = (twoN f' g').size) := rfl
  obtain ⟨L, hL⟩ : ∃ L, twoN f' g' = L := ⟨_, rfl⟩
  rw [hL] at HL H1 HS
  rw [hL] at hR'
  clear hL hR hT hr hp
  cases hk : (k == 0) with
  | true =>
    go_enter Tryz.func17, Tryz.ntmps17
    go_wp2_with (first
      | (go_at_call 49; refine hR'.mono ?_; rintro e w1 ⟨rfl, b1⟩)
      | (refine wpList_store_row rfl 77 (Operand.tmp 5) (Operand.tmp 14) rfl w1.heap.size L rfl rfl 77 (twoN noD noD) (z18_new w1) HL.out HS.out H1.out ?_; go_frame
         have be2 : Below w.heap.size w ((w1.alloc (.cells Z18 77)).setRow w1.heap.size L) := below_row (b1.alloc b1.size _) b1.size L
         clear b1
         generalize ((w1.alloc (.cells Z18 77)).setRow w1.heap.size L) = W2 at *)
      | (go_at_call 22; refine (hT' _).mono ?_; rintro e w3 ⟨⟨v, rfl⟩, b3⟩))
    go_ret
    exact ⟨by rw [HB.out, hk]; rfl, be2.trans (b3.mono be2.size)⟩
  | false =>
    go_enter Tryz.func17, Tryz.ntmps17
    go_wp2_with (first
      | (go_at_call 49; refine hR'.mono ?_; rintro e w1 ⟨rfl, b1⟩)
      | (refine wpList_store_row rfl 77 (Operand.tmp 5) (Operand.tmp 14) rfl w1.heap.size L rfl rfl 77 (twoN noD noD) (z18_new w1) HL.out HS.out H1.out ?_; go_frame
         have be2 : Below w.heap.size w ((w1.alloc (.cells Z18 77)).setRow w1.heap.size L) := below_row (b1.alloc b1.size _) b1.size L
         clear b1
         generalize ((w1.alloc (.cells Z18 77)).setRow w1.heap.size L) = W2 at *)
      | (go_at_call 22; refine (hT' _).mono ?_; rintro e w3 ⟨⟨v, rfl⟩, b3⟩))
    go_ret
    exact ⟨by rw [HB.out, hk]; rfl, be2.trans (b3.mono be2.size)⟩

end Go.Proofs.YtiohpcnnpmnjhaaGreatDoor

namespace Go.Proofs.YtiohpcnnpmnjhaaGreatDoor
open Go.RowKit Go.Shelf
set_option linter.unusedVariables false

theorem alive_step : stepA ⟨#[66, 51, 47, 83, 50, 51]⟩ ⟨#[48, 32, 48, 32, 98, 111, 36, 50, 98, 111, 36, 51, 111, 33]⟩ 4000000000000 = (⟨#[49, 48, 48, 48, 48, 48, 48, 48, 48, 48, 48, 48, 48, 32, 49, 48, 48, 48, 48, 48, 48, 48, 48, 48, 48, 48, 48, 32, 98, 111, 36, 50, 98, 111, 36, 51, 111, 33]⟩, 0, 0) := by decide +kernel
theorem alive_orbit : orbitA ⟨#[66, 51, 47, 83, 50, 51]⟩ ⟨#[48, 32, 48, 32, 98, 111, 36, 50, 98, 111, 36, 51, 111, 33]⟩ = ((0, 4, 1, 1), 0, 0) := by decide +kernel

set_option maxRecDepth 100000 in
set_option maxHeartbeats 800000 in
/-- Two of the document's examples are told. -/
theorem alive_any (w : World) (ht : Tab w.heap.size w) : Calls Tryz.prog 16 #[] w fun e w' => e = .returned (.bool true) ∧ Below w.heap.size w w' := by
  have hP := step_any ⟨#[66, 51, 47, 83, 50, 51]⟩ ⟨#[48, 32, 48, 32, 98, 111, 36, 50, 98, 111, 36, 51, 111, 33]⟩ 4000000000000 w (by unfold maxLen; decide) (by unfold maxLen; decide) ht
  have hO := fun w => orbit_any ⟨#[66, 51, 47, 83, 50, 51]⟩ ⟨#[48, 32, 48, 32, 98, 111, 36, 50, 98, 111, 36, 51, 111, 33]⟩ w (by unfold maxLen; decide) (by unfold maxLen; decide)
  rw [alive_step] at hP
  simp only [alive_orbit, cycC] at hO
  go_enter Tryz.func16, Tryz.ntmps16
  go_wp2_with (first
    | (go_at_call 12; refine hP.mono ?_; rintro e w1 ⟨rfl, b1⟩; clear hP)
    | (go_at_call 20; refine (hO _).mono ?_; rintro e w2 ⟨rfl, b2⟩
       have t5 := blk_new w2 (.cells #[.int .i64 0, .int .i64 4, .int .i64 1, .int .i64 1] 37)
       have n1 := cell_of t5 1; have n2 := cell_of t5 2)
    | (go_at_call 18; refine (known_any 0 _).mono ?_; rintro e w3 ⟨rfl, rfl⟩))
  go_ret
  exact ⟨rfl, (b1.trans (b2.mono b1.size)).alloc (Nat.le_trans b1.size b2.size) _⟩

end Go.Proofs.YtiohpcnnpmnjhaaGreatDoor

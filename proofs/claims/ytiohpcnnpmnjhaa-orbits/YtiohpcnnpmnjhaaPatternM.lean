import Derived.Test.YtiohpcnnpmnjhaaFarM
import Derived.Test.YtiohpcnnpmnjhaaCellRow
import Derived.Maps.AppendAt
namespace Go.Proofs.Ytiohpcnnpmnjhaa
open Go.RowKit
set_option linter.unusedVariables false

/-- The cells of a span. -/
def runCells (x y : Int) (n : Nat) : List Cel := (List.range n).map fun i : Nat => (x + (i : Int), y)
theorem runCells_succ (x y : Int) (n : Nat) : runCells x y (n + 1) = runCells x y n ++ [(x + (n : Int), y)] := by simp [runCells, List.range_succ]
theorem runCells_length (x y : Int) (n : Nat) : (runCells x y n).length = n := by simp [runCells]
def spanCells (s : Span) : List Cel := runCells s.1 s.2.1 s.2.2.toNat
/-- The cells of spans. -/
def cellsOf (sp : List Span) : List Cel := sp.flatMap spanCells
theorem cellsOf_snoc (a : List Span) (s : Span) : cellsOf (a ++ [s]) = cellsOf a ++ spanCells s := by simp [cellsOf]
theorem cellsOf_length : ∀ (sp : List Span), (∀ s ∈ sp, okSpan s) → ((cellsOf sp).length : Int) = total sp
  | [], _ => by simp [cellsOf, total]
  | s :: r, h => by
    have h1 := cellsOf_length r (fun x hx => h x (by simp [hx]))
    obtain ⟨_, _, h3, h4⟩ := h s (by simp)
    simp [cellsOf, total, spanCells, runCells] at h1 ⊢
    omega

theorem infoCell : (Try.prog.info? 99).map (fun i => (i.zero, i.size, i.bytes)) = some (some (.agg #[.int .i64 0, .int .i64 0]), 2, 16) := by kernel_rfl

set_option maxHeartbeats 1600000 in
theorem cellsOf_row (g cap : Nat) (sp : List Span) (w : World) (h : SpansAt w g sp) (hg : g < w.heap.size) (hl : sp.length ≤ 1500) (hb : ∀ s ∈ sp, okSpan s) (ht : total sp ≤ 15000000) :
    Calls Try.prog 48 #[.slice (some ⟨g, 0, none⟩) sp.length cap] w fun e w' => (∃ v, e = .returned v ∧ w'.ownsRow w.heap.size 99 2 v (cellsOf sp).length (flatC (cellsOf sp))) ∧ Below w.heap.size w w' := by
  obtain ⟨i0, hi, hz0, hz1, hz2⟩ := info_parts infoCell
  go_enter Try.func48, Try.ntmps48
  go_wp2
  go_loopw [3, 9] (fun v i wr => ∃ k : Nat, k ≤ sp.length ∧ i = .int .i64 k ∧ wr.ownsRow w.heap.size 99 2 v (cellsOf (sp.take k)).length (flatC (cellsOf (sp.take k))) ∧ Below w.heap.size w wr) (fun _ i _ => sp.length - (intOf i).toNat)
  case atStart => exact ⟨0, Nat.zero_le _, rfl, World.ownsRow_nil _ _ _ _, Below.refl _ _⟩
  case round =>
    obtain ⟨k, hk, rfl, own, hbw⟩ := hrel
    by_cases hlt : k < sp.length
    · obtain ⟨⟨x, y, n⟩, hs⟩ : ∃ s, sp[k]? = some s := ⟨sp[k], by simp [hlt]⟩
      obtain ⟨e0, e1, e2⟩ := (h.below hbw hg).get k _ hs
      obtain ⟨b1, b2, b3, b4⟩ := hb (x, y, n) (List.mem_of_getElem? hs)
      simp only at e0 e1 e2 b1 b2 b3 b4
      have hT : cellsOf (sp.take (k + 1)) = cellsOf (sp.take k) ++ spanCells (x, y, n) := by rw [List.take_add_one, hs]; exact cellsOf_snoc _ _
      have hB := cellsOf_length (sp.take k) (fun s hs => hb s (List.mem_of_mem_take hs))
      have hB' := total_bd (sp.take k) (fun s hs => hb s (List.mem_of_mem_take hs))
      have hL : (sp.take k).length ≤ k := List.length_take_le _ _
      have hC : (cellsOf (sp.take k)).length ≤ 15000000 := by omega
      obtain ⟨C, hCd⟩ : ∃ C, cellsOf (sp.take k) = C := ⟨_, rfl⟩
      rw [hCd] at own hT hC
      have HT : Hid (cellsOf (sp.take (k + 1)) = C ++ spanCells (x, y, n)) := hT
      clear hT hs hL hB hB' hCd
      obtain ⟨nn, rfl⟩ : ∃ nn : Nat, n = (nn : Int) := ⟨n.toNat, by omega⟩
      have hsz := hbw.size
      obtain ⟨sb, hsb⟩ : ∃ sb, wr.heap.size = sb := ⟨_, rfl⟩
      rw [hsb] at hsz
      go_wp2
      go_loopw [3, 15] (fun v i wy => ∃ j : Nat, j ≤ nn ∧ i = .int .i64 j ∧ wy.ownsRow w.heap.size 99 2 v (C.length + j) (flatC (C ++ runCells x y j)) ∧ Below w.heap.size w wy ∧ wy.heap[sb]? = some (.cells #[.int .i64 x, .int .i64 y, .int .i64 (nn : Int)] 106 (0, 0))) (fun _ i _ => nn - (intOf i).toNat)
      case atStart =>
        refine ⟨0, Nat.zero_le _, rfl, ?_, hbw.alloc (by omega) _, ?_⟩
        · simpa [runCells] using own.alloc _
        · rw [← hsb]; show (wr.heap.push _)[wr.heap.size]? = _; simp
      case round =>
        clear own
        obtain ⟨j, hj, rfl, own, hbw2, hh⟩ := hrel
        by_cases hlt2 : j < nn
        · have c0 : wr.cell? ⟨sb, 0, none⟩ = some (.int .i64 x) := by simp [World.cell?, hh]
          have c1 : wr.cell? ⟨sb, 1, none⟩ = some (.int .i64 y) := by simp [World.cell?, hh]
          have hsz2 := hbw2.size
          have sbl : sb < wr.heap.size := (Array.getElem?_eq_some_iff.1 hh).1
          go_wp2_with (at_builtin; refine wpList_append_own _ rfl _ _ 65 rfl w.heap.size 99 i0 (.agg #[.int .i64 0, .int .i64 0]) 2 16 Try.underlying65 hi hz0 hz1 hz2 rfl (by decide) _ _ _ rfl (own.alloc _) ⟨wr.heap.size, 0, none⟩ 1 1 [.int .i64 (x + (j : Int)), .int .i64 y] rfl rfl (cell_two_new _ _ _ _) (by simp [Value.oneCell']) (by unfold maxLen; omega) (by omega) (by simp; omega) ?_; intro v' w1 own1 hgr _)
          go_roundw
          case rel =>
            refine ⟨j + 1, by omega, by go_num, ?_, (hbw2.alloc (by omega) _).grown hgr (by simp; omega) (fun k hk => (own.lt k hk).1), other_kept (own.alloc _) hgr (by rw [Below.heap_alloc _ _ _ sbl]; exact hh) (by decide)⟩
            rw [runCells_succ, ← List.append_assoc, flatC_append]
            exact own1
          case measure => simp [intOf]; omega
        · have hj' : j = nn := by omega
          subst hj'
          have HO : Hid (wr.ownsRow w.heap.size 99 2 u3 (cellsOf (sp.take (k + 1))).length (flatC (cellsOf (sp.take (k + 1))))) := by
            show wr.ownsRow _ _ _ _ _ _
            rw [HT.out, List.length_append]
            simpa [spanCells, runCells_length] using own
          go_wp2
          go_roundw
          case rel => exact ⟨k + 1, by omega, by go_num, HO.out, hbw2⟩
          case measure => simp [intOf]; omega
    · have hk' : k = sp.length := by omega
      subst hk'
      rw [List.take_length] at own
      go_wp2
      go_ret
      exact ⟨⟨_, rfl, own⟩, hbw⟩

set_option maxHeartbeats 800000 in
theorem cellsOf_any (B : Nat) (v : Value) (sp : List Span) (w : World) (h : w.ownsRow B 106 3 v sp.length (flat sp)) (hl : sp.length ≤ 1500) (hb : ∀ s ∈ sp, okSpan s) :
    Calls Try.prog 48 #[v] w fun e w' => (∃ v, e = .returned v ∧ w'.ownsRow w.heap.size 99 2 v (cellsOf sp).length (flatC (cellsOf sp))) ∧ Below w.heap.size w w' := by
  rcases spans_cases h with ⟨rfl, rfl⟩ | ⟨g, cap, rfl, hS, hg⟩
  · go_enter Try.func48, Try.ntmps48
    go_wp2
    refine wp_loop_rounds 1 ?_
    rw [rounds_succ]
    go_wp2
    go_ret
    exact ⟨⟨_, rfl, World.ownsRow_nil _ _ _ _⟩, Below.refl _ _⟩
  · have := total_bd sp hb
    exact cellsOf_row g cap sp w hS hg hl hb (by omega)

end Go.Proofs.Ytiohpcnnpmnjhaa

namespace Go.Proofs.Ytiohpcnnpmnjhaa
open Go.RowKit
set_option linter.unusedVariables false

theorem dv_pos {s : ByteArray} {i : Nat} (h0 : ¬ pk s i = 48) (hd : isDg (pk s i) = true) : ∀ k, 0 < k → 1 ≤ dv s i k := by
  intro k
  induction k with
  | zero => intro h; omega
  | succ k ih =>
    intro _
    have hd' := isDg_iff.1 hd
    rw [dv]
    cases k with
    | zero => simp [dv]; omega
    | succ k => have := ih (by omega); omega

/-- What a run may be. -/
def okRun (r : Nat × Int) : Prop := 1 ≤ r.1 ∧ r.1 ≤ 9999 ∧ isLt r.2 = true

theorem cntTok_ok {s : ByteArray} {i n k : Nat} (hi : i ≤ s.size) (h : cntTok s i = some (n, k)) : 1 ≤ n ∧ n ≤ 9999 := by
  unfold cntTok at h
  split at h
  · rename_i hd
    split at h
    · cases h
    · rename_i hc
      simp only [Option.some.injEq, Prod.mk.injEq] at h
      obtain ⟨rfl, rfl⟩ := h
      have hlt := lt_of_pk (isDg_pos hd)
      have hg := dg_go hlt hd
      have hge := dg_le s (i + 1) (by omega)
      rw [← hg] at hge
      have h1 := dv_pos (fun e => hc (.inl e)) hd (dg s i - i) (by omega)
      have h2 := dv_lt s i (dg s i - i) (fun j hj => skip_all hi (by omega) (by show i + j < dg s i; omega))
      have h3 : 10 ^ (dg s i - i) ≤ 10000 := Nat.pow_le_pow_right (n := 10) (by omega) (by omega : dg s i - i ≤ 4)
      omega
  · simp only [Option.some.injEq, Prod.mk.injEq] at h
    omega

theorem runsF_ok (s : ByteArray) : ∀ (f i : Nat) (l : List (Nat × Int)) (e : Nat), i ≤ s.size → runsF s f i = .inr (l, e) → l.length ≤ f ∧ (∀ r ∈ l, okRun r) ∧ e ≤ s.size := by
  intro f
  induction f with
  | zero => intro i l e _ h; simp [runsF] at h
  | succ f ih =>
    intro i l e hi h
    rw [runsF] at h
    split at h
    · rename_i h33
      simp only [Sum.inr.injEq, Prod.mk.injEq] at h
      obtain ⟨rfl, rfl⟩ := h
      have := lt_of_pk (s := s) (i := i) (by omega)
      refine ⟨by simp, by simp, by omega⟩
    · split at h
      · cases h
      · rename_i n k hc
        split at h
        · rename_i hl
          have hk := lt_of_pk (isLt_pos hl)
          have hb := bl_le s (k + 1) (by omega)
          split at h
          · cases h
          · rename_i l' e' hr
            simp only [Sum.inr.injEq, Prod.mk.injEq] at h
            obtain ⟨rfl, rfl⟩ := h
            have h1 := ih (bl s (k + 1)) l' e' hb.2 hr
            have h2 := cntTok_ok hi hc
            refine ⟨by simp; omega, ?_, h1.2.2⟩
            intro r hr
            rcases List.mem_cons.1 hr with rfl | hr
            · exact ⟨h2.1, h2.2, hl⟩
            · exact h1.2.1 r hr
        · cases h

theorem parse_ok {s : ByteArray} {x y : Int} {l : List (Nat × Int)} (hs : s.size ≤ 1500) (h : parse s = .inr (x, y, l)) : l.length ≤ 1500 ∧ ∀ r ∈ l, okRun r := by
  unfold parse at h
  have l0 := bl_le s 0 (Nat.zero_le _)
  split at h
  · cases h
  · rename_i x' j h1
    have l1 := numTok_le l0.2 h1
    split at h
    · cases h
    · have l2 := bl_le s j l1.2
      split at h
      · cases h
      · rename_i y' k h3
        have l3 := numTok_le l2.2 h3
        have l4 := bl_le s k l3.2
        split at h
        · cases h
        · rename_i l' e h4
          split at h
          · cases h
          · simp only [Sum.inr.injEq, Prod.mk.injEq] at h
            obtain ⟨rfl, rfl, rfl⟩ := h
            have := runsF_ok s _ _ _ _ l4.2 h4
            exact ⟨by omega, this.2.1⟩

/-- How far the pen can have gone. -/
structure PenBd (x0 : Int) (st : Int × Int × List Span) (m : Nat) : Prop where
  x1 : -2000000000000000001 - 9999 * (m : Int) ≤ st.1
  x2 : st.1 ≤ 2000000000000000001 + 9999 * (m : Int)
  z1 : -2000000000000000001 ≤ x0
  z2 : x0 ≤ 2000000000000000001
  le : st.2.2.length ≤ m
  ok : ∀ s ∈ st.2.2, okSpan s

theorem penBd_go {x0 : Int} {st : Int × Int × List Span} {m : Nat} {r : Nat × Int} (h : PenBd x0 st m) (hr : okRun r) (hm : m ≤ 1500) : PenBd x0 (penGo x0 st r) (m + 1) := by
  obtain ⟨x1, x2, z1, z2, le, ok⟩ := h
  obtain ⟨r1, r2, r3⟩ := hr
  unfold penGo
  split
  · exact ⟨by simp; omega, by simp; omega, z1, z2, by simp; omega, ok⟩
  · split
    · refine ⟨by simp; omega, by simp; omega, z1, z2, by simp; omega, ?_⟩
      intro s hs
      simp at hs
      rcases hs with hs | rfl
      · exact ok s hs
      · exact ⟨by simp; omega, by simp; omega, by simp, by simp; omega⟩
    · exact ⟨by simp; omega, by simp; omega, z1, z2, by simp; omega, ok⟩

theorem penBd_fold {x0 : Int} : ∀ (l : List (Nat × Int)) (st : Int × Int × List Span) (m : Nat), PenBd x0 st m → (∀ r ∈ l, okRun r) → m + l.length ≤ 1500 → PenBd x0 (l.foldl (penGo x0) st) (m + l.length)
  | [], st, m, h, _, _ => h
  | r :: l, st, m, h, hl, hm => by
    simp at hm
    have := penBd_fold l (penGo x0 st r) (m + 1) (penBd_go h (hl r (by simp)) (by omega)) (fun q hq => hl q (by simp [hq])) (by omega)
    simpa [Nat.add_assoc, Nat.add_comm 1] using this

theorem penRun_bd {x y : Int} {l : List (Nat × Int)} (hx : -2000000000000000001 ≤ x ∧ x ≤ 2000000000000000001) (h : l.length ≤ 1500) (hl : ∀ r ∈ l, okRun r) : (penRun x y l).2.2.length ≤ 1500 ∧ ∀ s ∈ (penRun x y l).2.2, okSpan s := by
  have := penBd_fold l (x, y, []) 0 ⟨by simp; omega, by simp; omega, hx.1, hx.2, by simp, by simp⟩ hl (by omega)
  exact ⟨by have := this.le; unfold penRun; omega, this.ok⟩

theorem capP_far (x y : Int) : farB (capP x) (capP y) = farB x y := by
  rw [Bool.eq_iff_iff]
  unfold farB capP MC
  simp only [Bool.or_eq_true, decide_eq_true_eq]
  split <;> split <;> (try split) <;> (try split) <;> omega
theorem capP_near {x y : Int} (h : farB x y = false) : capP x = x ∧ capP y = y := by
  unfold farB MC at h
  simp at h
  unfold capP MC
  refine ⟨?_, ?_⟩
  · rw [if_neg (by omega), if_neg (by omega)]
  · rw [if_neg (by omega), if_neg (by omega)]

theorem ownsRow_below {w w' : World} {B : Nat} {e : TypeId} {m : Nat} {v : Value} {n : Nat} {xs : List Value} (h : w.ownsRow B e m v n xs) (hb : Below w.heap.size w w') : w'.ownsRow B e m v n xs := by
  obtain ⟨h1, h2⟩ := h
  refine ⟨h1, ?_⟩
  rcases h2 with h2 | ⟨g, cap, cur, hv, hg, hh, r⟩
  · exact .inl h2
  · exact .inr ⟨g, cap, cur, hv, hg, by rw [hb.block g (Array.getElem?_eq_some_iff.1 hh).1]; exact hh, r⟩

/-- The document's answer to a pattern's text: the error and its place, or the cells. -/
def patR (s : ByteArray) : (Int × Nat) ⊕ List Cel :=
  if 1500 < s.size then .inl (1, 0)
  else match parse s with
    | .inl i => .inl (2, i)
    | .inr (x, y, l) =>
      if farB x y || (penRun x y l).2.2.any farS then .inl (4, 0)
      else if 100 < total (penRun x y l).2.2 then .inl (5, 0)
      else .inr (cellsOf (penRun x y l).2.2)

/-- What readPattern does. -/
def PatOut (s : ByteArray) (w : World) (e : Ending) (w' : World) : Prop :=
  Below w.heap.size w w' ∧ match patR s with
    | .inl (k, i) => e = .panicked (refusal k i)
    | .inr C => ∃ v, e = .returned v ∧ w'.ownsRow w.heap.size 99 2 v C.length (flatC C)

set_option maxHeartbeats 800000 in
theorem readPattern_any (s : ByteArray) (w : World) (hm : s.size ≤ maxLen) : Calls Try.prog 32 #[.string s] w (PatOut s w) := by
  unfold maxLen at hm
  by_cases hs : 1500 < s.size
  · go_enter Try.func32, Try.ntmps32
    go_wp2_with (go_at_call 20; refine (giveUp_any _ _ _).mono ?_; rintro e w1 ⟨rfl, rfl⟩)
    exact ⟨rfl, Below.refl _ _, by simp [patR, hs]⟩
  have hs' : s.size ≤ 1500 := by omega
  have hF := readForm_any s w hs'
  cases hp : parse s with
  | inl i =>
    rw [formOut_bad w hp] at hF
    go_enter Try.func32, Try.ntmps32
    go_wp2_with (go_at_call 43; refine hF.mono ?_; rintro e w1 ⟨rfl, hb1⟩)
    exact ⟨rfl, hb1, by simp [patR, hs, hp]⟩
  | inr p =>
    obtain ⟨x, y, l⟩ := p
    rw [formOut_ok w hp] at hF
    obtain ⟨hl1, hl2⟩ := parse_ok hs' hp
    obtain ⟨hsl, hso⟩ := penRun_bd (y := capP y) (capP_bd x) hl1 hl2
    have hI := fun w => isFar_any (capP x) (capP y) w
    simp only [capP_far] at hI
    have hcp := capP_near (x := x) (y := y)
    obtain ⟨X, hX⟩ : ∃ X, capP x = X := ⟨_, rfl⟩
    obtain ⟨Y, hY⟩ : ∃ Y, capP y = Y := ⟨_, rfl⟩
    obtain ⟨sp, hsp⟩ : ∃ sp, (penRun X Y l).2.2 = sp := ⟨_, rfl⟩
    rw [hX, hY] at hF hsl hso
    simp only [hX, hY] at hI hcp
    rw [hsp] at hsl hso
    unfold FormOk at hF
    simp only [hsp] at hF
    clear hX hY
    cases hf : farB x y with
    | true =>
      simp only [hf] at hI
      go_enter Try.func32, Try.ntmps32
      go_wp2_with (first
        | (go_at_call 43; refine hF.mono ?_; rintro e w1 ⟨v, rfl, own, hb1⟩)
        | (go_at_call 44; refine (hI _).mono ?_; rintro e w2 ⟨rfl, rfl⟩)
        | (go_at_call 20; refine (giveUp_any _ _ _).mono ?_; rintro e w3 ⟨rfl, rfl⟩))
      exact ⟨rfl, (hb1.alloc hb1.size _).alloc (by have := hb1.size; simp; omega) _, by simp [patR, hs, hp, hf]⟩
    | false =>
      simp only [hf] at hI
      obtain ⟨rfl, rfl⟩ := hcp hf
      cases hfs : sp.any farS with
      | true =>
        have hC := fun v w2 (own : World.ownsRow w2 w.heap.size 106 3 v sp.length (flat sp)) => containsFunc_any w.heap.size v sp w2 own hsl hso
        simp only [hfs] at hC
        go_enter Try.func32, Try.ntmps32
        go_wp2_with (first
          | (go_at_call 43; refine hF.mono ?_; rintro e w1 ⟨v, rfl, own, hb1⟩)
          | (go_at_call 44; refine (hI _).mono ?_; rintro e w2 ⟨rfl, rfl⟩)
          | (go_at_call 45; refine (hC _ _ ((own.alloc _).alloc _)).mono ?_; rintro e w3 ⟨rfl, hb3⟩)
          | (go_at_call 20; refine (giveUp_any _ _ _).mono ?_; rintro e w3 ⟨rfl, rfl⟩))
        exact ⟨rfl, ((hb1.alloc hb1.size _).alloc (by have := hb1.size; simp; omega) _).trans (hb3.mono (by have := hb1.size; simp; omega)), by simp [patR, hs, hp, hf, hsp, hfs]⟩
      | false =>
        have hC := fun v w2 (own : World.ownsRow w2 w.heap.size 106 3 v sp.length (flat sp)) => containsFunc_any w.heap.size v sp w2 own hsl hso
        simp only [hfs] at hC
        by_cases ht : 100 < total sp
        · go_enter Try.func32, Try.ntmps32
          go_wp2_with (first
          | (go_at_call 43; refine hF.mono ?_; rintro e w1 ⟨v, rfl, own, hb1⟩)
          | (go_at_call 44; refine (hI _).mono ?_; rintro e w2 ⟨rfl, rfl⟩)
          | (go_at_call 45; have own2 := (own.alloc (.cells #[.int .i64 X, .int .i64 Y] 99)).alloc (.cells #[.int .i64 X, .int .i64 Y] 99); refine (hC _ _ own2).mono ?_; rintro e w3 ⟨rfl, hb3⟩; have own3 := ownsRow_below own2 hb3)
          | (go_at_call 47; refine (countCells_any w.heap.size _ sp _ own3 hsl hso).mono ?_; rintro e w4 ⟨rfl, hb4⟩; have own4 := ownsRow_below own3 hb4)
          | (go_at_call 20; refine (giveUp_any _ _ _).mono ?_; rintro e w5 ⟨rfl, rfl⟩))
          refine ⟨rfl, ?_, by simp [patR, hs, hp, hf, hsp, hfs, ht]⟩
          have b3 := ((hb1.alloc hb1.size _).alloc (by have := hb1.size; simp; omega) _).trans (hb3.mono (by have := hb1.size; simp; omega))
          exact b3.trans (hb4.mono b3.size)
        · go_enter Try.func32, Try.ntmps32
          go_wp2_with (first
          | (go_at_call 43; refine hF.mono ?_; rintro e w1 ⟨v, rfl, own, hb1⟩)
          | (go_at_call 44; refine (hI _).mono ?_; rintro e w2 ⟨rfl, rfl⟩)
          | (go_at_call 45; have own2 := (own.alloc (.cells #[.int .i64 X, .int .i64 Y] 99)).alloc (.cells #[.int .i64 X, .int .i64 Y] 99); refine (hC _ _ own2).mono ?_; rintro e w3 ⟨rfl, hb3⟩; have own3 := ownsRow_below own2 hb3)
          | (go_at_call 47; refine (countCells_any w.heap.size _ sp _ own3 hsl hso).mono ?_; rintro e w4 ⟨rfl, hb4⟩; have own4 := ownsRow_below own3 hb4)
          | (go_at_call 48; refine (cellsOf_any w.heap.size _ sp _ own4 hsl hso).mono ?_; rintro e w5 ⟨⟨v5, rfl, own5⟩, hb5⟩))
          go_ret
          have b3 := ((hb1.alloc hb1.size _).alloc (by have := hb1.size; simp; omega) _).trans (hb3.mono (by have := hb1.size; simp; omega))
          have b4 := b3.trans (hb4.mono b3.size)
          have hpt : patR s = .inr (cellsOf sp) := by simp [patR, hs, hp, hf, hsp, hfs, ht]
          unfold PatOut
          rw [hpt]
          exact ⟨b4.trans (hb5.mono b4.size), v5, rfl, ownsRow_mono own5 b4.size⟩

/-- Where a pattern's cells may lie. -/
def inWin (X0 Y0 : Int) (c : Cel) : Prop := X0 ≤ c.1 ∧ c.1 ≤ X0 + 20000000 ∧ Y0 ≤ c.2 ∧ c.2 ≤ Y0 + 20000000

end Go.Proofs.Ytiohpcnnpmnjhaa

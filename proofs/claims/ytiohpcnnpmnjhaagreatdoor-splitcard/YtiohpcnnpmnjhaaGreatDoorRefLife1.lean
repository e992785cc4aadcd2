import Derived.Test.YtiohpcnnpmnjhaaGreatDoorLifeSpec
import Derived.Deep.LoopGhost
import Derived.Deep.CutRange
namespace Go.Proofs.YtiohpcnnpmnjhaaGreatDoor
open Go.RowKit
set_option linter.unusedVariables false

/-- A list of cells as a call takes it. -/
def RowAt (w : World) (v : Value) (C : List Cel) : Prop := (v = .slice none 0 0 ∧ C = []) ∨ ∃ g cap, v = .slice (some ⟨g, 0, none⟩) C.length cap ∧ CellsAt w g C ∧ g < w.heap.size
theorem RowAt.of_owns {w : World} {B : Nat} {t : TypeId} {v : Value} {C : List Cel} (h : w.ownsRow B t 2 v C.length (flatC C)) : RowAt w v C := cells_cases h
theorem RowAt.below {w w' : World} {v : Value} {C : List Cel} (h : RowAt w v C) (hb : Below w.heap.size w w') : RowAt w' v C := by
  rcases h with h | ⟨g, cap, h1, h2, h3⟩
  · exact .inl h
  · exact .inr ⟨g, cap, h1, h2.below hb h3, Nat.lt_of_lt_of_le h3 hb.size⟩
theorem RowAt.slice {w : World} {v : Value} {C : List Cel} (h : RowAt w v C) : ∃ ad cp, v = .slice ad C.length cp := by
  rcases h with ⟨rfl, rfl⟩ | ⟨g, cap, rfl, _⟩
  · exact ⟨none, 0, rfl⟩
  · exact ⟨_, _, rfl⟩
theorem RowAt.get {w : World} {ad : Option Addr} {cp : Nat} {C : List Cel} (h : RowAt w (.slice ad C.length cp) C) {k : Nat} {c : Cel} (hk : C[k]? = some c) :
    ∃ g, ad = some ⟨g, 0, none⟩ ∧ g < w.heap.size ∧ ∀ w', Below w.heap.size w w' → w'.cell? ⟨g, k * 2, none⟩ = some (.int .i64 c.1) ∧ w'.cell? ⟨g, k * 2 + 1, none⟩ = some (.int .i64 c.2) := by
  rcases h with ⟨_, rfl⟩ | ⟨g, cap, h1, h2, h3⟩
  · simp at hk
  · cases h1
    exact ⟨g, rfl, h3, fun w' hb => (h2.below hb h3).get k c hk⟩

theorem eqIn_rcell (a b c d : Int) (w : World) : (Op.equalIn 10000 44 (.agg #[.int .i64 a, .int .i64 b]) (.agg #[.int .i64 c, .int .i64 d])).run Tryz.prog w = .ok (a == c && b == d) w := by
  have u3 := Tryz.underlying3
  have a3 := Tryz.isAgg3
  have z3 := Tryz.sizeOf3
  rw [show (10000 : Nat) = 9999 + 1 from rfl, Op.equalIn]
  simp only [Sem.run_bind, run_underlying Tryz.underlying44, Result.andThen_ok]
  go_simp
  by_cases h1 : a = c <;> by_cases h2 : b = d <;> simp [h1, h2]

set_option maxHeartbeats 800000 in
theorem ahead_any (a b c d : Int) (w : World) :
    Calls Tryz.prog 58 #[.agg #[.int .i64 a, .int .i64 b], .agg #[.int .i64 c, .int .i64 d]] w fun e w' => e = .returned (.bool (decide (before (a, b) (c, d)))) ∧ w' = (w.alloc (.cells #[.int .i64 a, .int .i64 b] 44)).alloc (.cells #[.int .i64 c, .int .i64 d] 44) := by
  by_cases h : b = d
  · subst h
    by_cases h2 : a < c
    · go_enter Tryz.func58, Tryz.ntmps58
      go_wp2
      go_ret
      exact ⟨by simp [before, h2], rfl⟩
    · go_enter Tryz.func58, Tryz.ntmps58
      go_wp2
      go_ret
      exact ⟨by simp [before]; omega, rfl⟩
  · have hne : (b != d) = true := by simpa using h
    have hnb : ¬ b = d := h
    by_cases h2 : b < d
    · go_enter Tryz.func58, Tryz.ntmps58
      go_wp2
      go_ret
      exact ⟨by simp [before, h2], rfl⟩
    · go_enter Tryz.func58, Tryz.ntmps58
      go_wp2
      go_ret
      exact ⟨ret_bool (a := false) (decide_eq_false (by unfold before; simp only; omega)).symm, rfl⟩

set_option maxHeartbeats 800000 in
theorem in_any (v : Value) (C : List Cel) (x y : Int) (w : World) (h : RowAt w v C) (hl : C.length ≤ 1000000) :
    Calls Tryz.prog 75 #[v, .agg #[.int .i64 x, .int .i64 y]] w fun e w' => e = .returned (.bool (decide ((x, y) ∈ C))) ∧ Below w.heap.size w w' := by
  obtain ⟨ad, cp, rfl⟩ := h.slice
  have heq := fun a b c d w => eqIn_rcell a b c d w
  go_enter Tryz.func75, Tryz.ntmps75
  go_wp2
  go_loopw [5] (fun i wr => ∃ k : Nat, k ≤ C.length ∧ i = .int .i64 k ∧ Below w.heap.size w wr ∧ wr.heap[w.heap.size]? = some (.cells #[.int .i64 x, .int .i64 y] 44 (0, 0)) ∧ Hid (∀ c ∈ C.take k, c ≠ (x, y))) (fun i _ => C.length - (intOf i).toNat)
  case atStart => exact ⟨0, Nat.zero_le _, rfl, (Below.refl _ _).alloc (Nat.le_refl _) _, blk_new w _, fun c hc => by simp at hc⟩
  case round =>
    obtain ⟨k, hk, rfl, hb, b0, hn⟩ := hrel
    have c0 := cell_of b0 0
    have c1 := cell_of b0 1
    by_cases hlt : k < C.length
    · have hdc : decide ((k : Int) < (C.length : Int)) = true := decide_eq_true (by omega)
      obtain ⟨⟨x', y'⟩, hs⟩ : ∃ s, C[k]? = some s := ⟨C[k], by simp [hlt]⟩
      obtain ⟨g, rfl, hg, hget⟩ := h.get hs
      obtain ⟨d0, d1⟩ := hget wr hb
      simp only at d0 d1
      by_cases he : x' = x ∧ y' = y
      · obtain ⟨rfl, rfl⟩ := he
        have hm : decide ((x', y') ∈ C) = true := decide_eq_true (List.mem_of_getElem? hs)
        have HM : Hid (decide ((x', y') ∈ C) = true) := hm
        clear hm hs
        go_wp2
        go_quiet (fail)
        go_wp2
        go_ret
        exact ⟨ret_bool (a := true) HM.out.symm, below_drewN hb _⟩
      · have hne : (x' == x && y' == y) = false := by simpa using he
        have HN : Hid (∀ c ∈ C.take (k + 1), c ≠ (x, y)) := fun c hc => by
          rw [List.take_add_one, hs] at hc
          rcases List.mem_append.1 hc with hc | hc
          · exact hn.out c hc
          · simp at hc; subst hc; intro e; cases e; exact he ⟨rfl, rfl⟩
        clear hs he
        go_wp2
        go_quiet (fail)
        go_wp2
        go_roundw
        case rel => exact ⟨k + 1, by omega, by go_num, below_drewN hb _, b0, HN⟩
        case measure => simp [intOf]; omega
    · have hdc : decide ((k : Int) < (C.length : Int)) = false := decide_eq_false (by omega)
      obtain rfl : k = C.length := by omega
      have HM : Hid (decide ((x, y) ∈ C) = false) := by
        have := hn.out
        rw [List.take_length] at this
        exact decide_eq_false (fun hc => this _ hc rfl)
      go_wp2
      go_ret
      exact ⟨ret_bool (a := false) HM.out.symm, hb⟩

set_option maxRecDepth 100000 in
set_option maxHeartbeats 1600000 in
theorem rneighbours_any (v : Value) (C : List Cel) (x y : Int) (w : World) (h : RowAt w v C) (hl : C.length ≤ 1000000) (hx : -4000000000000000000 ≤ x ∧ x ≤ 4000000000000000000) (hy : -4000000000000000000 ≤ y ∧ y ≤ 4000000000000000000)
    (hC : ∀ c ∈ C, -4000000000000000000 ≤ c.1 ∧ c.1 ≤ 4000000000000000000 ∧ -4000000000000000000 ≤ c.2 ∧ c.2 ≤ 4000000000000000000) :
    Calls Tryz.prog 74 #[v, .agg #[.int .i64 x, .int .i64 y]] w fun e w' => e = .returned (.int .i64 (nbC C (x, y) : Nat)) ∧ Below w.heap.size w w' := by
  obtain ⟨ad, cp, rfl⟩ := h.slice
  have heq := fun a b c d w => eqIn_rcell a b c d w
  have hnot : ∀ (x : Bool) (w : World), (Op.unary .not (.bool x)).run Tryz.prog w = .ok (.bool (!x)) w := fun _ _ => rfl
  go_enter Tryz.func74, Tryz.ntmps74
  go_wp2
  go_loopw [5, 6] (fun n i wr => ∃ k m : Nat, k ≤ C.length ∧ m ≤ k ∧ i = .int .i64 k ∧ n = .int .i64 m ∧ Below w.heap.size w wr ∧ wr.heap[w.heap.size]? = some (.cells #[.int .i64 x, .int .i64 y] 44 (0, 0)) ∧ Hid (m = nbC (C.take k) (x, y))) (fun _ i _ => C.length - (intOf i).toNat)
  case atStart => exact ⟨0, 0, Nat.zero_le _, Nat.le_refl _, rfl, rfl, (Below.refl _ _).alloc (Nat.le_refl _) _, blk_new w _, by simp [Hid, nbC]⟩
  case round =>
    obtain ⟨k, m, hk, hmk, rfl, rfl, hb, b0, hm⟩ := hrel
    have c0 := cell_of b0 0
    have c1 := cell_of b0 1
    by_cases hlt : k < C.length
    · have hdc : decide ((k : Int) < (C.length : Int)) = true := decide_eq_true (by omega)
      obtain ⟨⟨x', y'⟩, hs⟩ : ∃ s, C[k]? = some s := ⟨C[k], by simp [hlt]⟩
      obtain ⟨g, rfl, hg, hget⟩ := h.get hs
      obtain ⟨d0, d1⟩ := hget wr hb
      obtain ⟨p1, p2, p3, p4⟩ := hC (x', y') (List.mem_of_getElem? hs)
      simp only at d0 d1 p1 p2 p3 p4
      have HS : Hid (nbC (C.take (k + 1)) (x, y) = nbC (C.take k) (x, y) + if isNb (x, y) (x', y') then 1 else 0) := by
        show _ = _
        unfold nbC
        rw [List.take_add_one, hs, List.countP_append]
        simp [List.countP_cons]
      have w1 : IntKind.i64.wrap (x' - x) = x' - x := IntWalk.i64_in _ ⟨by omega, by omega⟩
      have w2 : IntKind.i64.wrap (y' - y) = y' - y := IntWalk.i64_in _ ⟨by omega, by omega⟩
      obtain ⟨dx, hdx⟩ : ∃ dx, x' - x = dx := ⟨_, rfl⟩
      obtain ⟨dy, hdy⟩ : ∃ dy, y' - y = dy := ⟨_, rfl⟩
      have hI : isNb (x, y) (x', y') = (decide (-1 ≤ dx) && decide (dx ≤ 1) && decide (-1 ≤ dy) && decide (dy ≤ 1) && !decide ((x', y') = (x, y))) := by
        rw [← hdx, ← hdy]; rfl
      have HX : Hid (x' - x = dx) := hdx
      have HY : Hid (y' - y = dy) := hdy
      rw [hdx] at w1
      rw [hdy] at w2
      clear hs
      by_cases q1 : -1 ≤ dx
      · by_cases q2 : dx ≤ 1
        · by_cases q3 : -1 ≤ dy
          · by_cases q4 : dy ≤ 1
            · by_cases he : x' = x ∧ y' = y
              · have hne : (x' == x && y' == y) = true := by simpa using he
                have hpe : (x', y') = (x, y) := by rw [he.1, he.2]
                have HN : Hid (m = nbC (C.take (k + 1)) (x, y)) := by
                  show _ = _
                  rw [HS.out, ← hm.out, if_neg (by rw [hI]; simp [hpe])]; rfl
                have q1d : decide (-1 ≤ dx) = true := decide_eq_true q1
                have q2d : decide (dx ≤ 1) = true := decide_eq_true q2
                have q3d : decide (-1 ≤ dy) = true := decide_eq_true q3
                have q4d : decide (dy ≤ 1) = true := decide_eq_true q4
                clear he hpe
                clear hI
                go_wp2
                go_quiet (fail)
                go_wp2
                go_quiet (fail)
                go_wp2
                go_quiet (fail)
                go_wp2
                go_roundw
                case rel => exact ⟨k + 1, m, by omega, by omega, by go_num, rfl, below_drewN hb _, b0, HN⟩
                case measure => simp [intOf]; omega
              · have hne : (x' == x && y' == y) = false := by simpa using he
                have hpe : ¬ (x', y') = (x, y) := by intro e; cases e; exact he ⟨rfl, rfl⟩
                have HN : Hid (m + 1 = nbC (C.take (k + 1)) (x, y)) := by
                  show _ = _
                  rw [HS.out, ← hm.out, if_pos (by rw [hI]; simp only [decide_eq_true q1, decide_eq_true q2, decide_eq_true q3, decide_eq_true q4, decide_eq_false hpe]; rfl)]
                have q1d : decide (-1 ≤ dx) = true := decide_eq_true q1
                have q2d : decide (dx ≤ 1) = true := decide_eq_true q2
                have q3d : decide (-1 ≤ dy) = true := decide_eq_true q3
                have q4d : decide (dy ≤ 1) = true := decide_eq_true q4
                clear he hpe hI
                go_wp2
                go_quiet (fail)
                go_wp2
                go_quiet (fail)
                go_wp2
                go_quiet (fail)
                go_wp2
                go_roundw
                case rel => exact ⟨k + 1, m + 1, by omega, by omega, by go_num, by go_num, below_drewN hb _, b0, HN⟩
                case measure => simp [intOf]; omega
            · have HN : Hid (m = nbC (C.take (k + 1)) (x, y)) := by
                show _ = _
                rw [HS.out, ← hm.out, if_neg (by rw [hI]; simp [q4])]; rfl
              have q1d : decide (-1 ≤ dx) = true := decide_eq_true q1
              have q2d : decide (dx ≤ 1) = true := decide_eq_true q2
              have q3d : decide (-1 ≤ dy) = true := decide_eq_true q3
              have q4d : decide (dy ≤ 1) = false := decide_eq_false q4
              clear hI
              go_wp2
              go_quiet (fail)
              go_wp2
              go_quiet (fail)
              go_wp2
              go_quiet (fail)
              go_wp2
              go_roundw
              case rel => exact ⟨k + 1, m, by omega, by omega, by go_num, rfl, below_drewN hb _, b0, HN⟩
              case measure => simp [intOf]; omega
          · have HN : Hid (m = nbC (C.take (k + 1)) (x, y)) := by
              show _ = _
              rw [HS.out, ← hm.out, if_neg (by rw [hI]; simp [q3])]; rfl
            have q1d : decide (-1 ≤ dx) = true := decide_eq_true q1
            have q2d : decide (dx ≤ 1) = true := decide_eq_true q2
            have q3d : decide (-1 ≤ dy) = false := decide_eq_false q3
            clear hI
            go_wp2
            go_quiet (fail)
            go_wp2
            go_quiet (fail)
            go_wp2
            go_quiet (fail)
            go_wp2
            go_roundw
            case rel => exact ⟨k + 1, m, by omega, by omega, by go_num, rfl, below_drewN hb _, b0, HN⟩
            case measure => simp [intOf]; omega
        · have HN : Hid (m = nbC (C.take (k + 1)) (x, y)) := by
            show _ = _
            rw [HS.out, ← hm.out, if_neg (by rw [hI]; simp [q2])]; rfl
          have q1d : decide (-1 ≤ dx) = true := decide_eq_true q1
          have q2d : decide (dx ≤ 1) = false := decide_eq_false q2
          clear hI
          go_wp2
          go_quiet (fail)
          go_wp2
          go_quiet (fail)
          go_wp2
          go_quiet (fail)
          go_wp2
          go_roundw
          case rel => exact ⟨k + 1, m, by omega, by omega, by go_num, rfl, below_drewN hb _, b0, HN⟩
          case measure => simp [intOf]; omega
      · have HN : Hid (m = nbC (C.take (k + 1)) (x, y)) := by
          show _ = _
          rw [HS.out, ← hm.out, if_neg (by rw [hI]; simp [q1])]; rfl
        have q1d : decide (-1 ≤ dx) = false := decide_eq_false q1
        clear hI
        go_wp2
        go_quiet (fail)
        go_wp2
        go_quiet (fail)
        go_wp2
        go_quiet (fail)
        go_wp2
        go_roundw
        case rel => exact ⟨k + 1, m, by omega, by omega, by go_num, rfl, below_drewN hb _, b0, HN⟩
        case measure => simp [intOf]; omega
    · have hdc : decide ((k : Int) < (C.length : Int)) = false := decide_eq_false (by omega)
      obtain rfl : k = C.length := by omega
      have HM : Hid (m = nbC C (x, y)) := by
        have := hm.out
        rw [List.take_length] at this
        exact this
      go_wp2
      go_ret
      exact ⟨by rw [← HM.out]; rfl, hb⟩

end Go.Proofs.YtiohpcnnpmnjhaaGreatDoor

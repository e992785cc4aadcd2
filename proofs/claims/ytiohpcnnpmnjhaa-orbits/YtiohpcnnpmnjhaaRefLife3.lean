import Derived.Test.YtiohpcnnpmnjhaaRefLife2
import Derived.Test.YtiohpcnnpmnjhaaRuleRead
namespace Go.Proofs.Ytiohpcnnpmnjhaa
open Go.RowKit
set_option linter.unusedVariables false

theorem twoN_born (f g : Nat → Bool) (n : Nat) (h : n < 9) : (twoN f g)[n]? = some (.bool (f n)) := by
  match n, h with
  | 0, _ | 1, _ | 2, _ | 3, _ | 4, _ | 5, _ | 6, _ | 7, _ | 8, _ => rfl
theorem twoN_stay (f g : Nat → Bool) (n : Nat) (h : n < 9) : (twoN f g)[9 + n]? = some (.bool (g n)) := by
  match n, h with
  | 0, _ | 1, _ | 2, _ | 3, _ | 4, _ | 5, _ | 6, _ | 7, _ | 8, _ => rfl

/-- No number runs over near these cells. -/
def Mild (C : List Cel) : Prop := ∀ c ∈ C, -3900000000000000000 ≤ c.1 ∧ c.1 ≤ 3900000000000000000 ∧ -3900000000000000000 ≤ c.2 ∧ c.2 ≤ 3900000000000000000

/-- What Next has made when i cells are through and k of the nine around the next. -/
def soFar (f g : Nat → Bool) (C : List Cel) (i : Nat) (d : Cel) (k : Nat) : List Cel := ((C.take i).flatMap around ++ (around d).take k).foldl (addC f g C) []
theorem soFar_zero (f g : Nat → Bool) (C : List Cel) (i : Nat) (d : Cel) : soFar f g C i d 0 = ((C.take i).flatMap around).foldl (addC f g C) [] := by simp [soFar]
theorem around_len (d : Cel) : (around d).length = 9 := by simp [around]
theorem around_at (d : Cel) (k : Nat) (hk : k < 9) : (around d)[k]? = some (d.1 + ((k % 3 : Nat) : Int) - 1, d.2 + ((k / 3 : Nat) : Int) - 1) := by
  unfold around
  rw [List.getElem?_map, List.getElem?_range hk]
  rfl
theorem soFar_succ (f g : Nat → Bool) (C : List Cel) (i : Nat) (d : Cel) (k : Nat) (hk : k < 9) : soFar f g C i d (k + 1) = addC f g C (soFar f g C i d k) (d.1 + ((k % 3 : Nat) : Int) - 1, d.2 + ((k / 3 : Nat) : Int) - 1) := by
  unfold soFar
  rw [List.take_add_one, around_at d k hk]
  simp
theorem soFar_nine (f g : Nat → Bool) (C : List Cel) (i : Nat) (d : Cel) (h : C[i]? = some d) : soFar f g C i d 9 = ((C.take (i + 1)).flatMap around).foldl (addC f g C) [] := by
  unfold soFar
  rw [show C.take (i + 1) = C.take i ++ [d] by rw [List.take_add_one, h]; rfl, List.take_of_length_le (l := around d) (by rw [around_len]; omega)]
  simp
theorem soFar_len (f g : Nat → Bool) (C : List Cel) (i : Nat) (d : Cel) (k : Nat) (hk : k ≤ 9) : (soFar f g C i d k).length ≤ 9 * C.length + 9 := by
  unfold soFar
  have h1 := fold_len f g C ((C.take i).flatMap around ++ (around d).take k) []
  have h2 : ∀ l : List Cel, (l.flatMap around).length = 9 * l.length := fun l => by
    induction l with
    | nil => rfl
    | cons a l ih => rw [List.flatMap_cons, List.length_append, ih, around_len, List.length_cons]; omega
  rw [List.length_append, h2] at h1
  have h3 := List.length_take_le k (around d)
  have h4 := List.length_take_le' i C
  simp only [List.length_nil] at h1
  omega

/-- What the rounds of Next keep. -/
structure NInv (w : World) (f g : Nat → Bool) (O : List Cel) (vo : Value) (W : World) : Prop where
  own : W.ownsRow (w.heap.size + 1) 72 2 vo O.length (flatC O)
  box : W.heap[w.heap.size]? = some (.cells (twoN f g) 27 (0, 0))
  be : Below w.heap.size w W
theorem ownsRow_on {w w' : World} {B : Nat} {e : TypeId} {m : Nat} {v : Value} {n : Nat} {xs : List Value} (h : w.ownsRow B e m v n xs) (hb : Below w.heap.size w w') : w'.ownsRow B e m v n xs := by
  obtain ⟨h1, h2⟩ := h
  refine ⟨h1, ?_⟩
  rcases h2 with h2 | ⟨g, cap, cur, hv, hg, hh, r⟩
  · exact .inl h2
  · exact .inr ⟨g, cap, cur, hv, hg, (hb.block g (blk_lt hh)).trans hh, r⟩
theorem NInv.on {w : World} {f g : Nat → Bool} {O : List Cel} {vo : Value} {W W' : World} (h : NInv w f g O vo W) (hb : Below W.heap.size W W') : NInv w f g O vo W' :=
  ⟨ownsRow_on h.own hb, (hb.block _ (blk_lt h.box)).trans h.box, h.be.trans (hb.mono h.be.size)⟩
theorem NInv.drew {w : World} {f g : Nat → Bool} {O : List Cel} {vo : Value} {W : World} (h : NInv w f g O vo W) : NInv w f g O vo W.drew := ⟨h.own, h.box, h.be.drew⟩
theorem NInv.alloc {w : World} {f g : Nat → Bool} {O : List Cel} {vo : Value} {W : World} (h : NInv w f g O vo W) (o : Obj) : NInv w f g O vo (W.alloc o) := h.on ((Below.refl _ _).alloc (Nat.le_refl _) _)

set_option maxRecDepth 100000 in
set_option maxHeartbeats 3200000 in
theorem next_any (v : Value) (C : List Cel) (f g : Nat → Bool) (w : World) (h : RowAt w v C) (hl : C.length ≤ 1000) (hasc : Asc C) (hC : Mild C) :
    Calls Try.prog 28 #[.agg (twoN f g), v] w fun e w' => (∃ v', e = .returned v' ∧ w'.ownsRow w.heap.size 72 2 v' (nextL f g C).length (flatC (nextL f g C))) ∧ Below w.heap.size w w' := by
  obtain ⟨ad, cp, rfl⟩ := h.slice
  have hnot : ∀ (x : Bool) (w : World), (Op.unary .not (.bool x)).run Try.prog w = .ok (.bool (!x)) w := fun _ _ => rfl
  go_enter Try.func28, Try.ntmps28
  go_wp2
  go_loopw [5, 6] (fun vo vi wr => ∃ (i : Nat) (O : List Cel), i ≤ C.length ∧ vi = .int .i64 (i : Int) ∧ NInv w f g O vo wr ∧ Hid (O = ((C.take i).flatMap around).foldl (addC f g C) [])) (fun _ vi _ => C.length - (intOf vi).toNat)
  case atStart => exact ⟨0, [], Nat.zero_le _, rfl, ⟨World.ownsRow_nil _ _ _ _, blk_new w _, (Below.refl _ _).alloc (Nat.le_refl _) _⟩, by simp [Hid]⟩
  case round =>
    obtain ⟨i, O, hi, rfl, hI, hO⟩ := hrel
    by_cases hlt : i < C.length
    · have hdc : decide ((i : Int) < (C.length : Int)) = true := decide_eq_true (by omega)
      obtain ⟨⟨x, y⟩, hs⟩ : ∃ s, C[i]? = some s := ⟨C[i], by simp [hlt]⟩
      obtain ⟨gb, rfl, hg, hget⟩ := h.get hs
      obtain ⟨p1, p2, p3, p4⟩ := hC (x, y) (List.mem_of_getElem? hs)
      simp only at p1 p2 p3 p4
      have HO : Hid (O = soFar f g C i (x, y) 0) := by show _ = _; rw [soFar_zero]; exact hO.out
      have HZ : Hid (soFar f g C i (x, y) 9 = ((C.take (i + 1)).flatMap around).foldl (addC f g C) []) := soFar_nine f g C i (x, y) hs
      clear hs hO
      go_wp2
      go_loopw [5, 7] (fun vo vk wr => ∃ (k : Nat) (O : List Cel), k ≤ 9 ∧ vk = .int .i64 (k : Int) ∧ NInv w f g O vo wr ∧ Hid (O = soFar f g C i (x, y) k)) (fun _ vk _ => 9 - (intOf vk).toNat)
      case atStart => exact ⟨0, O, by omega, rfl, hI, HO⟩
      case round =>
        clear hI HO
        obtain ⟨k, O, hk, rfl, hI, hO⟩ := hrel
        have hOl : O.length ≤ 9 * C.length + 9 := by rw [hO.out]; exact soFar_len f g C i (x, y) k hk
        by_cases hk9 : k < 9
        · have hdk : decide ((k : Int) < 9) = true := decide_eq_true (by omega)
          have hki : (k : Int) < 9 := by omega
          obtain ⟨d0, d1⟩ := hget wr hI.be
          try simp only at d0 d1
          have hrem : (k : Int).tmod 3 = ((k % 3 : Nat) : Int) := by rw [Int.tmod_eq_emod_of_nonneg (by omega)]; omega
          have hquo : (k : Int).tdiv 3 = ((k / 3 : Nat) : Int) := by rw [Int.tdiv_eq_ediv_of_nonneg (by omega)]; omega
          have HS : Hid (soFar f g C i (x, y) (k + 1) = addC f g C O (x + ((k % 3 : Nat) : Int) - 1, y + ((k / 3 : Nat) : Int) - 1)) := by
            show _ = _; rw [soFar_succ f g C i (x, y) k hk9, ← hO.out]
          obtain ⟨a, ha⟩ : ∃ a : Nat, k % 3 = a := ⟨_, rfl⟩
          obtain ⟨b, hb'⟩ : ∃ b : Nat, k / 3 = b := ⟨_, rfl⟩
          have ha3 : a < 3 := by omega
          have hb3 : b < 3 := by omega
          rw [ha] at hrem HS
          rw [hb'] at hquo HS
          have hgl : gb < wr.heap.size := by have := hI.be.size; omega
          have hgN : ¬ gb = w.heap.size := by omega
          clear ha hb' hO
          go_wp2
          go_cut [8] from 21 to 39 (fun v8 wx => ∃ cb, v8 = .pointer (some ⟨cb, 0, none⟩) ∧ wx.heap[cb]? = some (.cells #[.int .i64 (x + (a : Int) - 1), .int .i64 (y + (b : Int) - 1)] 72 (0, 0)) ∧ NInv w f g O u5 wx)
          case first =>
            go_region
            all_goals
              go_wp2_with fail
              go_meet
              case rel => exact ⟨wr.heap.size, rfl, blk_new wr _, (hI.alloc _).drew⟩
          case rest =>
            obtain ⟨cb, rfl, hcb, hI2⟩ := hcut
            clear d0 d1 hI hgl hrem hquo
            have bx : -4000000000000000000 ≤ x + (a : Int) - 1 ∧ x + (a : Int) - 1 ≤ 4000000000000000000 := by omega
            have bY : -4000000000000000000 ≤ y + (b : Int) - 1 ∧ y + (b : Int) - 1 ≤ 4000000000000000000 := by omega
            obtain ⟨cx, hcx⟩ : ∃ cx, x + (a : Int) - 1 = cx := ⟨_, rfl⟩
            obtain ⟨cy, hcy⟩ : ∃ cy, y + (b : Int) - 1 = cy := ⟨_, rfl⟩
            rw [hcx] at bx hcb HS
            rw [hcy] at bY hcb HS
            have hC' : ∀ c ∈ C, -4000000000000000000 ≤ c.1 ∧ c.1 ≤ 4000000000000000000 ∧ -4000000000000000000 ≤ c.2 ∧ c.2 ≤ 4000000000000000000 := fun c hc => by have := hC c hc; omega
            have hNb := fun W hR => rneighbours_any (.slice (some ⟨gb, 0, none⟩) C.length cp) C cx cy W hR (by omega) bx bY hC'
            have hIn := fun W hR => in_any (.slice (some ⟨gb, 0, none⟩) C.length cp) C cx cy W hR (by omega)
            have hn8 := nbC_le hasc (cx, cy)
            have HL : Hid (livesC f g C (cx, cy) = if decide ((cx, cy) ∈ C) then g (nbC C (cx, cy)) else decide (0 < nbC C (cx, cy)) && f (nbC C (cx, cy))) := by
              show _ = _
              unfold livesC
              simp only [decide_eq_true_eq]
            obtain ⟨n, hn⟩ : ∃ n, nbC C (cx, cy) = n := ⟨_, rfl⟩
            obtain ⟨live, hlive⟩ : ∃ live, decide ((cx, cy) ∈ C) = live := ⟨_, rfl⟩
            rw [hn] at hn8 HL
            rw [hlive] at HL
            simp only [hn] at hNb
            simp only [hlive] at hIn
            have hrow : ∀ W, Below w.heap.size w W → RowAt W (.slice (some ⟨gb, 0, none⟩) C.length cp) C := fun W hb => by
              rcases h with ⟨h1, _⟩ | ⟨g', cap', h1, h2, h3⟩
              · cases h1
              · exact RowAt.below (.inr ⟨g', cap', h1, h2, h3⟩) hb
            have tf := twoN_born f g n (by omega)
            have tg := twoN_stay f g n (by omega)
            clear hn hlive hC hcx hcy h hget
            have q0 := cell_of hcb 0
            have q1 := cell_of hcb 1
            cases live with
            | true =>
              cases hgn : g n with
              | true =>
                have HV : Hid (livesC f g C (cx, cy) = true) := by show _ = _; rw [HL.out, hgn]; rfl
                rw [hgn] at tg
                clear hgn
                go_wp2_with (first
                  | (go_at_call 40; refine (hNb _ (hrow _ hI2.be)).mono ?_; rintro e w5 ⟨rfl, b5⟩; have I5 := hI2.on b5; have hcb5 := (b5.block cb (blk_lt hcb)).trans hcb; have q50 := cell_of hcb5 0; have q51 := cell_of hcb5 1)
                  | (go_at_call 41; refine (hIn _ (hrow _ I5.be)).mono ?_; rintro e w6 ⟨rfl, b6⟩; have I6 := I5.on b6; have hcb6 := (b6.block cb (blk_lt hcb5)).trans hcb5; have q60 := cell_of hcb6 0; have q61 := cell_of hcb6 1; have m1 := (cell_of I6.box n).trans tf; have m2 := (cell_of I6.box (9 + n)).trans tg)
                  | (go_at_call 42; refine (with_any _ O cx cy _ (RowAt.of_owns I6.own) (by omega)).mono ?_; rintro e w7 ⟨⟨v7, rfl, own7⟩, b7⟩))
                go_roundw
                case rel =>
                  have b7' := b7
                  refine ⟨k + 1, withC O (cx, cy), by omega, by go_num, ⟨ownsRow_up own7 (by have := blk_lt I6.box; omega), (b7.block _ (blk_lt I6.box)).trans I6.box, I6.be.trans (b7.mono I6.be.size)⟩, ?_⟩
                  show _ = _
                  rw [HS.out, addC, HV.out]
                  rfl
                case measure => simp [intOf]; omega
              | false =>
                have HV : Hid (livesC f g C (cx, cy) = false) := by show _ = _; rw [HL.out, hgn]; rfl
                rw [hgn] at tg
                clear hgn
                go_wp2_with (first
                  | (go_at_call 40; refine (hNb _ (hrow _ hI2.be)).mono ?_; rintro e w5 ⟨rfl, b5⟩; have I5 := hI2.on b5; have hcb5 := (b5.block cb (blk_lt hcb)).trans hcb; have q50 := cell_of hcb5 0; have q51 := cell_of hcb5 1)
                  | (go_at_call 41; refine (hIn _ (hrow _ I5.be)).mono ?_; rintro e w6 ⟨rfl, b6⟩; have I6 := I5.on b6; have hcb6 := (b6.block cb (blk_lt hcb5)).trans hcb5; have q60 := cell_of hcb6 0; have q61 := cell_of hcb6 1; have m1 := (cell_of I6.box n).trans tf; have m2 := (cell_of I6.box (9 + n)).trans tg))
                go_roundw
                case rel =>
                  refine ⟨k + 1, O, by omega, by go_num, I6, ?_⟩
                  show _ = _
                  rw [HS.out, addC, HV.out]
                  rfl
                case measure => simp [intOf]; omega
            | false =>
              by_cases hn0 : 0 < n
              · have hnd : decide ((0 : Int) < (n : Int)) = true := decide_eq_true (by omega)
                have hnd9 : decide ((n : Int) < 9) = true := decide_eq_true (by omega)
                cases hfn : f n with
                | true =>
                  have HV : Hid (livesC f g C (cx, cy) = true) := by show _ = _; rw [HL.out, hfn, decide_eq_true hn0]; rfl
                  rw [hfn] at tf
                  clear hfn
                  go_wp2_with (first
                    | (go_at_call 40; refine (hNb _ (hrow _ hI2.be)).mono ?_; rintro e w5 ⟨rfl, b5⟩; have I5 := hI2.on b5; have hcb5 := (b5.block cb (blk_lt hcb)).trans hcb; have q50 := cell_of hcb5 0; have q51 := cell_of hcb5 1)
                    | (go_at_call 41; refine (hIn _ (hrow _ I5.be)).mono ?_; rintro e w6 ⟨rfl, b6⟩; have I6 := I5.on b6; have hcb6 := (b6.block cb (blk_lt hcb5)).trans hcb5; have q60 := cell_of hcb6 0; have q61 := cell_of hcb6 1; have m1 := (cell_of I6.box n).trans tf; have m2 := (cell_of I6.box (9 + n)).trans tg)
                    | (go_at_call 42; refine (with_any _ O cx cy _ (RowAt.of_owns I6.own) (by omega)).mono ?_; rintro e w7 ⟨⟨v7, rfl, own7⟩, b7⟩))
                  go_roundw
                  case rel =>
                    have b7' := b7
                    refine ⟨k + 1, withC O (cx, cy), by omega, by go_num, ⟨ownsRow_up own7 (by have := blk_lt I6.box; omega), (b7.block _ (blk_lt I6.box)).trans I6.box, I6.be.trans (b7.mono I6.be.size)⟩, ?_⟩
                    show _ = _
                    rw [HS.out, addC, HV.out]
                    rfl
                  case measure => simp [intOf]; omega
                | false =>
                  have HV : Hid (livesC f g C (cx, cy) = false) := by show _ = _; rw [HL.out, hfn, decide_eq_true hn0]; rfl
                  rw [hfn] at tf
                  clear hfn
                  go_wp2_with (first
                    | (go_at_call 40; refine (hNb _ (hrow _ hI2.be)).mono ?_; rintro e w5 ⟨rfl, b5⟩; have I5 := hI2.on b5; have hcb5 := (b5.block cb (blk_lt hcb)).trans hcb; have q50 := cell_of hcb5 0; have q51 := cell_of hcb5 1)
                    | (go_at_call 41; refine (hIn _ (hrow _ I5.be)).mono ?_; rintro e w6 ⟨rfl, b6⟩; have I6 := I5.on b6; have hcb6 := (b6.block cb (blk_lt hcb5)).trans hcb5; have q60 := cell_of hcb6 0; have q61 := cell_of hcb6 1; have m1 := (cell_of I6.box n).trans tf; have m2 := (cell_of I6.box (9 + n)).trans tg))
                  go_roundw
                  case rel =>
                    refine ⟨k + 1, O, by omega, by go_num, I6, ?_⟩
                    show _ = _
                    rw [HS.out, addC, HV.out]
                    rfl
                  case measure => simp [intOf]; omega
              · have hnd : decide ((0 : Int) < (n : Int)) = false := decide_eq_false (by omega)
                have HV : Hid (livesC f g C (cx, cy) = false) := by show _ = _; rw [HL.out, decide_eq_false hn0]; rfl
                go_wp2_with (first
                  | (go_at_call 40; refine (hNb _ (hrow _ hI2.be)).mono ?_; rintro e w5 ⟨rfl, b5⟩; have I5 := hI2.on b5; have hcb5 := (b5.block cb (blk_lt hcb)).trans hcb; have q50 := cell_of hcb5 0; have q51 := cell_of hcb5 1)
                  | (go_at_call 41; refine (hIn _ (hrow _ I5.be)).mono ?_; rintro e w6 ⟨rfl, b6⟩; have I6 := I5.on b6; have hcb6 := (b6.block cb (blk_lt hcb5)).trans hcb5; have q60 := cell_of hcb6 0; have q61 := cell_of hcb6 1; have m1 := (cell_of I6.box n).trans tf; have m2 := (cell_of I6.box (9 + n)).trans tg))
                go_roundw
                case rel =>
                  refine ⟨k + 1, O, by omega, by go_num, I6, ?_⟩
                  show _ = _
                  rw [HS.out, addC, HV.out]
                  rfl
                case measure => simp [intOf]; omega
        · have hdk : decide ((k : Int) < 9) = false := decide_eq_false (by omega)
          obtain rfl : k = 9 := by omega
          have HQ : Hid (O = ((C.take (i + 1)).flatMap around).foldl (addC f g C) []) := hO.out.trans HZ.out
          go_wp2
          go_roundw
          case rel => exact ⟨i + 1, O, by omega, by go_num, hI, HQ⟩
          case measure => simp [intOf]; omega
    · have hdc : decide ((i : Int) < (C.length : Int)) = false := decide_eq_false (by omega)
      obtain rfl : i = C.length := by omega
      have HQ : Hid (nextL f g C = O) := by
        show _ = _
        rw [hO.out, List.take_length]; rfl
      go_wp2
      go_ret
      refine ⟨⟨_, rfl, ?_⟩, hI.be⟩
      rw [HQ.out]
      exact ownsRow_up hI.own (by omega)

end Go.Proofs.Ytiohpcnnpmnjhaa

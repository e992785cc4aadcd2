import Derived.Test.YtiohpcnnpmnjhaaGreatDoorRise
import Derived.Deep.LoopGhost
namespace Go.Proofs.YtiohpcnnpmnjhaaGreatDoor
open Go.RowKit
set_option linter.unusedVariables false

set_option maxRecDepth 100000 in
set_option maxHeartbeats 1600000 in
theorem rising_any (b : Nat) (s : ByteArray) (k : Int) (i0 : Nat) (lo0 : Int) (w : World) (h : At w b s k i0) (hi0 : i0 ≤ s.size) (hs : s.size ≤ 24) (hl0 : 48 ≤ lo0) (hl1 : lo0 ≤ 57) :
    Calls Tryz.prog 88 #[.pointer (some ⟨b, 0, none⟩), .int .u8 lo0] w fun e w' => e = .returned (.agg (nine (riseTab s i0 lo0))) ∧ At w' b s k (riseEnd s i0 lo0) ∧ Below b w w' ∧ (∀ j, j < w.heap.size → j ≠ b → w'.heap[j]? = w.heap[j]?) := by
  have hbl := h.lt
  obtain ⟨T, hT⟩ : ∃ T, w.heap.size = T := ⟨_, rfl⟩
  have nbU : ¬ b = T + 1 := by omega
  have nUb : ¬ T + 1 = b := by omega
  have nbT : ¬ b = T := by omega
  have nTU : ¬ T = T + 1 := by omega
  have nTb : ¬ T = b := by omega
  have t1 : ((w.alloc (.cells Z9 67)).alloc (.cells Z9 67)).heap[T]? = some (.cells (nine fun _ => false) 67 (0, 0)) := by rw [← hT]; exact blk_old (blk_new w _) _
  have u1 : ((w.alloc (.cells Z9 67)).alloc (.cells Z9 67)).heap[T + 1]? = some (.cells (nine fun _ => false) 67 (0, 0)) := by
    have := blk_new (w.alloc (.cells Z9 67)) (.cells Z9 67)
    rw [World.size_alloc, hT] at this; exact this
  have a1 : At ((w.alloc (.cells Z9 67)).alloc (.cells Z9 67)) b s k i0 := h.of_block ((Below.heap_alloc _ _ b (by simp; omega)).trans (Below.heap_alloc w _ b (by omega)))
  have k1 : ∀ j, j < T → ((w.alloc (.cells Z9 67)).alloc (.cells Z9 67)).heap[j]? = w.heap[j]? := fun j hj => (Below.heap_alloc _ _ j (by simp; omega)).trans (Below.heap_alloc w _ j (by omega))
  have b1 : Below b w ((w.alloc (.cells Z9 67)).alloc (.cells Z9 67)) := ((Below.refl _ _).alloc (by omega) _).alloc (by simp; omega) _
  go_enter Tryz.func88, Tryz.ntmps88
  go_wp2
  go_loopw [1] (fun v wr => ∃ (i : Nat) (lo : Int) (f : Nat → Bool), v = .int .u8 lo ∧ i ≤ s.size ∧ 48 ≤ lo ∧ lo ≤ 57 ∧ At wr b s k i ∧ wr.heap[T]? = some (.cells (nine fun _ => false) 67 (0, 0)) ∧ wr.heap[T + 1]? = some (.cells (nine f) 67 (0, 0)) ∧ Below b w wr ∧ (∀ j, j < T → j ≠ b → wr.heap[j]? = w.heap[j]?) ∧ Hid (riseEnd s i lo = riseEnd s i0 lo0) ∧ Hid (riseAt s i lo f = riseTab s i0 lo0)) (fun v _ => (57 - intOf v).toNat)
  case atStart => exact ⟨i0, lo0, fun _ => false, rfl, hi0, hl0, hl1, a1, t1, u1, b1, fun j hj _ => k1 j hj, rfl, rfl⟩
  case round =>
    obtain ⟨i, lo, f, rfl, hi, hl, hl', ha, ht, hu, hb, hk, hr, hf⟩ := hrel
    have hpb := pk_bd s i
    have wT := blk_lt hu
    have stop : (¬ (lo ≤ pk s i ∧ pk s i ≤ 56)) → Hid (i = riseEnd s i0 lo0) ∧ Hid (f = riseTab s i0 lo0) := fun hn =>
      ⟨(riseEnd_stop (s := s) (i := i) (lo := lo) (fun _ => hn)).symm.trans hr.out, (riseAt_stop (s := s) (i := i) (lo := lo) (f := f) (fun _ => hn)).symm.trans hf.out⟩
    by_cases h1 : lo ≤ pk s i
    · by_cases h2 : pk s i ≤ 56
      · have hlt : i < s.size := by
          by_cases hlt : i < s.size
          · exact hlt
          · have := pk_out hlt; omega
        have HR : Hid (riseEnd s (i + 1) (pk s i + 1) = riseEnd s i0 lo0) := (riseEnd_go hlt h1 h2).symm.trans hr.out
        have HF : Hid (riseAt s (i + 1) (pk s i + 1) (fun j => if j = (pk s i - 48).toNat then true else f j) = riseTab s i0 lo0) := (riseAt_go hlt h1 h2).symm.trans hf.out
        obtain ⟨d, hd⟩ : ∃ d : Nat, pk s i = 48 + (d : Int) := ⟨(pk s i - 48).toNat, by omega⟩
        have hd9 : d < 9 := by omega
        have hP := fun w h => peek_any b s k i w h hi (by omega)
        simp only [hd] at hP
        rw [hd] at HR HF h1 h2
        rw [show ((48 + (d : Int)) - 48).toNat = d by omega] at HF
        clear hd hpb stop hr hf
        have ⟨c0, c1, c2, fz⟩ := ha
        have qd := (cell_of hu d).trans (nine_get f d hd9)
        have zd := frz_of hu d
        have ha2 := fun N => At.of_block (w := wr.drewN N) (w' := (wr.drewN N).setCell ⟨T + 1, d, none⟩ (.bool true)) (ha.drewN N) (Below.heap_setCell _ _ _ _ nbU)
        have hw1 : IntKind.u8.wrap (48 + (d : Int) - 48) = (d : Int) := by rw [show 48 + (d : Int) - 48 = (d : Int) by omega]; exact IntWalk.u8_in _ ⟨by omega, by omega⟩
        go_wp2_with (go_at_call 116; refine (hP _ ?_).mono ?_; (first | exact ha | exact ha.drewN _ | exact ha2 _ | exact (ha2 _).drewN _); rintro e w' ⟨rfl, n, rfl⟩)
        go_roundw
        case rel =>
          have hu2 := fun N => blk_put (W := wr.drewN N) (j := d) hu (.bool true)
          rw [nine_set f d hd9] at hu2
          refine ⟨i + 1, 48 + (d : Int) + 1, fun j => if j = d then true else f j, rfl, by omega, by omega, by omega, ((ha2 _).drewN _).step, ?_, ?_, ?_, ?_, HR, HF⟩
          · exact blk_set (W := World.drewN _ _) (a := ⟨b, 1, none⟩) (blk_set (W := wr.drewN _) (a := ⟨T + 1, d, none⟩) ht nTU _) nTb _
          · exact blk_set (W := World.drewN _ _) (a := ⟨b, 1, none⟩) (hu2 _) nUb _
          · exact (below_drewN ((below_drewN hb _).setCell (p := ⟨T + 1, d, none⟩) (by show b ≤ T + 1; omega) _) _).setCell (p := ⟨b, 1, none⟩) (Nat.le_refl _) _
          · intro j hj hjb
            refine (Below.heap_setCell _ _ _ _ (by show j ≠ b; exact hjb)).trans ?_
            refine (Below.heap_setCell (wr.drewN _) _ _ _ (by show j ≠ T + 1; omega)).trans ?_
            exact hk j hj hjb
        case measure => simp [intOf]; omega
      · obtain ⟨HE, HT⟩ := stop (by omega)
        have hP := fun w h => peek_any b s k i w h hi (by omega)
        clear stop hr hf
        have hU := fun N => (show (wr.drewN N).heap[T + 1]? = _ from hu)
        have hTT := fun N => (show (wr.drewN N).heap[T]? = _ from ht)
        go_wp2_with (first
          | (go_at_call 116; refine (hP _ ?_).mono ?_; (first | exact ha | exact ha.drewN _); rintro e w' ⟨rfl, n, rfl⟩)
          | (refine wpList_load_row rfl 67 (Operand.tmp 5) rfl (T + 1) rfl 67 (nine f) (0, 0) _ (hU _) Tryz.underlying67 rfl info9 ?_)
          | (refine wpList_store_row rfl 67 (Operand.tmp 4) _ rfl T (nine f) rfl rfl 67 (nine fun _ => false) (hTT _) info9 rfl (nine_one f) ?_))
        have rF := fun N => setRow_heap (wr.drewN N) T (nine fun _ => false) (nine f) 67 (0, 0) (hTT N)
        refine bodyPost_ret (v := .agg (nine f)) (results_cell_row rfl _ _ T _ (nine f) (0, 0) _ rfl (rF _) Tryz.underlying67 rfl info9) rfl ⟨by rw [HT.out], ?_, ?_, ?_⟩
        · rw [← HE.out]
          exact At.of_block (ha.drewN _) (setRow_other _ _ _ _ nbT)
        · exact (below_drewN hb _).trans ⟨rfl, rfl, rfl, by simp, fun k hk => setRow_other _ _ _ _ (by omega)⟩
        · intro j hj hjb
          exact (setRow_other _ _ _ _ (by omega)).trans (hk j (by omega) hjb)
    · obtain ⟨HE, HT⟩ := stop (by omega)
      have hP := fun w h => peek_any b s k i w h hi (by omega)
      clear stop hr hf
      have hU := fun N => (show (wr.drewN N).heap[T + 1]? = _ from hu)
      have hTT := fun N => (show (wr.drewN N).heap[T]? = _ from ht)
      go_wp2_with (first
        | (go_at_call 116; refine (hP _ ?_).mono ?_; (first | exact ha | exact ha.drewN _); rintro e w' ⟨rfl, n, rfl⟩)
        | (refine wpList_load_row rfl 67 (Operand.tmp 5) rfl (T + 1) rfl 67 (nine f) (0, 0) _ (hU _) Tryz.underlying67 rfl info9 ?_)
        | (refine wpList_store_row rfl 67 (Operand.tmp 4) _ rfl T (nine f) rfl rfl 67 (nine fun _ => false) (hTT _) info9 rfl (nine_one f) ?_))
      have rF := fun N => setRow_heap (wr.drewN N) T (nine fun _ => false) (nine f) 67 (0, 0) (hTT N)
      refine bodyPost_ret (v := .agg (nine f)) (results_cell_row rfl _ _ T _ (nine f) (0, 0) _ rfl (rF _) Tryz.underlying67 rfl info9) rfl ⟨by rw [HT.out], ?_, ?_, ?_⟩
      · rw [← HE.out]
        exact At.of_block (ha.drewN _) (setRow_other _ _ _ _ nbT)
      · exact (below_drewN hb _).trans ⟨rfl, rfl, rfl, by simp, fun k hk => setRow_other _ _ _ _ (by omega)⟩
      · intro j hj hjb
        exact (setRow_other _ _ _ _ (by omega)).trans (hk j (by omega) hjb)

/-- The document's answer to a rule's text: the error and its place, or the two tables. -/
def ruleR (s : ByteArray) : (Int × Nat) ⊕ ((Nat → Bool) × (Nat → Bool)) :=
  if 24 < s.size then .inl (1, 0)
  else if pk s 0 = 66 then
    if pk s (riseEnd s 1 49) = 47 then
      if pk s (riseEnd s 1 49 + 1) = 83 then
        if riseEnd s (riseEnd s 1 49 + 2) 48 < s.size then .inl (3, riseEnd s (riseEnd s 1 49 + 2) 48) else .inr (riseTab s 1 49, riseTab s (riseEnd s 1 49 + 2) 48)
      else .inl (3, riseEnd s 1 49 + 1)
    else .inl (3, riseEnd s 1 49)
  else .inl (3, 0)

/-- Twice nine bools. -/
def twoN (f g : Nat → Bool) : Array Value := #[.bool (f 0), .bool (f 1), .bool (f 2), .bool (f 3), .bool (f 4), .bool (f 5), .bool (f 6), .bool (f 7), .bool (f 8), .bool (g 0), .bool (g 1), .bool (g 2), .bool (g 3), .bool (g 4), .bool (g 5), .bool (g 6), .bool (g 7), .bool (g 8)]
theorem twoN_one (f g : Nat → Bool) : (twoN f g).all (·.oneCell') = true := by simp [twoN, Value.oneCell']

/-- Cells put in a row. -/
def putAll : Array Value → Nat → List Value → Array Value
  | cs, _, [] => cs
  | cs, o, v :: r => putAll (cs.setIfInBounds o v) (o + 1) r
theorem setCells_blk {b : Nat} {t : TypeId} {fz : Nat × Nat} : ∀ (vs : List Value) (o : Nat) (w : World) (cs : Array Value), w.heap[b]? = some (.cells cs t fz) → (w.setCells b o vs).heap[b]? = some (.cells (putAll cs o vs) t fz)
  | [], _, w, cs, h => h
  | v :: r, o, w, cs, h => setCells_blk r (o + 1) _ _ (blk_put (j := o) h v)
theorem setCells_other {b k : Nat} (hk : k ≠ b) : ∀ (vs : List Value) (o : Nat) (w : World), (w.setCells b o vs).heap[k]? = w.heap[k]?
  | [], _, w => rfl
  | v :: r, o, w => (setCells_other hk r (o + 1) _).trans (Below.heap_setCell w ⟨b, o, none⟩ v k hk)
theorem setCells_same {b : Nat} : ∀ (vs : List Value) (o : Nat) (w : World), (w.setCells b o vs).os = w.os ∧ (w.setCells b o vs).tape = w.tape ∧ (w.setCells b o vs).output = w.output ∧ (w.setCells b o vs).heap.size = w.heap.size
  | [], _, w => ⟨rfl, rfl, rfl, rfl⟩
  | v :: r, o, w => by
    obtain ⟨h1, h2, h3, h4⟩ := setCells_same (b := b) r (o + 1) (w.setCell ⟨b, o, none⟩ v)
    exact ⟨h1, h2, h3, h4.trans (by simp [World.setCell])⟩
theorem put_first (f g h : Nat → Bool) : putAll (twoN f g) 0 (nine h).toList = twoN h g := by simp [putAll, twoN, nine]
theorem put_second (f g h : Nat → Bool) : putAll (twoN f g) 9 (nine h).toList = twoN f h := by simp [putAll, twoN, nine]
theorem row_there {w : World} {b : Nat} {cs : Array Value} {t : TypeId} (h : w.heap[b]? = some (.cells cs t (0, 0))) {o n : Nat} (hn : o + n ≤ cs.size) : w.there b o n := fun j hj => by
  refine ⟨?_, frz_of h (o + j)⟩
  rw [cell_of h (o + j)]
  simp; omega

end Go.Proofs.YtiohpcnnpmnjhaaGreatDoor

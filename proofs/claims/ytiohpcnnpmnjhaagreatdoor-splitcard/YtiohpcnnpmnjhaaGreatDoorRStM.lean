import Derived.Test.YtiohpcnnpmnjhaaGreatDoorRfCM
import Derived.Test.YtiohpcnnpmnjhaaGreatDoorRefLife1
import Derived.Test.YtiohpcnnpmnjhaaGreatDoorAftM
import Derived.Test.YtiohpcnnpmnjhaaGreatDoorCrsM
namespace Go.Proofs.YtiohpcnnpmnjhaaGreatDoor
open Go.RowKit
set_option linter.unusedVariables false

theorem far_take {C : List Cel} {k : Nat} {x y : Int} (hs : C[k]? = some (x, y)) : farL (C.take (k + 1)) = (farL (C.take k) || farB x y) := by
  unfold farL
  rw [List.take_add_one, hs, List.any_append]
  simp

set_option maxHeartbeats 800000 in
/-- The reference's Near. -/
theorem refNear_any (v : Value) (C : List Cel) (w : World) (h : RowAt w v C) (hl : C.length ≤ 1000000) :
    Calls Tryz.prog 28 #[v] w fun e w' => e = .returned (.bool (!farL C)) ∧ Below w.heap.size w w' := by
  obtain ⟨ad, cp, rfl⟩ := h.slice
  have hnot : ∀ (x : Bool) (w : World), (Op.unary .not (.bool x)).run Tryz.prog w = .ok (.bool (!x)) w := fun _ _ => rfl
  go_enter Tryz.func28, Tryz.ntmps28
  go_wp2
  go_loopw [3] (fun i wr => ∃ k : Nat, k ≤ C.length ∧ i = .int .i64 k ∧ Below w.heap.size w wr ∧ Hid (farL (C.take k) = false)) (fun i _ => C.length - (intOf i).toNat)
  case atStart => exact ⟨0, Nat.zero_le _, rfl, Below.refl _ _, by simp [Hid, farL]⟩
  case round =>
    obtain ⟨k, hk, rfl, hb, hm⟩ := hrel
    by_cases hlt : k < C.length
    · obtain ⟨⟨x, y⟩, hs⟩ : ∃ s, C[k]? = some s := ⟨C[k], by simp [hlt]⟩
      obtain ⟨g, rfl, hg, hget⟩ := h.get hs
      obtain ⟨d0, d1⟩ := hget wr hb
      simp only at d0 d1
      have hN := fun w => near_any x y w
      have HT : Hid (farL (C.take (k + 1)) = (farL (C.take k) || farB x y)) := far_take hs
      have HC : Hid (farB x y = true → farL C = true) := fun hx => by
        unfold farL
        rw [List.any_eq_true]
        exact ⟨(x, y), List.mem_of_getElem? hs, hx⟩
      clear hs
      cases hf : farB x y with
      | true =>
        rw [hf] at hN
        go_wp2_with (go_at_call 53; refine (hN _).mono ?_; rintro e w1 ⟨rfl, rfl⟩)
        go_ret
        exact ⟨by rw [HC.out hf]; rfl, hb.alloc hb.size _⟩
      | false =>
        rw [hf] at hN
        go_wp2_with (go_at_call 53; refine (hN _).mono ?_; rintro e w1 ⟨rfl, rfl⟩)
        go_roundw
        case rel => exact ⟨k + 1, by omega, by go_num, hb.alloc hb.size _, by show _ = _; rw [HT.out, hm.out, hf]; rfl⟩
        case measure => simp [intOf]; omega
    · have hk' : k = C.length := by omega
      subst hk'
      have HF : Hid (farL C = false) := by
        have := hm.out
        rw [List.take_length] at this
        exact this
      clear hm
      go_wp2
      go_ret
      exact ⟨by rw [HF.out]; rfl, hb⟩

end Go.Proofs.YtiohpcnnpmnjhaaGreatDoor

namespace Go.Proofs.YtiohpcnnpmnjhaaGreatDoor
open Go.RowKit Go.Shelf
set_option linter.unusedVariables false

set_option maxRecDepth 100000 in
set_option maxHeartbeats 1600000 in
theorem refStep_bad (rule text : ByteArray) (n : Int) (w : World) (f' g' : Nat → Bool) (k i : Int) (hk : (k != 0) = true)
    (hG : ∀ w, Calls Tryz.prog 43 #[.string rule, .string text] w fun e w' => e = .returned (.tuple #[.agg (twoN f' g'), .slice none 0 0, .int .i64 k, .int .i64 i]) ∧ Below w.heap.size w w') :
    Calls Tryz.prog 13 #[.string rule, .string text, .int .i64 n] w fun e w' => e = .returned (.tuple #[.slice none 0 0, .int .i64 k, .int .i64 i]) ∧ Below w.heap.size w w' := by
  have HL : Hid ((Tryz.prog.info? 77).map (·.size) = some (twoN f' g').size) := info27
  have H1 : Hid ((twoN f' g').all (·.oneCell') = true) := twoN_one _ _
  have HS : Hid ((twoN noD noD).size = (twoN f' g').size) := rfl
  obtain ⟨L, hL⟩ : ∃ L, twoN f' g' = L := ⟨_, rfl⟩
  rw [hL] at HL H1 HS
  rw [hL] at hG
  clear hL
  go_enter Tryz.func13, Tryz.ntmps13
  go_wp2_with (first
    | (go_at_call 43; refine (hG _).mono ?_; rintro e w1 ⟨rfl, b1⟩)
    | (refine wpList_store_row rfl 77 (Operand.tmp 9) (Operand.tmp 23) rfl w1.heap.size L rfl rfl 77 (twoN noD noD) (z18_new w1) HL.out HS.out H1.out ?_; go_frame))
  exact bodyPost_ret (v := .tuple #[.slice none 0 0, .int .i64 k, .int .i64 i]) (by simp [results, Tryz.results13]) rfl ⟨rfl, below_row (b1.alloc b1.size _) b1.size L⟩

set_option maxRecDepth 100000 in
set_option maxHeartbeats 1600000 in
theorem refStep_range (rule text : ByteArray) (n : Int) (w : World) (f g : Nat → Bool) (C : List Cel) (hn : n < 0 ∨ 1000000000000000000 < n)
    (hG : ∀ w, Calls Tryz.prog 43 #[.string rule, .string text] w fun e w' => ∃ v, e = .returned (.tuple #[.agg (twoN f g), v, .int .i64 0, .int .i64 0]) ∧ Below w.heap.size w w' ∧ w'.ownsRow w.heap.size 44 2 v C.length (flatC C)) :
    Calls Tryz.prog 13 #[.string rule, .string text, .int .i64 n] w fun e w' => e = .returned (.tuple #[.slice none 0 0, .int .i64 6, .int .i64 0]) ∧ Below w.heap.size w w' := by
  have HL : Hid ((Tryz.prog.info? 77).map (·.size) = some (twoN f g).size) := info27
  have H1 : Hid ((twoN f g).all (·.oneCell') = true) := twoN_one _ _
  have HS : Hid ((twoN noD noD).size = (twoN f g).size) := rfl
  obtain ⟨L, hL⟩ : ∃ L, twoN f g = L := ⟨_, rfl⟩
  rw [hL] at HL H1 HS
  rw [hL] at hG
  clear hL
  by_cases h0 : n < 0
  · go_enter Tryz.func13, Tryz.ntmps13
    go_wp2_with (first
      | (go_at_call 43; refine (hG _).mono ?_; rintro e w1 ⟨v, rfl, b1, own⟩)
      | (refine wpList_store_row rfl 77 (Operand.tmp 9) (Operand.tmp 23) rfl w1.heap.size L rfl rfl 77 (twoN noD noD) (z18_new w1) HL.out HS.out H1.out ?_; go_frame))
    exact bodyPost_ret (v := .tuple #[.slice none 0 0, .int .i64 6, .int .i64 0]) (by simp [results, Tryz.results13]) rfl ⟨rfl, below_row (b1.alloc b1.size _) b1.size L⟩
  · have h9 : 1000000000000000000 < n := by omega
    go_enter Tryz.func13, Tryz.ntmps13
    go_wp2_with (first
      | (go_at_call 43; refine (hG _).mono ?_; rintro e w1 ⟨v, rfl, b1, own⟩)
      | (refine wpList_store_row rfl 77 (Operand.tmp 9) (Operand.tmp 23) rfl w1.heap.size L rfl rfl 77 (twoN noD noD) (z18_new w1) HL.out HS.out H1.out ?_; go_frame))
    exact bodyPost_ret (v := .tuple #[.slice none 0 0, .int .i64 6, .int .i64 0]) (by simp [results, Tryz.results13]) rfl ⟨rfl, below_row (b1.alloc b1.size _) b1.size L⟩

end Go.Proofs.YtiohpcnnpmnjhaaGreatDoor

namespace Go.Proofs.YtiohpcnnpmnjhaaGreatDoor
open Go.RowKit Go.Shelf
set_option linter.unusedVariables false

/-- What the reference's Step leaves. -/
def RStepOut (r : Int ⊕ List Cel) (w : World) (e : Ending) (w' : World) : Prop :=
  Below w.heap.size w w' ∧ match r with
    | .inl k => e = .returned (.tuple #[.slice none 0 0, .int .i64 k, .int .i64 0])
    | .inr D => ∃ v, e = .returned (.tuple #[v, .int .i64 0, .int .i64 0]) ∧ w'.ownsRow 0 44 2 v D.length (flatC D)
def nearR (f g : Nat → Bool) (C : List Cel) (m : Nat) : Int ⊕ List Cel := if okTo f g C m = true then (if farL (gen f g C m) = true then .inl 4 else .inr (gen f g C m)) else .inl 5
theorem nearR_big {f g : Nat → Bool} {C : List Cel} {m k : Nat} (hk : k ≤ m) (h : 100 < (gen f g C k).length) : nearR f g C m = .inl 5 := by
  unfold nearR
  rw [if_neg]
  intro ho
  have := okTo_iff.1 ho k hk
  omega

theorem law_rowS {w1 : World} {B m n e : Nat} {v : Value} {xs : List Value} (own : w1.ownsRow B e m v n xs) (L : Array Value) : ((w1.alloc (.cells Z18 77)).setRow w1.heap.size L).ownsRow 0 e m v n xs := by
  have o1 := (ownsRow_low own (Nat.zero_le _)).alloc (.cells Z18 77)
  refine o1.kept (row := some w1.heap.size) ⟨rfl, rfl, rfl, by simp, fun k _ hk => setRow_other _ _ k L (fun e => hk (by rw [e]))⟩ (Or.inr fun e => ?_)
  have := (own.lt _ e).2
  omega

set_option maxRecDepth 100000 in
set_option maxHeartbeats 1600000 in
theorem refStep_near (rule text : ByteArray) (m : Nat) (hm : m ≤ 200) (w : World) (f g : Nat → Bool) (C : List Cel) (X Y : Int) (hf : Fine C X Y)
    (hG : ∀ w, Calls Tryz.prog 43 #[.string rule, .string text] w fun e w' => ∃ v, e = .returned (.tuple #[.agg (twoN f g), v, .int .i64 0, .int .i64 0]) ∧ Below w.heap.size w w' ∧ w'.ownsRow w.heap.size 44 2 v C.length (flatC C)) :
    Calls Tryz.prog 13 #[.string rule, .string text, .int .i64 (m : Int)] w (RStepOut (nearR f g C m) w) := by
  have HL : Hid ((Tryz.prog.info? 77).map (·.size) = some (twoN f g).size) := info27
  have H1 : Hid ((twoN f g).all (·.oneCell') = true) := twoN_one _ _
  have HS : Hid ((twoN noD noD).size = (twoN f g).size) := rfl
  have hNx := fun (k : Nat) (v : Value) (w : World) (hk : k ≤ 300) (own : w.ownsRow 0 44 2 v (gen f g C k).length (flatC (gen f g C k))) (hl : (gen f g C k).length ≤ 100) =>
    next_any v (gen f g C k) f g w (RowAt.of_owns own) (by omega) (gen_asc hf.asc k) (fine_roam hf k hk).mild
  obtain ⟨L, hL⟩ : ∃ L, twoN f g = L := ⟨_, rfl⟩
  rw [hL] at HL H1 HS
  rw [hL] at hG
  simp only [hL] at hNx
  clear hL
  have e1 : decide ((m : Int) < 0) = false := decide_eq_false (by omega)
  have e2 : decide ((1000000000000000000 : Int) < (m : Int)) = false := decide_eq_false (by omega)
  have e3 : decide ((m : Int) ≤ 200) = true := decide_eq_true (by omega)
  go_enter Tryz.func13, Tryz.ntmps13
  go_wp2_with (first
    | (go_at_call 43; refine (hG _).mono ?_; rintro e w1 ⟨v, rfl, b1, own⟩)
    | (refine wpList_store_row rfl 77 (Operand.tmp 9) (Operand.tmp 23) rfl w1.heap.size L rfl rfl 77 (twoN noD noD) (z18_new w1) HL.out HS.out H1.out ?_; go_frame
       have b8 := setRow_heap (w1.alloc (.cells Z18 77)) w1.heap.size (twoN noD noD) L 77 (0, 0) (z18_new w1)
       have own2 := law_rowS own L
       have be2 : Below w.heap.size w ((w1.alloc (.cells Z18 77)).setRow w1.heap.size L) := below_row (b1.alloc b1.size _) b1.size L
       have hT : w.heap.size ≤ w1.heap.size := b1.size
       clear b1 own
       generalize ((w1.alloc (.cells Z18 77)).setRow w1.heap.size L) = W2 at *))
  go_loopw [10, 13] (fun vl vk wr => ∃ k : Nat, k ≤ m ∧ vk = .int .i64 (k : Int) ∧ wr.ownsRow 0 44 2 vl (gen f g C k).length (flatC (gen f g C k)) ∧ Hid (∀ r, r < k → (gen f g C r).length ≤ 100) ∧ Below w.heap.size w wr ∧ wr.heap[w1.heap.size]? = some (.cells L 77 (0, 0))) (fun _ i _ => m - (intOf i).toNat)
  case atStart => exact ⟨0, Nat.zero_le _, rfl, own2, (fun r hr => by omega : ∀ r, r < 0 → (gen f g C r).length ≤ 100), be2, b8⟩
  case round =>
    clear own2 be2 b8
    obtain ⟨k, hk, rfl, ownk, hno, hb, hbl⟩ := hrel
    obtain ⟨ak, nk, ck, rfl, hnk⟩ : ∃ a n c, u10 = .slice a n c ∧ n = (gen f g C k).length := by obtain ⟨a, c, h⟩ := row_slice ownk; exact ⟨a, _, c, h, rfl⟩
    have HN : Hid (nk = (gen f g C k).length) := hnk
    clear hnk
    by_cases hbig : 100 < nk
    · have HQ : Hid (nearR f g C m = .inl 5) := nearR_big hk (by have := HN.out; omega)
      have hbi : (100 : Int) < (nk : Int) := by omega
      by_cases hlt : k < m
      · go_wp2
        exact bodyPost_ret (v := .tuple #[.slice none 0 0, .int .i64 5, .int .i64 0]) (by simp [results, Tryz.results13]) rfl (by rw [HQ.out]; exact ⟨hb, rfl⟩)
      · go_wp2
        exact bodyPost_ret (v := .tuple #[.slice none 0 0, .int .i64 5, .int .i64 0]) (by simp [results, Tryz.results13]) rfl (by rw [HQ.out]; exact ⟨hb, rfl⟩)
    · have hbi : ¬ (100 : Int) < (nk : Int) := by omega
      have HE : Hid (∀ r, r < k + 1 → (gen f g C r).length ≤ 100) := fun r hr => by
        by_cases e : r = k
        · subst e; have := HN.out; omega
        · exact hno.out r (by omega)
      by_cases hlt : k < m
      · have hX := hNx k (.slice ak nk ck) wr (by omega) ownk (by have := HN.out; omega)
        go_wp2_with (first
          | (refine wpList_load_row rfl 77 (Operand.tmp 9) rfl w1.heap.size rfl 77 L (0, 0) _ hbl Tryz.underlying77 rfl HL.out ?_)
          | (go_at_call 44; refine hX.mono ?_; rintro e w3 ⟨⟨v3, rfl, own3⟩, b3⟩))
        go_roundw
        case rel => exact ⟨k + 1, by omega, by go_num, ownsRow_low own3 (Nat.zero_le _), HE, hb.trans (b3.mono hb.size), (b3.block _ (blk_lt hbl)).trans hbl⟩
        case measure => simp [intOf]; omega
      · have hkm : k = m := by omega
        have hNr := refNear_any (.slice ak nk ck) (gen f g C k) wr (RowAt.of_owns ownk) (by have := HN.out; omega)
        have HO : Hid (okTo f g C m = true) := okTo_iff.2 fun r hr => HE.out r (by omega)
        have HK : Hid (k = m) := hkm
        clear hkm
        cases hfd : farL (gen f g C k) with
        | true =>
          rw [hfd] at hNr
          go_wp2_with (go_at_call 28; refine hNr.mono ?_; rintro e w3 ⟨rfl, b3⟩)
          exact bodyPost_ret (v := .tuple #[.slice none 0 0, .int .i64 4, .int .i64 0]) (by simp [results, Tryz.results13]) rfl (by unfold nearR; rw [if_pos HO.out, ← HK.out, hfd]; exact ⟨hb.trans (b3.mono hb.size), rfl⟩)
        | false =>
          rw [hfd] at hNr
          go_wp2_with (go_at_call 28; refine hNr.mono ?_; rintro e w3 ⟨rfl, b3⟩)
          exact bodyPost_ret (v := .tuple #[.slice ak nk ck, .int .i64 0, .int .i64 0]) (by simp [results, Tryz.results13]) rfl (by unfold nearR; rw [if_pos HO.out, ← HK.out, hfd]; exact ⟨hb.trans (b3.mono hb.size), _, rfl, rowBelow ownk b3⟩)

end Go.Proofs.YtiohpcnnpmnjhaaGreatDoor

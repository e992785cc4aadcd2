import Derived.OrdersIn
import Derived.Test.YtiohpcnnpmnjhaaMoveTo
import Derived.Test.YtiohpcnnpmnjhaaMovedG
import Derived.Test.YtiohpcnnpmnjhaaAroundM
import Derived.Test.YtiohpcnnpmnjhaaAdd
namespace Go.Proofs.Ytiohpcnnpmnjhaa
set_option linter.unusedVariables false

section
variable {F : Fence} {n : Nat} {P : Program} {ops : Array Oper} {md : Region.Mode} {C : World → Prop} {Q : Exit → Act → World → Prop}

/-- Whatever order is picked: and every world on the way is one of C. -/
def wpAnyC (F : Fence) (n : Nat) (P : Program) (md : Region.Mode) (ops : Array Oper) (C : World → Prop) (Q : Exit → Act → World → Prop) : Nat → Array Bool → Act → World → Prop
  | 0, listed, a, w => Region.ready md ops listed = [] ∧ Q .normal a w
  | fuel + 1, listed, a, w => (Region.ready md ops listed = [] → Q .normal a w) ∧ ∀ i ∈ Region.ready md ops listed, wpOpIn F n P ops Q i (fun a' w' => C w' ∧ wpAnyC F n P md ops C Q fuel (listed.setIfInBounds i true) a' w') a w
theorem wpAnyC.any : ∀ {fuel : Nat} {listed : Array Bool} {a : Act} {w : World}, wpAnyC F n P md ops C Q fuel listed a w → wpAnyIn F n P md ops Q fuel listed a w
  | 0, _, _, _, h => h
  | _ + 1, _, _, _, h => ⟨h.1, fun i hi => wpOpIn_mono (fun _ _ hk => hk.2.any) (h.2 i hi)⟩

/-- In this state the operation yields v, in every world of C, and leaves the world as it is. -/
def YieldsC (P : Program) (ops : Array Oper) (C : World → Prop) (o : Oper) (v : Value) (a : Act) : Prop :=
  Region.wanted o (yielded ops a.tmps) = true ∧ ∀ w, C w → o.about P w a.eval = none ∧ (execOp a.eval o).run P w = .ok (.value v) w

/-- An operation that looks not at the other's temporary does as it did, and lands beside it. -/
theorem wpOpIn_beside {j : Nat} {oi oj : Oper} {v : Value} (hro : F.round = none) (hj : ops[j]? = some oj) (hap : oi.apart ops oj = true) (hsj : ∀ cs b, oj.op ≠ .select cs b)
    (hQ : ∀ c a w, Q (.panic c) (a.put oi.dst v) w → Q (.panic c) a w) {K : Act → World → Prop} {a : Act} {w : World} (h : wpOpIn F n P ops Q j K (a.put oi.dst v) w) :
    wpOpIn F n P ops Q j (fun a' w' => (∃ u ds, a' = Act.put { a with defers := ds } oj.dst u) ∧ K (a'.put oi.dst v) w') a w := by
  obtain ⟨h1, h2, _⟩ := Oper.apart_spec hap
  have com : ∀ (b : Act) (u : Value), (b.put oj.dst u).put oi.dst v = (b.put oi.dst v).put oj.dst u := fun b u => (Act.put_comm b v u h2).symm
  unfold wpOpIn at *
  simp only [hj] at *
  rw [wanted_put oj a oi.dst v h1, about_put oj w a oi.dst v h1] at h
  by_cases hw : Region.wanted oj (yielded ops a.tmps) = true
  · rw [if_pos hw] at h ⊢
    unfold Oper.wpIn at *
    rw [about_put oj w a oi.dst v h1, hro, Oper.semAt_none, execOp_put oj hsj a oi.dst v h1] at h
    rw [hro, Oper.semAt_none]
    refine ⟨h.1, ?_⟩
    obtain ⟨-, h⟩ := h
    have land : ∀ u (w' : World), K ((a.put oi.dst v).put oj.dst u) w' → (∃ u' ds, a.put oj.dst u = Act.put { a with defers := ds } oj.dst u') ∧ K ((a.put oj.dst u).put oi.dst v) w' := fun u w' hk => ⟨⟨u, a.defers, rfl⟩, by rw [com]; exact hk⟩
    generalize (execOp a.eval oj).run P w = r at h ⊢
    cases r with
    | ok x w' =>
      cases x <;> simp only [Oper.uponIn] at h ⊢
      case value u => exact land u w' h
      case skip => exact land _ w' h
      case defer d => exact ⟨⟨undef, d :: a.defers, rfl⟩, by rw [com, ← Act.put_defers]; exact h⟩
      case enter f args => exact ⟨h.1, h.2.mono fun e w'' he => by cases e <;> first | exact land _ _ he | exact hQ _ _ _ he | exact he⟩
      case row row args => exact ⟨h.1, h.2.mono fun u w'' he => land u w'' he⟩
      case round l f tmps assign body => exact ⟨h.1, h.2.mono fun e w'' he => by cases e <;> first | exact land _ _ he | exact hQ _ _ _ he | exact he⟩
    | halt x w' => cases x <;> simp only [Oper.uponIn] at h ⊢ <;> first | exact hQ _ _ _ h | exact h
  · rw [if_neg hw] at h ⊢
    exact ⟨h.1, ⟨undef, a.defers, rfl⟩, by rw [com]; exact h.2⟩

/-- An operation that may come up now, and yields the same in every world of C, may be taken first. -/
theorem wpAnyC_first {i : Nat} {oi : Oper} {v : Value} (hro : F.round = none) (hi : ops[i]? = some oi) (hsel : ∀ (j : Nat) (o : Oper) cs b, ops[j]? = some o → o.op ≠ .select cs b)
    (hQ : ∀ c a w, Q (.panic c) (a.put oi.dst v) w → Q (.panic c) a w) : ∀ (fuel : Nat) (listed : Array Bool) (a : Act) (w : World), C w →
      (∀ j oj, ops[j]? = some oj → j ≠ i → listed.getD j true = false → (∀ e ∈ oj.after, Region.binds md e = true → e.on ≠ i) → oi.apart ops oj = true) →
      i ∈ Region.ready md ops listed → YieldsC P ops C oi v a → wpAnyC F n P md ops C Q fuel (listed.setIfInBounds i true) (a.put oi.dst v) w → wpAnyC F n P md ops C Q (fuel + 1) listed a w := by
  have mine : ∀ (fuel : Nat) (listed : Array Bool) (a : Act) (w : World), C w → YieldsC P ops C oi v a → wpAnyC F n P md ops C Q fuel (listed.setIfInBounds i true) (a.put oi.dst v) w →
      wpOpIn F n P ops Q i (fun a' w' => C w' ∧ wpAnyC F n P md ops C Q fuel (listed.setIfInBounds i true) a' w') a w := fun fuel listed a w hC hy H => by
    obtain ⟨hab, hrun⟩ := hy.2 w hC
    unfold wpOpIn
    simp only [hi]
    rw [if_pos hy.1]
    unfold Oper.wpIn
    rw [hro, Oper.semAt_none, hrun, hab]
    exact ⟨(fun f hf => by cases hf), hC, H⟩
  intro fuel
  induction fuel with
  | zero =>
    intro listed a w hC _ hr hy H
    refine ⟨(fun h => by rw [h] at hr; cases hr), fun j hj => ?_⟩
    by_cases hji : j = i
    · subst hji; exact mine 0 listed a w hC hy H
    · have := ready_mono hj hji
      rw [H.1] at this; cases this
  | succ fuel ih =>
    intro listed a w hC hfree hr hy H
    refine ⟨(fun h => by rw [h] at hr; cases hr), fun j hj => ?_⟩
    by_cases hji : j = i
    · subst hji; exact mine _ listed a w hC hy H
    · obtain ⟨hjun, oj, hoj, hall⟩ := mem_ready.1 hj
      have hnot : ∀ e ∈ oj.after, Region.binds md e = true → e.on ≠ i := fun e he hb heq => by
        have h1 := hall e he hb
        have h0 := (mem_ready.1 hr).1
        rw [heq] at h1
        by_cases h' : i < listed.size
        · simp [h'] at h0 h1; rw [h0] at h1; cases h1
        · simp [Array.getElem?_eq_none (Nat.le_of_not_lt h')] at h1
      have hap := hfree j oj hoj hji hjun hnot
      obtain ⟨_, _, h3⟩ := Oper.apart_spec hap
      refine wpOpIn_mono ?_ (wpOpIn_beside hro hoj hap (fun cs b => hsel j oj cs b hoj) hQ (H.2 j (ready_mono hj hji)))
      rintro a' w' ⟨⟨u, ds, rfl⟩, hC', H'⟩
      refine ⟨hC', ih _ _ _ hC' (fun k ok hk hki hun hno => hfree k ok hk hki ?_ hno) (ready_mono hr (Ne.symm hji)) ⟨?_, fun x hx => ?_⟩ (by rw [Array.setIfInBounds_comm _ _ hji]; exact H')⟩
      · by_cases hjk : j = k
        · subst hjk; exact hjun
        · rwa [getD_set_ne true hjk] at hun
      · rw [wanted_put oi _ oj.dst u h3]; exact hy.1
      · rw [about_put oi x _ oj.dst u h3, execOp_put oi (fun cs b => hsel i oi cs b hi) _ oj.dst u h3]
        exact hy.2 x hx

theorem wpAnyC_take {i : Nat} {oi : Oper} {v : Value} {fuel : Nat} {listed : Array Bool} {a : Act} {w : World} (hC : C w) (hro : F.round = none) (hi : ops[i]? = some oi) (hs : Region.noSelect ops = true) (hf : Region.free md ops listed i = true) (hr : (Region.ready md ops listed).contains i = true)
    (hQ : ∀ c a w, Q (.panic c) (a.put oi.dst v) w → Q (.panic c) a w) (hy : YieldsC P ops C oi v a) (h : wpAnyC F n P md ops C Q fuel (listed.setIfInBounds i true) (a.put oi.dst v) w) : wpAnyC F n P md ops C Q (fuel + 1) listed a w :=
  wpAnyC_first hro hi (Region.noSelect_spec hs) hQ fuel listed a w hC (Region.free_spec hi hf) (by simpa using hr) hy h
/-- One alone may come up. -/
theorem wpAnyC_one {i : Nat} {oi : Oper} {fuel : Nat} {listed : Array Bool} {a : Act} {w : World} (hr : Region.ready md ops listed = [i]) (hi : ops[i]? = some oi) (hw : Region.wanted oi (yielded ops a.tmps) = true)
    (h : ∀ K : Act → World → Prop, (∀ a' w', C w' → wpAnyC F n P md ops C Q fuel (listed.setIfInBounds i true) a' w' → K a' w') → oi.wpIn F n P a w K Q) : wpAnyC F n P md ops C Q (fuel + 1) listed a w := by
  refine ⟨(fun h0 => by rw [h0] at hr; cases hr), fun j hj => ?_⟩
  rw [hr, List.mem_singleton] at hj
  subst hj
  unfold wpOpIn
  simp only [hi]
  rw [if_pos hw]
  exact h _ fun a' w' hC hk => ⟨hC, hk⟩
theorem wpAnyC_done {listed : Array Bool} {a : Act} {w : World} (hr : Region.ready md ops listed = []) (h : Q .normal a w) : ∀ fuel, wpAnyC F n P md ops C Q fuel listed a w
  | 0 => ⟨hr, h⟩
  | _ + 1 => ⟨fun _ => h, by rw [hr]; simp⟩
end

end Go.Proofs.Ytiohpcnnpmnjhaa

namespace Go.Proofs.Ytiohpcnnpmnjhaa
open Go.RowKit Go.Shelf
set_option linter.unusedVariables false
attribute [local go_sem] Oper.semAt_some

/-- What moveTo answers. -/
def moveV (dx dy : Int) (A B : List Cel) : Value := if A.map (sh dx dy) = B then .tuple #[.agg #[.int .i64 dx, .int .i64 dy], .bool true] else .tuple #[.agg #[.int .i64 0, .int .i64 0], .bool false]
/-- What the rounds leave. -/
structure MInv (w : World) (N : Nat) (dx dy : Int) (vp vq : Value) (B pre : List Cel) (W : World) : Prop where
  b0 : W.heap[w.heap.size]? = some (.cells #[vq] 65 (0, 0))
  b1 : W.heap[w.heap.size + 1]? = some (.cells #[.int .i64 0, .int .i64 0] 99 (0, 0))
  b2 : W.heap[w.heap.size + 2]? = some (.cells #[.bool false] 4 (0, 0))
  b3 : W.heap[w.heap.size + 3]? = some (.cells #[.int .i64 dx, .int .i64 dy] 99 (0, 0))
  bi : W.heap[N]? = some (.cells #[.int .i64 (pre.length : Int)] 3 (0, 0))
  c1 : W.heap[N + 1]? = some (.cells #[vp] 65 (0, 0))
  c2 : W.heap[N + 2]? = some (.cells #[.int .i64 dx, .int .i64 dy] 99 (0, 0))
  be : Below w.heap.size w W
  eq : pre = B.take pre.length
/-- What a round leaves that ends them. -/
structure MEnd (w : World) (B pre : List Cel) (W : World) : Prop where
  b1 : W.heap[w.heap.size + 1]? = some (.cells #[.int .i64 0, .int .i64 0] 99 (0, 0))
  b2 : W.heap[w.heap.size + 2]? = some (.cells #[.bool false] 4 (0, 0))
  be : Below w.heap.size w W
  no : ∃ q c, pre = q ++ [c] ∧ B[q.length]? ≠ some c

set_option maxRecDepth 100000 in
set_option maxHeartbeats 1600000 in
theorem moveTo_in (g h cap cbp : Nat) (x y u v dx dy : Int) (HX : Hid (u - x = dx)) (HY : Hid (v - y = dy)) (A B : List Cel) (w : World) (hA : CellsAt w g A) (hg : g < w.heap.size) (hB : CellsAt w h B) (hh : h < w.heap.size) (hl : A.length ≤ 1000000) (hlb : B.length = A.length)
    (h0 : A[0]? = some (x, y)) (h1 : B[0]? = some (u, v)) (hF : Fits dx dy A) (hx : -9223372036854775808 ≤ dx ∧ dx ≤ 9223372036854775807) (hy : -9223372036854775808 ≤ dy ∧ dy ≤ 9223372036854775807) :
    CallsIn Fence.wide 5 Try.prog 51 #[.slice (some ⟨g, 0, none⟩) A.length cap, .slice (some ⟨h, 0, none⟩) A.length cbp] w fun e w' => e = .returned (moveV dx dy A B) ∧ Below w.heap.size w w' := by
  have hwx : IntKind.i64.wrap (u - x) = dx := by rw [HX.out]; simp [IntKind.wrap, IntKind.bits, IntKind.signed]; omega
  have hwy : IntKind.i64.wrap (v - y) = dy := by rw [HY.out]; simp [IntKind.wrap, IntKind.bits, IntKind.signed]; omega
  have hpos : 0 < A.length := by
    cases A with
    | nil => simp at h0
    | cons => simp
  have hz : ((A.length : Int) == 0) = false := by have : ¬ (A.length : Int) = 0 := by omega
                                                  simpa using this
  have hpi : (0 : Int) < (A.length : Int) := by omega
  have hb3 : Below w.heap.size w (((w.alloc (.cells #[.slice (some ⟨h, 0, none⟩) A.length cbp] 65)).alloc (.cells #[.int .i64 0, .int .i64 0] 99)).alloc (.cells #[.bool false] 4)) := (((Below.refl _ _).alloc (Nat.le_refl _) _).alloc (by simp) _).alloc (by simp only [World.size_alloc]; omega) _
  have s3 : (((w.alloc (.cells #[.slice (some ⟨h, 0, none⟩) A.length cbp] 65)).alloc (.cells #[.int .i64 0, .int .i64 0] 99)).alloc (.cells #[.bool false] 4)).heap.size = w.heap.size + 3 := by simp
  have t0 := blk_old (blk_old (blk_new w (.cells #[.slice (some ⟨h, 0, none⟩) A.length cbp] 65)) (.cells #[.int .i64 0, .int .i64 0] 99)) (.cells #[.bool false] 4)
  have t1 := blk_old (blk_new (w.alloc (.cells #[.slice (some ⟨h, 0, none⟩) A.length cbp] 65)) (.cells #[.int .i64 0, .int .i64 0] 99)) (.cells #[.bool false] 4)
  have t2 := blk_new ((w.alloc (.cells #[.slice (some ⟨h, 0, none⟩) A.length cbp] 65)).alloc (.cells #[.int .i64 0, .int .i64 0] 99)) (.cells #[.bool false] 4)
  simp only [World.size_alloc, Nat.add_assoc, Nat.reduceAdd] at t0 t1 t2
  refine callsIn_of_wp_marks Try.func51 rfl trivial ?_ rfl
  simp only [Try.ntmps51, List.size_toArray, List.length_cons, List.length_nil, Nat.reduceAdd, Nat.reduceSub, Array.replicate_succ, Array.replicate_zero, List.push_toArray, List.append_toArray, List.nil_append, List.cons_append]
  gi_wp2
  generalize (((w.alloc (.cells #[.slice (some ⟨h, 0, none⟩) A.length cbp] 65)).alloc (.cells #[.int .i64 0, .int .i64 0] 99)).alloc (.cells #[.bool false] 4)) = W3 at *
  obtain ⟨e0, e1⟩ := (hA.below hb3 hg).get 0 _ h0
  obtain ⟨f0, f1⟩ := (hB.below hb3 hh).get 0 _ h1
  simp only [Nat.zero_mul, Nat.zero_add] at e0 e1 f0 f1
  have c0 := cell_of t0 0
  have hgl : g < W3.heap.size := Nat.lt_of_lt_of_le hg hb3.size
  have hhl : h < W3.heap.size := Nat.lt_of_lt_of_le hh hb3.size
  have hal : ∀ (b j : Nat), b < W3.heap.size → (W3.alloc (.cells #[.int .i64 0, .int .i64 0] 99)).cell? ⟨b, j, none⟩ = W3.cell? ⟨b, j, none⟩ := fun b j hb => by
    simp only [World.cell?]
    rw [Below.heap_alloc W3 _ _ hb]
  have e0' := (hal g 0 hgl).trans e0
  have e1' := (hal g 1 hgl).trans e1
  have f0' := (hal h 0 hhl).trans f0
  have f1' := (hal h 1 hhl).trans f1
  have c0' := (hal w.heap.size 0 (by omega)).trans c0
  clear hal
  try simp only at e0 e1 f0 f1 e0' e1' f0' f1'
  clear e0' e1' f0' f1' c0'
  refine wpIn_mono (Q := fun e a' w' => e = .normal ∧ a' = { tmps := List.toArray ((.slice (some ⟨g, 0, none⟩) A.length cap : Value) :: (.slice (some ⟨h, 0, none⟩) A.length cbp : Value) :: undef :: (.pointer (some ⟨w.heap.size, 0, none⟩) : Value) :: (.pointer (some ⟨w.heap.size + 1, 0, none⟩) : Value) :: (.pointer (some ⟨w.heap.size + 1 + 1, 0, none⟩) : Value) :: (.pointer (some ⟨w.heap.size + 3, 0, none⟩) : Value) :: undef :: undef :: (.slice (some ⟨g, 0, none⟩) A.length cap : Value) :: (.int .i64 (A.length : Int) : Value) :: (.slice (some ⟨h, 0, none⟩) A.length cbp : Value) :: (.int .i64 (A.length : Int) : Value) :: (.bool false : Value) :: undef :: (.slice (some ⟨g, 0, none⟩) A.length cap : Value) :: (.int .i64 (A.length : Int) : Value) :: (.bool false : Value) :: undef :: (.slice (some ⟨h, 0, none⟩) A.length cbp : Value) :: (.pointer (some ⟨h, 0, none⟩) : Value) :: (.pointer (some ⟨h, 0, none⟩) : Value) :: (.int .i64 (u) : Value) :: (.slice (some ⟨g, 0, none⟩) A.length cap : Value) :: (.pointer (some ⟨g, 0, none⟩) : Value) :: (.pointer (some ⟨g, 0, none⟩) : Value) :: (.int .i64 (x) : Value) :: (.int .i64 dx : Value) :: (.slice (some ⟨h, 0, none⟩) A.length cbp : Value) :: (.pointer (some ⟨h, 0, none⟩) : Value) :: (.pointer (some ⟨h, 1, none⟩) : Value) :: (.int .i64 (v) : Value) :: (.slice (some ⟨g, 0, none⟩) A.length cap : Value) :: (.pointer (some ⟨g, 0, none⟩) : Value) :: (.pointer (some ⟨g, 1, none⟩) : Value) :: (.int .i64 (y) : Value) :: (.int .i64 dy : Value) :: (.agg #[.int .i64 dx, .int .i64 dy] : Value) :: undef :: undef :: undef :: undef :: undef :: undef :: undef :: undef :: undef :: undef :: undef :: undef :: undef :: undef :: []), defers := [] } ∧ Below W3.heap.size W3 w' ∧ w'.heap[w.heap.size + 3]? = some (.cells #[.int .i64 dx, .int .i64 dy] 99 (0, 0))) ?_ ?_
  · refine wpIn_region_any (by kernel_rfl) (wpAnyC.any (C := fun W => W.cell? ⟨w.heap.size, 0, none⟩ = some (.slice (some ⟨h, 0, none⟩) A.length cbp) ∧ W.cell? ⟨g, 0, none⟩ = some (.int .i64 x) ∧ W.cell? ⟨g, 1, none⟩ = some (.int .i64 y) ∧ W.cell? ⟨h, 0, none⟩ = some (.int .i64 u) ∧ W.cell? ⟨h, 1, none⟩ = some (.int .i64 v)) ?_)
    change wpAnyC _ _ _ _ _ _ _ _ _ _ (World.drew _)
    have hC : W3.drew.cell? ⟨w.heap.size, 0, none⟩ = some (.slice (some ⟨h, 0, none⟩) A.length cbp) ∧ W3.drew.cell? ⟨g, 0, none⟩ = some (.int .i64 x) ∧ W3.drew.cell? ⟨g, 1, none⟩ = some (.int .i64 y) ∧ W3.drew.cell? ⟨h, 0, none⟩ = some (.int .i64 u) ∧ W3.drew.cell? ⟨h, 1, none⟩ = some (.int .i64 v) := ⟨c0, e0, e1, f0, f1⟩
    clear hA hB hF
    refine wpAnyC_take (i := 0) (v := (.slice (some ⟨h, 0, none⟩) A.length cbp : Value)) hC rfl rfl (by kernel_rfl) (by kernel_rfl) (by kernel_rfl) (fun _ _ _ h => nomatch h.1) ⟨by rfl, fun W hW => ⟨rfl, by obtain ⟨k0, k1, k2, k3, k4⟩ := hW; go_simp⟩⟩ ?_
    refine wpAnyC_take (i := 1) (v := (.pointer (some ⟨h, 0, none⟩) : Value)) hC rfl rfl (by kernel_rfl) (by kernel_rfl) (by kernel_rfl) (fun _ _ _ h => nomatch h.1) ⟨by rfl, fun W hW => ⟨rfl, by obtain ⟨k0, k1, k2, k3, k4⟩ := hW; go_simp⟩⟩ ?_
    refine wpAnyC_take (i := 2) (v := (.pointer (some ⟨h, 0, none⟩) : Value)) hC rfl rfl (by kernel_rfl) (by kernel_rfl) (by kernel_rfl) (fun _ _ _ h => nomatch h.1) ⟨by rfl, fun W hW => ⟨rfl, by obtain ⟨k0, k1, k2, k3, k4⟩ := hW; go_simp⟩⟩ ?_
    refine wpAnyC_take (i := 3) (v := (.int .i64 (u) : Value)) hC rfl rfl (by kernel_rfl) (by kernel_rfl) (by kernel_rfl) (fun _ _ _ h => nomatch h.1) ⟨by rfl, fun W hW => ⟨rfl, by obtain ⟨k0, k1, k2, k3, k4⟩ := hW; go_simp⟩⟩ ?_
    refine wpAnyC_take (i := 4) (v := (.slice (some ⟨g, 0, none⟩) A.length cap : Value)) hC rfl rfl (by kernel_rfl) (by kernel_rfl) (by kernel_rfl) (fun _ _ _ h => nomatch h.1) ⟨by rfl, fun W hW => ⟨rfl, by obtain ⟨k0, k1, k2, k3, k4⟩ := hW; go_simp⟩⟩ ?_
    refine wpAnyC_take (i := 5) (v := (.pointer (some ⟨g, 0, none⟩) : Value)) hC rfl rfl (by kernel_rfl) (by kernel_rfl) (by kernel_rfl) (fun _ _ _ h => nomatch h.1) ⟨by rfl, fun W hW => ⟨rfl, by obtain ⟨k0, k1, k2, k3, k4⟩ := hW; go_simp⟩⟩ ?_
    refine wpAnyC_take (i := 6) (v := (.pointer (some ⟨g, 0, none⟩) : Value)) hC rfl rfl (by kernel_rfl) (by kernel_rfl) (by kernel_rfl) (fun _ _ _ h => nomatch h.1) ⟨by rfl, fun W hW => ⟨rfl, by obtain ⟨k0, k1, k2, k3, k4⟩ := hW; go_simp⟩⟩ ?_
    refine wpAnyC_take (i := 7) (v := (.int .i64 (x) : Value)) hC rfl rfl (by kernel_rfl) (by kernel_rfl) (by kernel_rfl) (fun _ _ _ h => nomatch h.1) ⟨by rfl, fun W hW => ⟨rfl, by obtain ⟨k0, k1, k2, k3, k4⟩ := hW; go_simp⟩⟩ ?_
    refine wpAnyC_take (i := 8) (v := (.int .i64 dx : Value)) hC rfl rfl (by kernel_rfl) (by kernel_rfl) (by kernel_rfl) (fun _ _ _ h => nomatch h.1) ⟨by rfl, fun W hW => ⟨rfl, by obtain ⟨k0, k1, k2, k3, k4⟩ := hW; go_simp⟩⟩ ?_
    refine wpAnyC_take (i := 9) (v := (.slice (some ⟨h, 0, none⟩) A.length cbp : Value)) hC rfl rfl (by kernel_rfl) (by kernel_rfl) (by kernel_rfl) (fun _ _ _ h => nomatch h.1) ⟨by rfl, fun W hW => ⟨rfl, by obtain ⟨k0, k1, k2, k3, k4⟩ := hW; go_simp⟩⟩ ?_
    refine wpAnyC_take (i := 10) (v := (.pointer (some ⟨h, 0, none⟩) : Value)) hC rfl rfl (by kernel_rfl) (by kernel_rfl) (by kernel_rfl) (fun _ _ _ h => nomatch h.1) ⟨by rfl, fun W hW => ⟨rfl, by obtain ⟨k0, k1, k2, k3, k4⟩ := hW; go_simp⟩⟩ ?_
    refine wpAnyC_take (i := 11) (v := (.pointer (some ⟨h, 1, none⟩) : Value)) hC rfl rfl (by kernel_rfl) (by kernel_rfl) (by kernel_rfl) (fun _ _ _ h => nomatch h.1) ⟨by rfl, fun W hW => ⟨rfl, by obtain ⟨k0, k1, k2, k3, k4⟩ := hW; go_simp⟩⟩ ?_
    refine wpAnyC_take (i := 12) (v := (.int .i64 (v) : Value)) hC rfl rfl (by kernel_rfl) (by kernel_rfl) (by kernel_rfl) (fun _ _ _ h => nomatch h.1) ⟨by rfl, fun W hW => ⟨rfl, by obtain ⟨k0, k1, k2, k3, k4⟩ := hW; go_simp⟩⟩ ?_
    refine wpAnyC_take (i := 13) (v := (.slice (some ⟨g, 0, none⟩) A.length cap : Value)) hC rfl rfl (by kernel_rfl) (by kernel_rfl) (by kernel_rfl) (fun _ _ _ h => nomatch h.1) ⟨by rfl, fun W hW => ⟨rfl, by obtain ⟨k0, k1, k2, k3, k4⟩ := hW; go_simp⟩⟩ ?_
    refine wpAnyC_take (i := 14) (v := (.pointer (some ⟨g, 0, none⟩) : Value)) hC rfl rfl (by kernel_rfl) (by kernel_rfl) (by kernel_rfl) (fun _ _ _ h => nomatch h.1) ⟨by rfl, fun W hW => ⟨rfl, by obtain ⟨k0, k1, k2, k3, k4⟩ := hW; go_simp⟩⟩ ?_
    refine wpAnyC_take (i := 15) (v := (.pointer (some ⟨g, 1, none⟩) : Value)) hC rfl rfl (by kernel_rfl) (by kernel_rfl) (by kernel_rfl) (fun _ _ _ h => nomatch h.1) ⟨by rfl, fun W hW => ⟨rfl, by obtain ⟨k0, k1, k2, k3, k4⟩ := hW; go_simp⟩⟩ ?_
    refine wpAnyC_take (i := 16) (v := (.int .i64 (y) : Value)) hC rfl rfl (by kernel_rfl) (by kernel_rfl) (by kernel_rfl) (fun _ _ _ h => nomatch h.1) ⟨by rfl, fun W hW => ⟨rfl, by obtain ⟨k0, k1, k2, k3, k4⟩ := hW; go_simp⟩⟩ ?_
    refine wpAnyC_take (i := 17) (v := (.int .i64 dy : Value)) hC rfl rfl (by kernel_rfl) (by kernel_rfl) (by kernel_rfl) (fun _ _ _ h => nomatch h.1) ⟨by rfl, fun W hW => ⟨rfl, by obtain ⟨k0, k1, k2, k3, k4⟩ := hW; go_simp⟩⟩ ?_
    refine wpAnyC_take (i := 18) (v := (.agg #[.int .i64 dx, .int .i64 dy] : Value)) hC rfl rfl (by kernel_rfl) (by kernel_rfl) (by kernel_rfl) (fun _ _ _ h => nomatch h.1) ⟨by rfl, fun W hW => ⟨rfl, by obtain ⟨k0, k1, k2, k3, k4⟩ := hW; go_simp⟩⟩ ?_
    have n0 : (W3.alloc (.cells #[.int .i64 0, .int .i64 0] 99)).drew.heap[w.heap.size + 3]? = some (.cells #[.int .i64 0, .int .i64 0] 99 (0, 0)) := by
      have := blk_new W3 (.cells #[.int .i64 0, .int .i64 0] 99)
      rwa [s3] at this
    have m0 := cell_of n0 0
    have m1 := cell_of n0 1
    have y0 := frz_of n0 0
    have y1 := frz_of n0 1
    have hab : ∀ (b j : Nat), b < W3.heap.size → (W3.alloc (.cells #[.int .i64 0, .int .i64 0] 99)).drew.cell? ⟨b, j, none⟩ = W3.cell? ⟨b, j, none⟩ := fun b j hb => World.cell?_of_block (Below.heap_alloc W3 _ _ hb)
    refine wpAnyC_one (i := 19) (by kernel_rfl) rfl (by rfl) (fun K hK => ?_)
    go_simp
    refine hK _ _ ⟨(hab _ _ (by omega)).trans c0, (hab _ _ hgl).trans e0, (hab _ _ hgl).trans e1, (hab _ _ hhl).trans f0, (hab _ _ hhl).trans f1⟩ ?_
    clear hK K
    refine wpAnyC_one (i := 20) (by kernel_rfl) rfl (by rfl) (fun K hK => ?_)
    go_simp
    have hoth : ∀ (b j : Nat), b < W3.heap.size → (W3.alloc (.cells #[.int .i64 dx, .int .i64 dy] 99)).drew.cell? ⟨b, j, none⟩ = W3.cell? ⟨b, j, none⟩ := fun b j hb => World.cell?_of_block (Below.heap_alloc W3 _ _ hb)
    have n5 : (W3.alloc (.cells #[.int .i64 dx, .int .i64 dy] 99)).drew.heap[w.heap.size + 3]? = some (.cells #[.int .i64 dx, .int .i64 dy] 99 (0, 0)) := by
      have := blk_new W3 (.cells #[.int .i64 dx, .int .i64 dy] 99)
      rwa [s3] at this
    refine hK _ _ ⟨(hoth _ _ (by omega)).trans c0, (hoth _ _ hgl).trans e0, (hoth _ _ hgl).trans e1, (hoth _ _ hhl).trans f0, (hoth _ _ hhl).trans f1⟩ ?_
    clear hK K
    exact wpAnyC_done (by kernel_rfl) ⟨rfl, rfl, ((Below.refl _ W3).alloc (Nat.le_refl _) _).drew, n5⟩ _
  rintro e a' W5 ⟨rfl, rfl, hb5, b5⟩
  have r0 := (hb5.block _ (blk_lt t0)).trans t0
  have r1 := (hb5.block _ (blk_lt t1)).trans t1
  have r2 := (hb5.block _ (blk_lt t2)).trans t2
  have be5 : Below w.heap.size w W5 := hb3.trans (hb5.mono (by omega))
  have hN5 : w.heap.size + 3 < W5.heap.size := blk_lt b5
  clear e0 e1 f0 f1 c0 t0 t1 t2 hb3 hb5 hgl hhl s3
  have d0 := cell_of b5 0
  have d1 := cell_of b5 1
  have d0' : (W5.alloc (.cells #[.int .i64 0] 3)).cell? ⟨w.heap.size + 3, 0, none⟩ = some (.int .i64 dx) := (World.cell?_of_block (Below.heap_alloc W5 _ _ hN5)).trans d0
  have d1' : (W5.alloc (.cells #[.int .i64 0] 3)).cell? ⟨w.heap.size + 3, 1, none⟩ = some (.int .i64 dy) := (World.cell?_of_block (Below.heap_alloc W5 _ _ hN5)).trans d1
  clear d0 d1 hwx hwy
  gi_wp2_with (refine ⟨trivial, ?_⟩; gi_at_call 65; refine (callsIn_wide.2 (moved_any (some ⟨g, 0, none⟩) A.length cap dx dy _)).mono ?_; rintro e w1 ⟨rfl, rfl⟩)
  have ui := blk_old (blk_old (blk_new W5 (.cells #[.int .i64 0] 3)) (.cells #[.slice (some ⟨g, 0, none⟩) A.length cap] 65)) (.cells #[.int .i64 dx, .int .i64 dy] 99)
  have u1 := blk_old (blk_new (W5.alloc (.cells #[.int .i64 0] 3)) (.cells #[.slice (some ⟨g, 0, none⟩) A.length cap] 65)) (.cells #[.int .i64 dx, .int .i64 dy] 99)
  have u2 := blk_new ((W5.alloc (.cells #[.int .i64 0] 3)).alloc (.cells #[.slice (some ⟨g, 0, none⟩) A.length cap] 65)) (.cells #[.int .i64 dx, .int .i64 dy] 99)
  simp only [World.size_alloc, Nat.add_assoc, Nat.reduceAdd] at u1 u2
  have b6 : Below W5.heap.size W5 (((W5.alloc (.cells #[.int .i64 0] 3)).alloc (.cells #[.slice (some ⟨g, 0, none⟩) A.length cap] 65)).alloc (.cells #[.int .i64 dx, .int .i64 dy] 99)) := (((Below.refl _ W5).alloc (Nat.le_refl _) _).alloc (by simp) _).alloc (by simp; omega) _
  have z6 : W5.heap.size + 3 ≤ (((W5.alloc (.cells #[.int .i64 0] 3)).alloc (.cells #[.slice (some ⟨g, 0, none⟩) A.length cap] 65)).alloc (.cells #[.int .i64 dx, .int .i64 dy] 99)).heap.size := by simp
  have q0 := (b6.block _ (blk_lt r0)).trans r0
  have q1 := (b6.block _ (blk_lt r1)).trans r1
  have q2 := (b6.block _ (blk_lt r2)).trans r2
  have q3 := (b6.block _ (blk_lt b5)).trans b5
  have be6 : Below w.heap.size w (((W5.alloc (.cells #[.int .i64 0] 3)).alloc (.cells #[.slice (some ⟨g, 0, none⟩) A.length cap] 65)).alloc (.cells #[.int .i64 dx, .int .i64 dy] 99)) := be5.trans (b6.mono be5.size)
  clear r0 r1 r2 b5 b6 d0' d1'
  generalize (((W5.alloc (.cells #[.int .i64 0] 3)).alloc (.cells #[.slice (some ⟨g, 0, none⟩) A.length cap] 65)).alloc (.cells #[.int .i64 dx, .int .i64 dy] 99)) = W6 at *
  have heq := fun a b c d w => eqIn_cell2 a b c d w
  have hmix : Try.prog.follows .mixedOrders = true := by kernel_rfl
  have HLB : Hid (B.length = A.length) := hlb
  clear hlb h0 h1
  refine wpIn_rangeFunc_ownH (encs := fun c : OfC dx dy A => encC c.1) (N := A.length) (S := fun xs : List (OfC dx dy A) => xs.map (·.1) = A.map (sh dx dy)) (Sp := fun pre : List (OfC dx dy A) => pre.map (·.1) <+: A.map (sh dx dy)) (Kp := KpG g (W5.heap.size + 1)) rfl (by omega) (gf := 81) (lb := #[.pointer (some ⟨W5.heap.size + 1, 0, none⟩), .pointer (some ⟨W5.heap.size + 1 + 1, 0, none⟩)]) rfl trivial (enters_of Try.func81 (by kernel_rfl) rfl) ?seq KpG.trans ?kb (Below.refl _ _) (fun _ => rfl)
    (fun pre W => MInv w W5.heap.size dx dy (.slice (some ⟨g, 0, none⟩) A.length cap) (.slice (some ⟨h, 0, none⟩) A.length cbp) B (pre.map (·.1)) W)
    (fun c pre W => c = .ret ∧ MEnd w B (pre.map (·.1)) W) ?hI ?hIx ?h0
    (fun c a' W => ∃ Bx, W.heap[Bx]? = some (.cells #[.int .i64 c.1.1, .int .i64 c.1.2] 99 (0, 0)) ∧ W5.heap.size + 2 < Bx ∧ a' = { tmps := List.toArray ((.slice (some ⟨g, 0, none⟩) A.length cap : Value) :: (.slice (some ⟨h, 0, none⟩) A.length cbp : Value) :: undef :: (.pointer (some ⟨w.heap.size, 0, none⟩) : Value) :: (.pointer (some ⟨w.heap.size + 1, 0, none⟩) : Value) :: (.pointer (some ⟨w.heap.size + 1 + 1, 0, none⟩) : Value) :: (.pointer (some ⟨w.heap.size + 3, 0, none⟩) : Value) :: (.pointer (some ⟨W5.heap.size, 0, none⟩) : Value) :: (.pointer (some ⟨Bx, 0, none⟩) : Value) :: (.slice (some ⟨g, 0, none⟩) A.length cap : Value) :: (.int .i64 (A.length : Int) : Value) :: (.slice (some ⟨h, 0, none⟩) A.length cbp : Value) :: (.int .i64 (A.length : Int) : Value) :: (.bool false : Value) :: undef :: (.slice (some ⟨g, 0, none⟩) A.length cap : Value) :: (.int .i64 (A.length : Int) : Value) :: (.bool false : Value) :: undef :: (.slice (some ⟨h, 0, none⟩) A.length cbp : Value) :: (.pointer (some ⟨h, 0, none⟩) : Value) :: (.pointer (some ⟨h, 0, none⟩) : Value) :: (.int .i64 u : Value) :: (.slice (some ⟨g, 0, none⟩) A.length cap : Value) :: (.pointer (some ⟨g, 0, none⟩) : Value) :: (.pointer (some ⟨g, 0, none⟩) : Value) :: (.int .i64 x : Value) :: (.int .i64 dx : Value) :: (.slice (some ⟨h, 0, none⟩) A.length cbp : Value) :: (.pointer (some ⟨h, 0, none⟩) : Value) :: (.pointer (some ⟨h, 1, none⟩) : Value) :: (.int .i64 v : Value) :: (.slice (some ⟨g, 0, none⟩) A.length cap : Value) :: (.pointer (some ⟨g, 0, none⟩) : Value) :: (.pointer (some ⟨g, 1, none⟩) : Value) :: (.int .i64 y : Value) :: (.int .i64 dy : Value) :: (.agg #[.int .i64 dx, .int .i64 dy] : Value) :: (.slice (some ⟨g, 0, none⟩) A.length cap : Value) :: (.agg #[.int .i64 dx, .int .i64 dy] : Value) :: (.func (.func 81) #[] #[.pointer (some ⟨W5.heap.size + 1, 0, none⟩), .pointer (some ⟨W5.heap.size + 1 + 1, 0, none⟩)] : Value) :: (.agg #[.int .i64 c.1.1, .int .i64 c.1.2] : Value) :: undef :: undef :: undef :: undef :: undef :: undef :: undef :: undef :: undef :: undef :: []), defers := [] }) ?hAx ?assign ?body ?done ?stop
  case seq => exact movedG_stops 4 (by omega) (some ⟨g, 0, none⟩) cap (W5.heap.size + 1) g dx dy A W6 (.inr ⟨rfl, hA.below be6 hg, Nat.lt_of_lt_of_le hg be6.size⟩) hl hF u1 u2
  case kb =>
    intro W l o o' hlt hl2 ho hw
    have hgW := be5.size
    exact ⟨World.putObj_heap_other (by omega), World.putObj_heap_other (by omega), World.putObj_heap_other (by omega), by simp⟩
  case hI =>
    rintro pre W W' row ⟨h1, h2, h3, h4, h5, h6, h7, h8, h9⟩ hgr hr
    exact ⟨keepc h1 hgr hr, keepc h2 hgr hr, keepc h3 hgr hr, keepc h4 hgr hr, keepc h5 hgr hr, keepc h6 hgr hr, keepc h7 hgr hr, keepw h8 (Nat.le_refl _) be6.size hgr hr, h9⟩
  case hIx =>
    rintro c pre W W' row ⟨rfl, h1, h2, h3, h4⟩ hgr hr
    exact ⟨rfl, keepc h1 hgr hr, keepc h2 hgr hr, keepw h3 (Nat.le_refl _) be6.size hgr hr, h4⟩
  case h0 => exact ⟨q0, q1, q2, q3, ui, u1, u2, be6, rfl⟩
  case hAx =>
    rintro c a' _ W W' row ⟨Bx, hx, hne, ha⟩ hgr hr
    exact ⟨Bx, keepc hx hgr hr, hne, ha⟩
  case assign =>
    rintro l pre ⟨c, hc⟩ W K ⟨h1, h2, h3, h4, h5, h6, h7, h8, h9⟩ hK
    simp only [encC]
    gi_wp2
    have hWs : W5.heap.size + 2 < W.heap.size := blk_lt h7
    have hgW : g < W.heap.size := by have := be5.size; omega
    exact hK _ _ ((KeepsOthers.alloc _ _).from _) ⟨Below.heap_alloc W _ _ hgW, Below.heap_alloc W _ _ (blk_lt h6), Below.heap_alloc W _ _ (blk_lt h7), by simp⟩ ⟨blk_old h1 _, blk_old h2 _, blk_old h3 _, blk_old h4 _, blk_old h5 _, blk_old h6 _, blk_old h7 _, h8.alloc h8.size _, h9⟩ ⟨W.heap.size, blk_new W _, hWs, rfl⟩
  case body =>
    rintro l pre ⟨⟨px, py⟩, hp⟩ a' W hl0 hlr ⟨h1, h2, h3, h4, h5, h6, h7, h8, h9⟩ ⟨Bx, ex, hne, rfl⟩ hpl
    simp only at ex
    have x0 := cell_of ex 0
    have x1 := cell_of ex 1
    have y0 := cell_of h1 0
    have i0 := cell_of h5 0
    have iz := frz_of h5 0
    obtain ⟨⟨bx, by'⟩, hbk⟩ : ∃ s, B[pre.length]? = some s := by
      have hlt : pre.length < B.length := by rw [HLB.out]; exact hpl
      exact ⟨B[pre.length], by simp [hlt]⟩
    obtain ⟨k0, k1⟩ := (hB.below h8 hh).get _ _ hbk
    simp only at k0 k1
    have hpm : (pre.map (·.1)).length = pre.length := List.length_map ..
    have hpi2 : (pre.length : Int) < (A.length : Int) := by omega
    have HP : Hid ((pre ++ [(⟨(px, py), hp⟩ : OfC dx dy A)]).map (·.1) = pre.map (·.1) ++ [(px, py)]) := by show _ = _; simp
    have HB : Hid (B[pre.length]? = some (bx, by')) := hbk
    have H9 : Hid (pre.map (·.1) = B.take (pre.map (·.1)).length) := h9
    have HPM : Hid ((pre.map (·.1)).length = pre.length) := hpm
    rw [hpm] at h5 i0
    clear hbk h9 hpm
    have n1 : w.heap.size ≠ W5.heap.size := by omega
    have hBx1 : Bx ≠ W5.heap.size := by omega
    by_cases hce : px = bx ∧ py = by'
    · obtain ⟨rfl, rfl⟩ := hce
      gi_wp2
      refine wpIn_mono (Q := fun e a' w' => e = .normal ∧ a' = { tmps := List.toArray ((.slice (some ⟨g, 0, none⟩) A.length cap : Value) :: (.slice (some ⟨h, 0, none⟩) A.length cbp : Value) :: undef :: (.pointer (some ⟨w.heap.size, 0, none⟩) : Value) :: (.pointer (some ⟨w.heap.size + 1, 0, none⟩) : Value) :: (.pointer (some ⟨w.heap.size + 1 + 1, 0, none⟩) : Value) :: (.pointer (some ⟨w.heap.size + 3, 0, none⟩) : Value) :: (.pointer (some ⟨W5.heap.size, 0, none⟩) : Value) :: (.pointer (some ⟨Bx, 0, none⟩) : Value) :: (.slice (some ⟨g, 0, none⟩) A.length cap : Value) :: (.int .i64 (A.length : Int) : Value) :: (.slice (some ⟨h, 0, none⟩) A.length cbp : Value) :: (.int .i64 (A.length : Int) : Value) :: (.bool false : Value) :: undef :: (.slice (some ⟨g, 0, none⟩) A.length cap : Value) :: (.int .i64 (A.length : Int) : Value) :: (.bool false : Value) :: undef :: (.slice (some ⟨h, 0, none⟩) A.length cbp : Value) :: (.pointer (some ⟨h, 0, none⟩) : Value) :: (.pointer (some ⟨h, 0, none⟩) : Value) :: (.int .i64 u : Value) :: (.slice (some ⟨g, 0, none⟩) A.length cap : Value) :: (.pointer (some ⟨g, 0, none⟩) : Value) :: (.pointer (some ⟨g, 0, none⟩) : Value) :: (.int .i64 x : Value) :: (.int .i64 dx : Value) :: (.slice (some ⟨h, 0, none⟩) A.length cbp : Value) :: (.pointer (some ⟨h, 0, none⟩) : Value) :: (.pointer (some ⟨h, 1, none⟩) : Value) :: (.int .i64 v : Value) :: (.slice (some ⟨g, 0, none⟩) A.length cap : Value) :: (.pointer (some ⟨g, 0, none⟩) : Value) :: (.pointer (some ⟨g, 1, none⟩) : Value) :: (.int .i64 y : Value) :: (.int .i64 dy : Value) :: (.agg #[.int .i64 dx, .int .i64 dy] : Value) :: (.slice (some ⟨g, 0, none⟩) A.length cap : Value) :: (.agg #[.int .i64 dx, .int .i64 dy] : Value) :: (.func (.func 81) #[] #[.pointer (some ⟨W5.heap.size + 1, 0, none⟩), .pointer (some ⟨W5.heap.size + 1 + 1, 0, none⟩)] : Value) :: (.agg #[.int .i64 px, .int .i64 py] : Value) :: (.agg #[.int .i64 px, .int .i64 py] : Value) :: (.slice (some ⟨h, 0, none⟩) A.length cbp : Value) :: (.int .i64 (pre.length : Int) : Value) :: (.pointer (some ⟨h, pre.length * 2, none⟩) : Value) :: (.agg #[.int .i64 px, .int .i64 py] : Value) :: (.bool false : Value) :: undef :: undef :: undef :: undef :: []), defers := [] } ∧ w' = W.drew) ?_ ?_
      · gi_region_with_o (fail)
        all_goals exact ⟨rfl, rfl, rfl⟩
      rintro e a' X ⟨rfl, rfl, rfl⟩
      have i0' : W.drew.cell? ⟨W5.heap.size, 0, none⟩ = some (.int .i64 (pre.length : Int)) := i0
      have iz' : W.drew.frozen? ⟨W5.heap.size, 0, none⟩ = false := iz
      clear x0 x1 y0 i0 iz k0 k1
      gi_wp2
      have hgN : g ≠ W5.heap.size := by have := be5.size; omega
      have g1 : ∀ k, k ≠ W5.heap.size → (W.drew.setCell ⟨W5.heap.size, 0, none⟩ (.int .i64 ((pre.length : Int) + 1))).heap[k]? = W.heap[k]? := fun k hk => Below.heap_setCell W.drew ⟨W5.heap.size, 0, none⟩ _ k hk
      have v0 : W.drew.heap[W5.heap.size]? = some (.cells #[.int .i64 (pre.length : Int)] 3 (0, 0)) := h5
      have hbw : Below w.heap.size w (W.drew.setCell ⟨W5.heap.size, 0, none⟩ (.int .i64 ((pre.length : Int) + 1))) := h8.drew.setCell (p := ⟨W5.heap.size, 0, none⟩) be5.size _
      refine ⟨((KeepsOthers.drew W).trans (KeepsOthers.setCell _ _ _)).from _, ⟨g1 _ hgN, g1 _ (by omega), g1 _ (by omega), by simp [World.setCell]⟩, ?_⟩
      refine ⟨(g1 _ (by omega)).trans h1, (g1 _ (by omega)).trans h2, (g1 _ (by omega)).trans h3, (g1 _ (by omega)).trans h4, ?_, (g1 _ (by omega)).trans h6, (g1 _ (by omega)).trans h7, hbw, ?_⟩
      · have := blk_put (j := 0) v0 (.int .i64 ((pre.length : Int) + 1))
        rw [HP.out, List.length_append, HPM.out]
        exact this
      · rw [HP.out, List.length_append, HPM.out]
        have h9' := H9.out
        rw [HPM.out] at h9'
        show _ = B.take (pre.length + 1)
        rw [List.take_add_one, HB.out, ← h9']
        rfl
    · have hne' : (px == bx && py == by') = false := by simpa using hce
      gi_wp2
      refine wpIn_mono (Q := fun e a' w' => e = .normal ∧ a' = { tmps := List.toArray ((.slice (some ⟨g, 0, none⟩) A.length cap : Value) :: (.slice (some ⟨h, 0, none⟩) A.length cbp : Value) :: undef :: (.pointer (some ⟨w.heap.size, 0, none⟩) : Value) :: (.pointer (some ⟨w.heap.size + 1, 0, none⟩) : Value) :: (.pointer (some ⟨w.heap.size + 1 + 1, 0, none⟩) : Value) :: (.pointer (some ⟨w.heap.size + 3, 0, none⟩) : Value) :: (.pointer (some ⟨W5.heap.size, 0, none⟩) : Value) :: (.pointer (some ⟨Bx, 0, none⟩) : Value) :: (.slice (some ⟨g, 0, none⟩) A.length cap : Value) :: (.int .i64 (A.length : Int) : Value) :: (.slice (some ⟨h, 0, none⟩) A.length cbp : Value) :: (.int .i64 (A.length : Int) : Value) :: (.bool false : Value) :: undef :: (.slice (some ⟨g, 0, none⟩) A.length cap : Value) :: (.int .i64 (A.length : Int) : Value) :: (.bool false : Value) :: undef :: (.slice (some ⟨h, 0, none⟩) A.length cbp : Value) :: (.pointer (some ⟨h, 0, none⟩) : Value) :: (.pointer (some ⟨h, 0, none⟩) : Value) :: (.int .i64 u : Value) :: (.slice (some ⟨g, 0, none⟩) A.length cap : Value) :: (.pointer (some ⟨g, 0, none⟩) : Value) :: (.pointer (some ⟨g, 0, none⟩) : Value) :: (.int .i64 x : Value) :: (.int .i64 dx : Value) :: (.slice (some ⟨h, 0, none⟩) A.length cbp : Value) :: (.pointer (some ⟨h, 0, none⟩) : Value) :: (.pointer (some ⟨h, 1, none⟩) : Value) :: (.int .i64 v : Value) :: (.slice (some ⟨g, 0, none⟩) A.length cap : Value) :: (.pointer (some ⟨g, 0, none⟩) : Value) :: (.pointer (some ⟨g, 1, none⟩) : Value) :: (.int .i64 y : Value) :: (.int .i64 dy : Value) :: (.agg #[.int .i64 dx, .int .i64 dy] : Value) :: (.slice (some ⟨g, 0, none⟩) A.length cap : Value) :: (.agg #[.int .i64 dx, .int .i64 dy] : Value) :: (.func (.func 81) #[] #[.pointer (some ⟨W5.heap.size + 1, 0, none⟩), .pointer (some ⟨W5.heap.size + 1 + 1, 0, none⟩)] : Value) :: (.agg #[.int .i64 px, .int .i64 py] : Value) :: (.agg #[.int .i64 px, .int .i64 py] : Value) :: (.slice (some ⟨h, 0, none⟩) A.length cbp : Value) :: (.int .i64 (pre.length : Int) : Value) :: (.pointer (some ⟨h, pre.length * 2, none⟩) : Value) :: (.agg #[.int .i64 bx, .int .i64 by'] : Value) :: (.bool true : Value) :: undef :: undef :: undef :: undef :: []), defers := [] } ∧ w' = W.drew) ?_ ?_
      · gi_region_with_o (fail)
        all_goals exact ⟨rfl, rfl, rfl⟩
      rintro e a' X ⟨rfl, rfl, rfl⟩
      have v1 : W.drew.heap[w.heap.size + 1]? = some (.cells #[.int .i64 0, .int .i64 0] 99 (0, 0)) := h2
      have v2 : W.drew.heap[w.heap.size + 1 + 1]? = some (.cells #[.bool false] 4 (0, 0)) := h3
      have p0 := cell_of v1 0; have p1 := cell_of v1 1; have p2 := frz_of v1 0; have p3 := frz_of v1 1
      have p4 := cell_of v2 0; have p5 := frz_of v2 0
      have h3' : W.heap[w.heap.size + 1 + 1]? = some (.cells #[.bool false] 4 (0, 0)) := h3
      have o0 := cell_of h2 0; have o1 := cell_of h2 1; have o2 := frz_of h2 0; have o3 := frz_of h2 1
      have o4 := cell_of h3' 0; have o5 := frz_of h3' 0
      clear x0 x1 y0 i0 iz k0 k1
      gi_wp2
      refine ⟨((((KeepsOthers.drew W).trans (KeepsOthers.setCell _ _ _)).trans (KeepsOthers.setCell _ _ _)).trans (KeepsOthers.setCell _ _ _)).from _, rfl, ?_⟩
      have v3 := blk_put (j := 1) (blk_put (j := 0) v1 (.int .i64 0)) (.int .i64 0)
      have v4 := blk_set (a := ⟨w.heap.size + 1 + 1, 0, none⟩) v3 (by show w.heap.size + 1 ≠ w.heap.size + 1 + 1; omega) (.bool false)
      have v5 := blk_set (a := ⟨w.heap.size + 1, 1, none⟩) (blk_set (a := ⟨w.heap.size + 1, 0, none⟩) v2 (by show w.heap.size + 1 + 1 ≠ w.heap.size + 1; omega) (.int .i64 0)) (by show w.heap.size + 1 + 1 ≠ w.heap.size + 1; omega) (.int .i64 0)
      have v6 := blk_put (j := 0) v5 (.bool false)
      exact ⟨v4, v6, ((h8.drew.setCell (p := ⟨w.heap.size + 1, 0, none⟩) (by simp) _).setCell (p := ⟨w.heap.size + 1, 1, none⟩) (by simp) _).setCell (p := ⟨w.heap.size + 1 + 1, 0, none⟩) (by show w.heap.size ≤ w.heap.size + 1 + 1; omega) _, _, _, HP.out, by
        rw [HPM.out, HB.out]
        intro e
        have := Option.some.inj e
        simp only [Prod.mk.injEq] at this
        exact hce ⟨this.1.symm, this.2.symm⟩⟩
  case done =>
    rintro D xs W hD hS ⟨h1, h2, h3, h4, h5, h6, h7, h8, h9⟩ hK
    have HV : Hid (moveV dx dy A B = .tuple #[.agg #[.int .i64 dx, .int .i64 dy], .bool true]) := by
      show _ = _
      unfold moveV
      rw [if_pos]
      rw [hS] at h9
      rw [h9, List.length_map, ← HLB.out, List.take_length]
    have h3' : W.heap[w.heap.size + 1 + 1]? = some (.cells #[.bool false] 4 (0, 0)) := h3
    have o0 := cell_of h2 0; have o1 := cell_of h2 1; have o2 := frz_of h2 0; have o3 := frz_of h2 1
    have o4 := cell_of h3' 0; have o5 := frz_of h3' 0
    have o6 := cell_of h4 0; have o7 := cell_of h4 1
    clear h9 hS
    gi_wp2
    have v3 := blk_put (j := 1) (blk_put (j := 0) h2 (.int .i64 dx)) (.int .i64 dy)
    have v4 := blk_set (a := ⟨w.heap.size + 1 + 1, 0, none⟩) v3 (by show w.heap.size + 1 ≠ w.heap.size + 1 + 1; omega) (.bool true)
    have v5 := blk_set (a := ⟨w.heap.size + 1, 1, none⟩) (blk_set (a := ⟨w.heap.size + 1, 0, none⟩) h3' (by show w.heap.size + 1 + 1 ≠ w.heap.size + 1; omega) (.int .i64 dx)) (by show w.heap.size + 1 + 1 ≠ w.heap.size + 1; omega) (.int .i64 dy)
    have v6 := blk_put (j := 0) v5 (.bool true)
    have hKD := blk_set (a := ⟨w.heap.size + 1 + 1, 0, none⟩) (blk_set (a := ⟨w.heap.size + 1, 1, none⟩) (blk_set (a := ⟨w.heap.size + 1, 0, none⟩) hK (by show D ≠ w.heap.size + 1; omega) (.int .i64 dx)) (by show D ≠ w.heap.size + 1; omega) (.int .i64 dy)) (by show D ≠ w.heap.size + 1 + 1; omega) (.bool true)
    have hBe := ((h8.setCell (p := ⟨w.heap.size + 1, 0, none⟩) (by simp) (.int .i64 dx)).setCell (p := ⟨w.heap.size + 1, 1, none⟩) (by simp) (.int .i64 dy)).setCell (p := ⟨w.heap.size + 1 + 1, 0, none⟩) (by show w.heap.size ≤ w.heap.size + 1 + 1; omega) (.bool true)
    obtain ⟨W2, hW2⟩ : ∃ W2, (((W.setCell ⟨w.heap.size + 1, 0, none⟩ (.int .i64 dx)).setCell ⟨w.heap.size + 1, 1, none⟩ (.int .i64 dy)).setCell ⟨w.heap.size + 1 + 1, 0, none⟩ (.bool true)) = W2 := ⟨_, rfl⟩
    rw [hW2] at v4 v6 hKD hBe ⊢
    refine ⟨by simp, .inl ⟨_, _, rfl, run_takeDeferred hKD, ?_⟩⟩
    have w4 : (W2.putObj D (.deferred none)).heap[w.heap.size + 1]? = some (.cells #[.int .i64 dx, .int .i64 dy] 99 (0, 0)) := (World.putObj_heap_other (by omega)).trans v4
    have w6 : (W2.putObj D (.deferred none)).heap[w.heap.size + 1 + 1]? = some (.cells #[.bool true] 4 (0, 0)) := (World.putObj_heap_other (by omega)).trans v6
    have g0 := cell_of w4 0
    have g1 := cell_of w4 1
    have g2 := cell_of w6 0
    refine ⟨.tuple #[.agg #[.int .i64 dx, .int .i64 dy], .bool true], by simp [results, Try.results51, go_sem, g0, g1, g2], by rw [HV.out], hBe.trans ?_⟩
    exact ⟨rfl, rfl, rfl, by simp, fun k hk => World.putObj_heap_other (by omega)⟩
  case stop =>
    rintro D c pre W hD hs ⟨rfl, h1, h2, h3, q, c, hq, hqc⟩ hK
    have HV : Hid (moveV dx dy A B = .tuple #[.agg #[.int .i64 0, .int .i64 0], .bool false]) := by
      show _ = _
      unfold moveV
      rw [if_neg]
      intro e
      rw [hq, e] at hs
      obtain ⟨r, hr⟩ := hs
      apply hqc
      rw [← hr, List.append_assoc, List.getElem?_append_right (Nat.le_refl _)]
      simp
    clear hq hqc hs
    gi_wp2
    refine ⟨by simp, .inl ⟨_, _, rfl, run_takeDeferred hK, ?_⟩⟩
    have w4 : (W.putObj D (.deferred none)).heap[w.heap.size + 1]? = some (.cells #[.int .i64 0, .int .i64 0] 99 (0, 0)) := (World.putObj_heap_other (by omega)).trans h1
    have w6 : (W.putObj D (.deferred none)).heap[w.heap.size + 1 + 1]? = some (.cells #[.bool false] 4 (0, 0)) := (World.putObj_heap_other (by omega)).trans h2
    have g0 := cell_of w4 0
    have g1 := cell_of w4 1
    have g2 := cell_of w6 0
    refine ⟨.tuple #[.agg #[.int .i64 0, .int .i64 0], .bool false], by simp [results, Try.results51, go_sem, g0, g1, g2], by rw [HV.out], h3.trans ?_⟩
    exact ⟨rfl, rfl, rfl, by simp, fun k hk => World.putObj_heap_other (by omega)⟩

end Go.Proofs.Ytiohpcnnpmnjhaa

namespace Go.Proofs.Ytiohpcnnpmnjhaa
open Go.RowKit
set_option linter.unusedVariables false

theorem moveTo_does : MoveDoes := fun X Y a b A B w ra rb hA hB hla hlb => by
  obtain ⟨ga, ca, hva, hca⟩ : ∃ ga ca, a = .slice ga A.length ca ∧ (A = [] ∨ ∃ g, ga = some ⟨g, 0, none⟩ ∧ CellsAt w g A ∧ g < w.heap.size) := by
    rcases ra with ⟨rfl, rfl⟩ | ⟨g, cap, rfl, h1, h2⟩
    · exact ⟨none, 0, rfl, .inl rfl⟩
    · exact ⟨_, cap, rfl, .inr ⟨g, rfl, h1, h2⟩⟩
  obtain ⟨gb, cb, hvb, hcb⟩ : ∃ gb cb, b = .slice gb B.length cb ∧ (B = [] ∨ ∃ g, gb = some ⟨g, 0, none⟩ ∧ CellsAt w g B ∧ g < w.heap.size) := by
    rcases rb with ⟨rfl, rfl⟩ | ⟨g, cap, rfl, h1, h2⟩
    · exact ⟨none, 0, rfl, .inl rfl⟩
    · exact ⟨_, cap, rfl, .inr ⟨g, rfl, h1, h2⟩⟩
  subst hva hvb
  by_cases hlen : A.length = B.length
  · cases A with
    | nil =>
      cases B with
      | nil =>
        refine (moveTo_nil ga gb ca cb w).mono fun e w' ⟨he, hb⟩ => ⟨?_, hb⟩
        rw [he]; rfl
      | cons q B => simp at hlen
    | cons p A =>
      cases B with
      | nil => simp at hlen
      | cons q B =>
        obtain ⟨x, y⟩ := p
        obtain ⟨u, v⟩ := q
        obtain ⟨g, rfl, h1, h2⟩ := hca.resolve_left (by simp)
        obtain ⟨h, rfl, h3, h4⟩ := hcb.resolve_left (by simp)
        have b1 := hA.bx (x, y) (by simp)
        have b2 := hB.bx (u, v) (by simp)
        simp only at b1 b2
        have x1 := hA.x1; have x2 := hA.x2; have y1 := hA.y1; have y2 := hA.y2
        have hF : Fits (u - x) (v - y) ((x, y) :: A) := fun c hc => by
          have b3 := hA.bx c hc
          omega
        have hm := callsIn_wide.1 (moveTo_in g h ca cb x y u v (u - x) (v - y) (show u - x = u - x from rfl) (show v - y = v - y from rfl) ((x, y) :: A) ((u, v) :: B) w h1 h2 h3 h4 (by omega) hlen.symm rfl rfl hF ⟨by omega, by omega⟩ ⟨by omega, by omega⟩)
        rw [← hlen]
        refine hm.mono fun e w' ⟨he, hb⟩ => ⟨?_, hb⟩
        rw [he]
        have hw := way_first (a := (x, y)) (b := (u, v)) (A := A) (B := B)
        simp only at hw
        unfold moveV moveD
        by_cases hq : ((x, y) :: A).map (sh (u - x) (v - y)) = (u, v) :: B
        · have hwt : wayB ((x, y) :: A) ((u, v) :: B) = true := by rw [hw]; exact decide_eq_true hq
          rw [if_pos hq, hwt, if_pos rfl, way_first_d hwt]
        · have hwf : wayB ((x, y) :: A) ((u, v) :: B) = false := by rw [hw]; exact decide_eq_false hq
          rw [if_neg hq, hwf, if_neg (by simp)]
  · refine (moveTo_len ga gb A.length B.length ca cb w hlen).mono fun e w' ⟨he, hb⟩ => ⟨?_, hb⟩
    rw [he]
    unfold moveD
    rw [way_length hlen, if_neg (by simp)]

end Go.Proofs.Ytiohpcnnpmnjhaa

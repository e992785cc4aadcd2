import Derived.Test.YtiohpcnnpmnjhaaGreatDoorStoM
import Derived.OwnWalkIn
namespace Go.Proofs.YtiohpcnnpmnjhaaGreatDoor
set_option linter.unusedVariables false

/-- No operation defers a call. -/
def noDefer (ops : Array Oper) : Bool := ops.all fun o => match o.op with | .defer _ => false | _ => true
theorem noDefer_spec {ops : Array Oper} (h : noDefer ops = true) (j : Nat) (o : Oper) (ho : ops[j]? = some o) (c : Call) : o.op ≠ .defer c := fun e => by
  obtain ⟨hj, ho'⟩ := Array.getElem?_eq_some_iff.1 ho
  have := Array.all_eq_true.1 h j hj
  rw [ho', e] at this
  cases this

section
variable {F : Fence} {n : Nat} {P : Program} {ops : Array Oper} {md : Region.Mode} {C : World → Prop} {Q : Exit → Act → World → Prop}

/-- An operation that looks not at the other's temporary does as it did, and lands beside it. -/
theorem wpOpIn_besideR {j : Nat} {oi oj : Oper} {v : Value} (hnd : ∀ (j : Nat) (o : Oper), ops[j]? = some o → ∀ c, o.op ≠ .defer c) (hj : ops[j]? = some oj) (hap : oi.apart ops oj = true) (hsj : ∀ cs b, oj.op ≠ .select cs b)
    (hQ : ∀ c a w, Q (.panic c) (a.put oi.dst v) w → Q (.panic c) a w) {K : Act → World → Prop} {a : Act} {w : World} (h : wpOpIn F n P ops Q j K (a.put oi.dst v) w) :
    wpOpIn F n P ops Q j (fun a' w' => (∃ u ds, a' = Act.put { a with defers := ds } oj.dst u) ∧ K (a'.put oi.dst v) w') a w := by
  obtain ⟨h1, h2, _⟩ := Oper.apart_spec hap
  have hdf : ∀ c, oj.op ≠ .defer c := hnd j oj hj
  have com : ∀ (b : Act) (u : Value), (b.put oj.dst u).put oi.dst v = (b.put oi.dst v).put oj.dst u := fun b u => (Act.put_comm b v u h2).symm
  unfold wpOpIn at *
  simp only [hj] at *
  rw [wanted_put oj a oi.dst v h1, about_put oj w a oi.dst v h1] at h
  by_cases hw : Region.wanted oj (yielded ops a.tmps) = true
  · rw [if_pos hw] at h ⊢
    unfold Oper.wpIn at *
    rw [about_put oj w a oi.dst v h1, Oper.semAt_plain F _ _ hdf, execOp_put oj hsj a oi.dst v h1] at h
    rw [Oper.semAt_plain F _ _ hdf]
    refine ⟨h.1, ?_⟩
    obtain ⟨-, h⟩ := h
    have land : ∀ u (w' : World), K ((a.put oi.dst v).put oj.dst u) w' → (∃ u' ds, a.put oj.dst u = Act.put { a with defers := ds } oj.dst u') ∧ K ((a.put oj.dst u).put oi.dst v) w' := fun u w' hk => ⟨⟨u, a.defers, rfl⟩, by rw [com]; exact hk⟩
    generalize (execOp a.eval oj).run P w = r at h ⊢
    cases r with
    | ok x w' =>
      cases x <;> simp only [Oper.uponIn] at h ⊢
      case value u => exact land u w' h
      case skip => exact land _ w' h
      case defer d => exact ⟨⟨undef, d :: a.defers, rfl⟩, by rw [com, ← Act.put_defers]; exact h⟩
      case enter f args => exact ⟨h.1, h.2.mono fun e w'' he => by cases e <;> first | exact land _ _ he | exact hQ _ _ _ he | exact he⟩
      case row row args => exact ⟨h.1, h.2.mono fun u w'' he => land u w'' he⟩
      case round l f tmps assign body => exact ⟨h.1, h.2.mono fun e w'' he => by cases e <;> first | exact land _ _ he | exact hQ _ _ _ he | exact he⟩
    | halt x w' => cases x <;> simp only [Oper.uponIn] at h ⊢ <;> first | exact hQ _ _ _ h | exact h
  · rw [if_neg hw] at h ⊢
    exact ⟨h.1, ⟨undef, a.defers, rfl⟩, by rw [com]; exact h.2⟩

/-- Operations come behind those that they wait for. -/
def rising (ops : Array Oper) : Bool := (List.range ops.size).all fun j => match ops[j]? with | some o => o.after.all fun e => decide (e.on < j) | none => true
theorem rising_spec {ops : Array Oper} (h : rising ops = true) (j : Nat) (o : Oper) (ho : ops[j]? = some o) : ∀ e ∈ o.after, e.on < j := fun e he => by
  have hj : j < ops.size := (Array.getElem?_eq_some_iff.1 ho).1
  have := List.all_eq_true.1 h j (List.mem_range.2 hj)
  rw [ho] at this
  simp only [Array.all_eq_true_iff_forall_mem] at this
  exact of_decide_eq_true (this e he)
/-- As long as one is left, one may come up. -/
theorem ready_some (hr : rising ops = true) {listed : Array Bool} (hs : listed.size = ops.size) : ∀ z, z < ops.size → listed.getD z true = false → Region.ready md ops listed ≠ [] := by
  intro z
  induction z using Nat.strongRecOn with
  | _ z ih =>
    intro hz hl h0
    have hoz : ops[z]? = some ops[z] := by simp [hz]
    by_cases hall : ∀ e ∈ (ops[z]).after, Region.binds md e = true → listed.getD e.on false = true
    · have : z ∈ Region.ready md ops listed := mem_ready.2 ⟨hl, _, hoz, hall⟩
      rw [h0] at this; cases this
    · simp only [Classical.not_forall] at hall
      obtain ⟨e, he, hb, hne⟩ := hall
      have hlt := rising_spec hr z _ hoz e he
      refine ih e.on hlt (by omega) ?_ h0
      have hel : e.on < listed.size := by omega
      simp only [Array.getD_eq_getD_getElem?, Array.getElem?_eq_getElem hel, Option.getD_some] at hne ⊢
      simpa using hne

/-- Whatever order is picked: and every world on the way is one of C, but for the last one. -/
def wpAnyD (F : Fence) (n : Nat) (P : Program) (md : Region.Mode) (ops : Array Oper) (C : World → Prop) (Q : Exit → Act → World → Prop) : Nat → Array Bool → Act → World → Prop
  | 0, listed, a, w => Region.ready md ops listed = [] ∧ Q .normal a w
  | fuel + 1, listed, a, w => (Region.ready md ops listed = [] → Q .normal a w) ∧ ∀ i ∈ Region.ready md ops listed, wpOpIn F n P ops Q i (fun a' w' => (C w' ∨ Region.ready md ops (listed.setIfInBounds i true) = []) ∧ wpAnyD F n P md ops C Q fuel (listed.setIfInBounds i true) a' w') a w
theorem wpAnyD.any : ∀ {fuel : Nat} {listed : Array Bool} {a : Act} {w : World}, wpAnyD F n P md ops C Q fuel listed a w → wpAnyIn F n P md ops Q fuel listed a w
  | 0, _, _, _, h => h
  | _ + 1, _, _, _, h => ⟨h.1, fun i hi => wpOpIn_mono (fun _ _ hk => hk.2.any) (h.2 i hi)⟩

/-- An operation that may come up now, and yields the same in every world of C, may be taken first: where one is left that waits for it. -/
theorem wpAnyD_first {i z : Nat} {oi oz : Oper} {v : Value} (hnd : ∀ (j : Nat) (o : Oper), ops[j]? = some o → ∀ c, o.op ≠ .defer c) (hi : ops[i]? = some oi) (hsel : ∀ (j : Nat) (o : Oper) cs b, ops[j]? = some o → o.op ≠ .select cs b)
    (hris : rising ops = true) (hz : ops[z]? = some oz) (hzi : ∃ e ∈ oz.after, Region.binds md e = true ∧ e.on = i)
    (hQ : ∀ c a w, Q (.panic c) (a.put oi.dst v) w → Q (.panic c) a w) : ∀ (fuel : Nat) (listed : Array Bool) (a : Act) (w : World), C w → listed.size = ops.size → listed.getD z true = false →
      (∀ j oj, ops[j]? = some oj → j ≠ i → listed.getD j true = false → (∀ e ∈ oj.after, Region.binds md e = true → e.on ≠ i) → oi.apart ops oj = true) →
      i ∈ Region.ready md ops listed → YieldsC P ops C oi v a → wpAnyD F n P md ops C Q fuel (listed.setIfInBounds i true) (a.put oi.dst v) w → wpAnyD F n P md ops C Q (fuel + 1) listed a w := by
  have hzlt : z < ops.size := (Array.getElem?_eq_some_iff.1 hz).1
  have hiz : i ≠ z := by
    obtain ⟨e, he, _, rfl⟩ := hzi
    have := rising_spec hris z oz hz e he
    omega
  have mine : ∀ (fuel : Nat) (listed : Array Bool) (a : Act) (w : World), C w → YieldsC P ops C oi v a → wpAnyD F n P md ops C Q fuel (listed.setIfInBounds i true) (a.put oi.dst v) w →
      wpOpIn F n P ops Q i (fun a' w' => (C w' ∨ Region.ready md ops (listed.setIfInBounds i true) = []) ∧ wpAnyD F n P md ops C Q fuel (listed.setIfInBounds i true) a' w') a w := fun fuel listed a w hC hy H => by
    obtain ⟨hab, hrun⟩ := hy.2 w hC
    unfold wpOpIn
    simp only [hi]
    rw [if_pos hy.1]
    unfold Oper.wpIn
    rw [Oper.semAt_plain F _ _ (hnd i oi hi), hrun, hab]
    exact ⟨(fun f hf => by cases hf), .inl hC, H⟩
  intro fuel
  induction fuel with
  | zero =>
    intro listed a w hC hsz hzu _ hr hy H
    refine ⟨(fun h => by rw [h] at hr; cases hr), fun j hj => ?_⟩
    by_cases hji : j = i
    · subst hji; exact mine 0 listed a w hC hy H
    · have := ready_mono hj hji
      rw [H.1] at this; cases this
  | succ fuel ih =>
    intro listed a w hC hsz hzu hfree hr hy H
    refine ⟨(fun h => by rw [h] at hr; cases hr), fun j hj => ?_⟩
    by_cases hji : j = i
    · subst hji; exact mine _ listed a w hC hy H
    · obtain ⟨hjun, oj, hoj, hall⟩ := mem_ready.1 hj
      have h0 := (mem_ready.1 hr).1
      have hnot : ∀ e ∈ oj.after, Region.binds md e = true → e.on ≠ i := fun e he hb heq => by
        have h1 := hall e he hb
        rw [heq] at h1
        by_cases h' : i < listed.size
        · simp [h'] at h0 h1; rw [h0] at h1; cases h1
        · simp [Array.getElem?_eq_none (Nat.le_of_not_lt h')] at h1
      have hjz : j ≠ z := fun e => by
        subst e
        rw [hz] at hoj
        cases hoj
        obtain ⟨e, he, hb, heq⟩ := hzi
        exact hnot e he hb heq
      have hap := hfree j oj hoj hji hjun hnot
      obtain ⟨_, _, h3⟩ := Oper.apart_spec hap
      refine wpOpIn_mono ?_ (wpOpIn_besideR hnd hoj hap (fun cs b => hsel j oj cs b hoj) hQ (H.2 j (ready_mono hj hji)))
      rintro a' w' ⟨⟨u, ds, rfl⟩, hC', H'⟩
      have hne : Region.ready md ops ((listed.setIfInBounds i true).setIfInBounds j true) ≠ [] := ready_some hris (by simp [hsz]) z hzlt (by rw [getD_set_ne true hjz, getD_set_ne true hiz]; exact hzu)
      have hCw : C w' := hC'.resolve_right hne
      refine ⟨.inl hCw, ih _ _ _ hCw (by simp [hsz]) (by rw [getD_set_ne true hjz]; exact hzu) (fun k ok hk hki hun hno => hfree k ok hk hki ?_ hno) (ready_mono hr (Ne.symm hji)) ⟨?_, fun x hx => ?_⟩ (by rw [Array.setIfInBounds_comm _ _ hji]; exact H')⟩
      · by_cases hjk : j = k
        · subst hjk; exact hjun
        · rwa [getD_set_ne true hjk] at hun
      · rw [wanted_put oi _ oj.dst u h3]; exact hy.1
      · rw [about_put oi x _ oj.dst u h3, execOp_put oi (fun cs b => hsel i oi cs b hi) _ oj.dst u h3]
        exact hy.2 x hx

theorem wpAnyD_take {i z : Nat} {oi oz : Oper} {v : Value} {fuel : Nat} {listed : Array Bool} {a : Act} {w : World} (hC : C w) (hnd : noDefer ops = true) (hi : ops[i]? = some oi) (hris : rising ops = true) (hz : ops[z]? = some oz) (hzi : (oz.after.any fun e => Region.binds md e && e.on == i) = true) (hsz : (listed.size == ops.size) = true) (hzu : listed.getD z true = false) (hs : Region.noSelect ops = true) (hf : Region.free md ops listed i = true) (hr : (Region.ready md ops listed).contains i = true)
    (hQ : ∀ c a w, Q (.panic c) (a.put oi.dst v) w → Q (.panic c) a w) (hy : YieldsC P ops C oi v a) (h : wpAnyD F n P md ops C Q fuel (listed.setIfInBounds i true) (a.put oi.dst v) w) : wpAnyD F n P md ops C Q (fuel + 1) listed a w :=
  wpAnyD_first (noDefer_spec hnd) hi (Region.noSelect_spec hs) hris hz (by
    rw [Array.any_eq_true'] at hzi
    obtain ⟨e, he, hb⟩ := hzi
    simp only [Bool.and_eq_true, beq_iff_eq] at hb
    exact ⟨e, he, hb.1, hb.2⟩) hQ fuel listed a w hC (by simpa using hsz) hzu (Region.free_spec hi hf) (by simpa using hr) hy h
/-- One alone may come up. -/
theorem wpAnyD_one {i : Nat} {oi : Oper} {fuel : Nat} {listed : Array Bool} {a : Act} {w : World} (hr : Region.ready md ops listed = [i]) (hi : ops[i]? = some oi) (hw : Region.wanted oi (yielded ops a.tmps) = true)
    (h : ∀ K : Act → World → Prop, (∀ a' w', (C w' ∨ Region.ready md ops (listed.setIfInBounds i true) = []) → wpAnyD F n P md ops C Q fuel (listed.setIfInBounds i true) a' w' → K a' w') → oi.wpIn F n P a w K Q) : wpAnyD F n P md ops C Q (fuel + 1) listed a w := by
  refine ⟨(fun h0 => by rw [h0] at hr; cases hr), fun j hj => ?_⟩
  rw [hr, List.mem_singleton] at hj
  subst hj
  unfold wpOpIn
  simp only [hi]
  rw [if_pos hw]
  exact h _ fun a' w' hC hk => ⟨hC, hk⟩
theorem wpAnyD_done {listed : Array Bool} {a : Act} {w : World} (hr : Region.ready md ops listed = []) (h : Q .normal a w) : ∀ fuel, wpAnyD F n P md ops C Q fuel listed a w
  | 0 => ⟨hr, h⟩
  | _ + 1 => ⟨fun _ => h, by rw [hr]; simp⟩

/-- Appending to a row of one's own, as an operation. -/
theorem wpIn_append_own {o : Oper} {a : Act} {K : Act → World → Prop} (w : World) (s x : Operand) (t : TypeId) (hop : o.op = Op.call { callee := Callee.builtin Builtin.append, args := #[s, x], argTypes := #[t, t] })
    (base : Nat) (e : TypeId) (i : TypeInfo) (z : Value) (size bytes : Nat) (h1 : P.underlying t = some (.slice e)) (h2 : P.info? e = some i) (h3 : i.zero = some z) (h4 : i.size = size) (h5 : i.bytes = bytes) (h6 : z.cells.size = size) (h7 : 0 < size)
    (v : Value) (k : Nat) (xs : List Value) (hs : a.eval s = v) (hown : w.ownsRow base e size v k xs) (ad : Addr) (m c : Nat) (news : List Value) (hx : a.eval x = .slice (some ad) m c) (hn : news.length = m * size)
    (hc : ∀ j u, news[j]? = some u → w.cell? (ad.add j) = some u) (h1c : ∀ u ∈ news, u.oneCell' = true) (b1 : k + m ≤ maxLen) (b2 : (k + m) * bytes ≤ 140737488355328) (b3 : base ≤ w.heap.size)
    (hK : ∀ v' w', w'.ownsRow base e size v' (k + m) (xs ++ news) → w.grownBy w' v.ownBlock → K (a.put o.dst v') w') : o.wpIn F n P a w K Q := by
  obtain ⟨v', w', hrun, r1, r2, r3⟩ := run_append_own (P := P) w base t o.type e i z size bytes h1 h2 h3 h4 h5 h6 h7 v k xs hown ad m c news hn hc h1c b1 b2 b3
  unfold Oper.wpIn
  refine ⟨?_, ?_⟩
  · simp [Oper.about, hop, resolve, Target.leads, Sem.run_pure]
  · rw [Oper.semAt_plain F _ _ (by rw [hop]; intro c hc'; cases hc')]
    simp [execOp, hop, resolve, invoke, builtin, hs, hx, hrun, Result.andThen]
    exact hK v' w' r1 r2
end

end Go.Proofs.YtiohpcnnpmnjhaaGreatDoor

import Derived.Test.YtiohpcnnpmnjhaaGreatDoorLfbM
import Derived.Test.YtiohpcnnpmnjhaaGreatDoorSrtM
import Derived.Test.YtiohpcnnpmnjhaaGreatDoorArnM
import Derived.Test.YtiohpcnnpmnjhaaGreatDoorCompare
import Derived.BigRegionIn
import Derived.OrdersIn
namespace Go.Proofs.YtiohpcnnpmnjhaaGreatDoor
open Go.RowKit
set_option linter.unusedVariables false

theorem minX_sh (dx dy : Int) : ∀ (C : List Cel) (x : Int), minX (x + dx) (C.map (sh dx dy)) = minX x C + dx
  | [], x => rfl
  | c :: r, x => by
    have h := minX_sh dx dy r (min x c.1)
    unfold minX at *
    simp only [List.map_cons, List.foldl_cons, sh]
    rw [show min (x + dx) (c.1 + dx) = min x c.1 + dx by omega]
    exact h
theorem cornP_sh (dx dy : Int) (c : Cel) (r : List Cel) : cornP ((c :: r).map (sh dx dy)) = ((cornP (c :: r)).1 + dx, (cornP (c :: r)).2 + dy) := by
  obtain ⟨x, y⟩ := c
  have h := minX_sh dx dy ((x, y) :: r) x
  simp only [List.map_cons, sh] at h ⊢
  simp only [cornP]
  exact Prod.ext h rfl
theorem way_first_d {a b : Cel} {A B : List Cel} (h : wayB (a :: A) (b :: B) = true) : wayD (a :: A) (b :: B) = (b.1 - a.1, b.2 - a.2) := by
  have h1 := of_decide_eq_true h
  rw [List.map_cons] at h1
  have h2 := (List.cons.inj h1).1
  have h3 := congrArg Prod.fst h2
  have h4 := congrArg Prod.snd h2
  simp only [sh] at h3 h4
  refine Prod.ext ?_ ?_ <;> simp only <;> omega
/-- For lists in order the first cells tell the way. -/
theorem way_first {a b : Cel} {A B : List Cel} : wayB (a :: A) (b :: B) = decide ((a :: A).map (sh (b.1 - a.1) (b.2 - a.2)) = b :: B) := by
  unfold wayB
  refine decide_eq_decide.2 ⟨fun h => ?_, fun h => ?_⟩
  · have e := way_first_d (decide_eq_true h)
    rw [e] at h
    exact h
  · have hc := cornP_sh (b.1 - a.1) (b.2 - a.2) a A
    rw [h] at hc
    have hw : wayD (a :: A) (b :: B) = (b.1 - a.1, b.2 - a.2) := by
      unfold wayD
      rw [hc]
      refine Prod.ext ?_ ?_ <;> simp only <;> omega
    rw [hw]; exact h
theorem way_nil_l {b : Cel} {B : List Cel} : wayB [] (b :: B) = false := by simp [wayB]
theorem way_nil_r {a : Cel} {A : List Cel} : wayB (a :: A) [] = false := by simp [wayB]
theorem way_nil : wayB [] [] = true ∧ wayD [] [] = (0, 0) := by decide
theorem way_length {A B : List Cel} (h : ¬ A.length = B.length) : wayB A B = false := by
  unfold wayB
  refine decide_eq_false fun e => h ?_
  rw [← e, List.length_map]

end Go.Proofs.YtiohpcnnpmnjhaaGreatDoor

namespace Go.Proofs.YtiohpcnnpmnjhaaGreatDoor
open Go.RowKit
set_option linter.unusedVariables false

def moveD (A B : List Cel) : Cel := if wayB A B then wayD A B else (0, 0)
/-- What moveTo does. -/
def MoveDoes : Prop := ∀ (X Y : Int) (a b : Value) (A B : List Cel) (w : World), RowAt w a A → RowAt w b B → Roam X Y A → Roam X Y B → A.length ≤ 1000 → B.length ≤ 1000 →
    Calls Tryz.prog 124 #[a, b] w fun e w' => e = .returned (.tuple #[.agg #[.int .i64 (moveD A B).1, .int .i64 (moveD A B).2], .bool (wayB A B)]) ∧ Below w.heap.size w w'

theorem infoP : (Tryz.prog.info? 71).map (fun i => (i.zero, i.size, i.bytes)) = some (some (.slice none 0 0), 1, 24) := by kernel_rfl

section
variable {P : Program} (w : World)
/-- An append, and what the old row still holds. -/
theorem wpList_append_kept {ops : Array Oper} {rest : List Oper} {o : Oper} {a : Act} {Q : Exit → Act → World → Prop} (hgd : o.guard = none) (s x : Operand) (t : TypeId)
    (ho : o.op = .call { callee := .builtin .append, args := #[s, x], argTypes := #[t, t] })
    (base : Nat) (e : TypeId) (i : TypeInfo) (z : Value) (size bytes : Nat) (ht : P.underlying t = some (.slice e)) (hi : P.info? e = some i) (hz : i.zero = some z)
    (hsize : i.size = size) (hby : i.bytes = bytes) (hzs : z.cells.size = size) (hsz : 0 < size)
    (v : Value) (n : Nat) (xs : List Value) (hs : a.eval s = v) (hown : w.ownsRow base e size v n xs)
    (ad : Addr) (m c : Nat) (news : List Value) (hx : a.eval x = .slice (some ad) m c) (hl : news.length = m * size) (hnews : ∀ j u, news[j]? = some u → w.cell? (ad.add j) = some u) (h1 : ∀ u ∈ news, u.oneCell' = true)
    (h63 : n + m ≤ maxLen) (hbytes : (n + m) * bytes ≤ 140737488355328) (hbase : base ≤ w.heap.size)
    (h : ∀ v' w', w'.ownsRow base e size v' (n + m) (xs ++ news) → w.grownBy w' v.ownBlock → (∀ g, v.ownBlock = some g → ∀ j u, xs[j]? = some u → w'.cell? ((⟨g, 0, none⟩ : Addr).add j) = some u) → wpList P ops Q rest (a.put o.dst v') w') :
    wpList P ops Q (o :: rest) a w := by
  refine wpList_plain hgd fun K hK => ?_
  obtain ⟨v', w', hr, h2, h3, _, _⟩ := run_append_own_at (P := P) w base t o.type e i z size bytes ht hi hz hsize hby hzs hsz v n xs hown ad m c news hl hnews h1 h63 hbytes hbase
  have hkept : ∀ g, v.ownBlock = some g → ∀ j u, xs[j]? = some u → w'.cell? ((⟨g, 0, none⟩ : Addr).add j) = some u := fun g hg j u hu => by
    rcases hown.2 with ⟨rfl, _⟩ | ⟨g', cap, cur, rfl, hbg, hgb, hnc, hcm, hcs, htake⟩
    · cases hg
    cases hg
    have hu' : (xs ++ news)[j]? = some u := by rw [List.getElem?_append_left (List.getElem?_eq_some_iff.1 hu).1]; exact hu
    by_cases hroom : n + m ≤ cap
    · have hfit : n * i.size + news.length ≤ cur.size := by rw [hl, hcs, hsize, ← Nat.add_mul]; exact Nat.mul_le_mul_right _ hroom
      have hr' := run_append_room (P := P) w t o.type e i ht hi g' n cap cur hgb ad m c news (by rw [hsize]; exact hl) hnews h1 hroom hfit
      rw [hr] at hr'
      cases hr'
      exact h2.cells (g := g') rfl j u hu'
    · have holds : ∀ j u, xs[j]? = some u → w.cell? ((⟨g', 0, none⟩ : Addr).add j) = some u := hown.cells (g := g') rfl
      have hr' := run_append_grow (P := P) w t o.type e i z ht hi hz ⟨g', 0, none⟩ n cap xs (by rw [hsize]; exact hown.1) holds ad m c news (by rw [hsize]; exact hl) hnews (by omega) (by unfold maxLen at h63; omega) (growslice_fits (by omega) (by rw [hby]; exact hbytes))
      rw [hr] at hr'
      cases hr'
      rw [← holds j u hu]
      exact World.cell?_of_block (by rw [Addr.add_lit]; exact Below.heap_alloc w.drew _ _ (blk_lt hgb))
  unfold Oper.wp execOp
  simp only [ho, resolve, invoke, builtin, Sem.run_bind, Sem.run_pure, Result.andThen_ok, List.map_toArray, List.map_cons, List.map_nil, hs, hx, hr]
  exact hK _ _ (h v' w' h2 h3 hkept)
end

/-- The story as it lies at S: its generations' slices, and the cycle's four numbers. -/
structure Story (w : World) (S B : Nat) (f g : Nat → Bool) (C : List Cel) (vs : List Value) (c : Int × Int × Int × Int) (gs : Value) : Prop where
  st : w.heap[S]? = some (.cells #[gs, .int .i64 c.1, .int .i64 c.2.1, .int .i64 c.2.2.1, .int .i64 c.2.2.2] 90 (0, 0))
  own : w.ownsRow B 71 1 gs vs.length vs
  all : ∀ i v, vs[i]? = some v → w.ownsRow 0 113 2 v (gen f g C i).length (flatC (gen f g C i))
/-- What is kept while the story is told on. -/
structure Told (w w' : World) (S B : Nat) : Prop where
  os : w'.os = w.os
  tape : w'.tape = w.tape
  output : w'.output = w.output
  size : w.heap.size ≤ w'.heap.size
  same : ∀ (k : Nat) (o : Obj), w.heap[k]? = some o → k ≠ S → (k < B ∨ ∀ cs fz, o ≠ .cells cs 71 fz) → w'.heap[k]? = some o
theorem Told.row {w w' : World} {S B : Nat} (h : Told w w' S B) (hS : ∃ cs, w.heap[S]? = some (.cells cs 90 (0, 0))) {n : Nat} {v : Value} {xs : List Value} (hr : w.ownsRow 0 113 2 v n xs) : w'.ownsRow 0 113 2 v n xs := by
  refine ⟨hr.1, hr.2.imp id ?_⟩
  rintro ⟨g, cap, cur, h1, h2, h3, h4⟩
  refine ⟨g, cap, cur, h1, h2, h.same _ _ h3 (fun e => ?_) (.inr fun cs fz e => by cases e), h4⟩
  obtain ⟨cs, hcs⟩ := hS
  rw [e, hcs] at h3; cases h3
theorem rowBelow {W W' : World} {B e m n : Nat} {v : Value} {xs : List Value} (h : W.ownsRow B e m v n xs) (hb : Below W.heap.size W W') : W'.ownsRow B e m v n xs := h.kept (grown_of_below hb) (Classical.em _)
theorem grown_set (w : World) (S j : Nat) (u : Value) : w.grownBy (w.setCell ⟨S, j, none⟩ u) (some S) := ⟨rfl, rfl, rfl, by simp [World.setCell], fun k _ hk => Below.heap_setCell w ⟨S, j, none⟩ u k (fun e => hk (by rw [e]))⟩
theorem Told.below {w W W' : World} {S B : Nat} (h : Told w W S B) (hb : Below W.heap.size W W') : Told w W' S B :=
  ⟨hb.os.trans h.os, hb.tape.trans h.tape, hb.output.trans h.output, Nat.le_trans h.size hb.size, fun k o hk hne hB => by
    have := h.same k o hk hne hB
    exact (hb.block k (blk_lt this)).trans this⟩
theorem Told.set {w W : World} {S B : Nat} (h : Told w W S B) (j : Nat) (u : Value) : Told w (W.setCell ⟨S, j, none⟩ u) S B :=
  ⟨h.os, h.tape, h.output, by simpa [World.setCell] using h.size, fun k o hk hne hB => (Below.heap_setCell W ⟨S, j, none⟩ u k hne).trans (h.same k o hk hne hB)⟩
/-- The story's rows lie apart from its own block. -/
structure Rows2 (W : World) (S B : Nat) (f g : Nat → Bool) (C : List Cel) (vs : List Value) (gs : Value) : Prop where
  own : W.ownsRow B 71 1 gs vs.length vs
  all : ∀ i v, vs[i]? = some v → W.ownsRow 0 113 2 v (gen f g C i).length (flatC (gen f g C i))
theorem Rows2.below {W W' : World} {S B : Nat} {f g : Nat → Bool} {C : List Cel} {vs : List Value} {gs : Value} (h : Rows2 W S B f g C vs gs) (hb : Below W.heap.size W W') : Rows2 W' S B f g C vs gs :=
  ⟨rowBelow h.own hb, fun i v hv => rowBelow (h.all i v hv) hb⟩
theorem Rows2.set {W : World} {S B : Nat} {f g : Nat → Bool} {C : List Cel} {vs : List Value} {gs : Value} (h : Rows2 W S B f g C vs gs) {cs : Array Value} (hS : W.heap[S]? = some (.cells cs 90 (0, 0))) (j : Nat) (u : Value) : Rows2 (W.setCell ⟨S, j, none⟩ u) S B f g C vs gs := by
  have key : ∀ {e m n : Nat} {B' : Nat} {v : Value} {xs : List Value}, e ≠ 90 → W.ownsRow B' e m v n xs → (W.setCell ⟨S, j, none⟩ u).ownsRow B' e m v n xs := fun {e m n B' v xs} he hr => hr.kept (grown_set W S j u) (Or.inr fun e1 => by
    rcases hr.2 with ⟨rfl, _⟩ | ⟨g2, c2, cur2, rfl, _, hh, _⟩
    · cases e1
    · have := Option.some.inj e1
      simp only at this
      rw [this, hS] at hh; cases hh; exact he rfl)
  exact ⟨key (by decide) h.own, fun i v hv => key (by decide) (h.all i v hv)⟩
/-- The cycle that is told at generation t. -/
def cycOf (f g : Nat → Bool) (C : List Cel) (t : Nat) : Int × Int × Int × Int := match cameB f g C t with
  | some s => ((s : Int), (t : Int) - (s : Int), (wayD (gen f g C s) (gen f g C t)).1, (wayD (gen f g C s) (gen f g C t)).2)
  | none => (0, 0, 0, 0)
/-- What add leaves. -/
def AddOut (f g : Nat → Bool) (C : List Cel) (S B : Nat) (vs : List Value) (v : Value) (w : World) (e : Ending) (w' : World) : Prop :=
  e = .returned (.bool (cameB f g C vs.length).isSome) ∧ Told w w' S B ∧ ∃ gs', Story w' S B f g C (vs ++ [v]) (cycOf f g C vs.length) gs'

set_option maxRecDepth 100000 in
set_option maxHeartbeats 1600000 in
theorem add_walk (hmv : MoveDoes) (f g : Nat → Bool) (C : List Cel) (X Y : Int) (hr : ∀ t, t ≤ 300 → Roam X Y (gen f g C t)) (S B : Nat) (vs : List Value) (gs v : Value) (w : World) (hst : Story w S B f g C vs (0, 0, 0, 0) gs) (hB : B ≤ w.heap.size) (ht : vs.length ≤ 200)
    (own : w.ownsRow 0 113 2 v (gen f g C vs.length).length (flatC (gen f g C vs.length))) (hlen : ∀ i, i ≤ vs.length → (gen f g C i).length ≤ 100) :
    Calls Tryz.prog 101 #[.pointer (some ⟨S, 0, none⟩), v] w (AddOut f g C S B vs v w) := by
  obtain ⟨i0, hi, hz0, hz1, hz2⟩ := info_parts infoP
  obtain ⟨h1, h2, h3⟩ := hst
  have c0 := cell_of h1 0
  have z0 := frz_of h1 0
  obtain ⟨ag, cg, rfl⟩ := row_slice h2
  obtain ⟨av, cv, rfl⟩ := row_slice own
  obtain ⟨lt, hlt⟩ : ∃ lt, (gen f g C vs.length).length = lt := ⟨_, rfl⟩
  rw [hlt] at own ⊢
  have HLT : Hid ((gen f g C vs.length).length = lt) := hlt
  clear hlt
  go_enter Tryz.func101, Tryz.ntmps101
  go_wp2_with (first
    | (at_builtin; refine wpList_append_kept _ rfl _ _ 88 rfl B 71 i0 (.slice none 0 0) 1 24 Tryz.underlying88 hi hz0 hz1 hz2 rfl (by decide) _ _ _ rfl (h2.alloc _) ⟨w.heap.size, 0, none⟩ 1 1 [.slice av lt cv] rfl rfl (cell_one_new _ _ _) (by simp [Value.oneCell']) (by unfold maxLen; omega) (by omega) (by simp; omega) ?_; intro v' w1 own1 hg1 hk1; obtain ⟨a1, cp1, rfl⟩ := row_slice own1; have h1' := other_kept (h2.alloc (.cells #[.slice av lt cv] 71)) hg1 (blk_old h1 _) (by decide); have c0' := cell_of h1' 0; have z0' := frz_of h1' 0))
  have gs1 : w.grownBy w1 (Value.slice ag vs.length cg).ownBlock := (World.grownBy_alloc w _ _).trans hg1
  have hws := gs1.size
  have hSne : ∀ g', (Value.slice a1 (vs.length + 1) cp1).ownBlock = some g' → g' ≠ S := fun g' hg' e => by
    rcases own1.2 with ⟨hn, _⟩ | ⟨g2, c2, cur2, hv2, _, hb2, _⟩
    · cases hn
    · cases hv2; cases hg'
      have e' : g2 = S := e
      rw [e', h1'] at hb2; cases hb2
  have st2 : (w1.setCell ⟨S, 0, none⟩ (.slice a1 (vs.length + 1) cp1)).heap[S]? = some (.cells #[.slice a1 (vs.length + 1) cp1, .int .i64 0, .int .i64 0, .int .i64 0, .int .i64 0] 90 (0, 0)) := blk_put (j := 0) h1' _
  have own2 : (w1.setCell ⟨S, 0, none⟩ (.slice a1 (vs.length + 1) cp1)).ownsRow B 71 1 (.slice a1 (vs.length + 1) cp1) (vs.length + 1) (vs ++ [.slice av lt cv]) := by
    refine own1.kept (grownBy_setCell' w1 S _) (Or.inr fun e => ?_)
    exact hSne S e rfl
  have td2 : Told w (w1.setCell ⟨S, 0, none⟩ (.slice a1 (vs.length + 1) cp1)) S B := by
    refine ⟨gs1.os, gs1.tape, gs1.output, by simpa [World.setCell] using hws, fun k o hk hne hkB => ?_⟩
    refine (Below.heap_setCell w1 ⟨S, 0, none⟩ _ k hne).trans ((gs1.block k (blk_lt hk) (fun e => ?_)).trans hk)
    rcases h2.2 with ⟨hn, _⟩ | ⟨g2, c2, cur2, hv2, hb2, hh2, _⟩
    · simp only [Value.slice.injEq] at hn
      obtain ⟨rfl, _, _⟩ := hn
      cases e
    · cases hv2
      have := Option.some.inj e
      simp only at this
      subst this
      rcases hkB with hkB | hkB
      · omega
      · rw [hh2] at hk; cases hk; exact hkB _ _ rfl
  have hag : vs.length = 0 ∨ ∃ g', ag = some ⟨g', 0, none⟩ := by
    rcases h2.2 with ⟨_, h0⟩ | ⟨g2, c2, cur2, hv2, _⟩
    · exact .inl h0
    · cases hv2; exact .inr ⟨_, rfl⟩
  have ce2 : ∀ g', ag = some ⟨g', 0, none⟩ → ∀ j u, vs[j]? = some u → (w1.setCell ⟨S, 0, none⟩ (.slice a1 (vs.length + 1) cp1)).cell? ⟨g', j, none⟩ = some u := fun g' hag j u hu => by
    subst hag
    have h := hk1 g' rfl j u hu
    rw [Addr.add_lit] at h
    simp only [Nat.zero_add] at h
    rw [← h]
    refine World.cell?_of_block (Below.heap_setCell w1 ⟨S, 0, none⟩ _ g' (fun e => ?_))
    rcases h2.2 with ⟨hn, _⟩ | ⟨g2, c2, cur2, hv2, _, hh2, _⟩
    · simp at hn
    · cases hv2
      simp only at e
      rw [e, h1] at hh2; cases hh2
  have all2 : ∀ i v, (vs ++ [.slice av lt cv])[i]? = some v → (w1.setCell ⟨S, 0, none⟩ (.slice a1 (vs.length + 1) cp1)).ownsRow 0 113 2 v (gen f g C i).length (flatC (gen f g C i)) := fun i v hv => by
    refine td2.row ⟨_, h1⟩ ?_
    by_cases hiv : i < vs.length
    · rw [List.getElem?_append_left hiv] at hv
      exact h3 i v hv
    · have : i = vs.length := by
        have := (List.getElem?_eq_some_iff.1 hv).1
        simp at this; omega
      subst this
      simp at hv
      subst hv
      rw [HLT.out]; exact own
  have rw2 : Rows2 (w1.setCell ⟨S, 0, none⟩ (.slice a1 (vs.length + 1) cp1)) S B f g C (vs ++ [.slice av lt cv]) (.slice a1 (vs.length + 1) cp1) := ⟨by simpa using own2, all2⟩
  clear own2 all2 hk1 hg1 own1 h1' c0' z0' c0 z0 hSne gs1 hws h3 own h2 h1
  generalize (w1.setCell ⟨S, 0, none⟩ (.slice a1 (vs.length + 1) cp1)) = W2 at *
  have hmvt := fun (i : Nat) (hi' : i ≤ 300) (vi : Value) (u : World) (h1 : RowAt u vi (gen f g C i)) (h2 : RowAt u (.slice av lt cv) (gen f g C vs.length)) (hl' : (gen f g C i).length ≤ 1000) => hmv X Y vi (.slice av lt cv) (gen f g C i) (gen f g C vs.length) u h1 h2 (hr i hi') (hr vs.length (by omega)) hl' (by have := hlen vs.length (Nat.le_refl _); omega)
  clear hmv hi hz0 hz1 hz2
  go_loopw [23] (fun i wr => ∃ j : Nat, j ≤ vs.length ∧ i = .int .i64 (j : Int) ∧ (∀ r, r < j → wayB (gen f g C r) (gen f g C vs.length) = false) ∧ Below W2.heap.size W2 wr) (fun i _ => vs.length - (intOf i).toNat)
  case atStart => exact ⟨0, by omega, rfl, fun r hr' => by omega, Below.refl _ _⟩
  case round =>
    obtain ⟨j, hj, rfl, hno, hbw⟩ := hrel
    by_cases hlt : j < vs.length
    · obtain ⟨g', rfl⟩ := hag.resolve_left (by omega)
      obtain ⟨vj, hvj⟩ : ∃ vj, vs[j]? = some vj := ⟨vs[j], by simp [hlt]⟩
      have cj := ce2 g' rfl j vj hvj
      have hg'l : g' < W2.heap.size := by
        simp only [World.cell?] at cj
        by_cases hgl : g' < W2.heap.size
        · exact hgl
        · rw [Array.getElem?_eq_none (by omega)] at cj; cases cj
      have cj' := (hbw.cell (p := ⟨g', j, none⟩) hg'l).trans cj
      have rj := rw2.all j vj (by rw [List.getElem?_append_left hlt]; exact hvj)
      have rn := rw2.all vs.length (.slice av lt cv) (by simp)
      have hM := hmvt j (by omega) vj wr ((RowAt.of_owns rj).below hbw) ((RowAt.of_owns rn).below hbw) (by have := hlen j (by omega); omega)
      obtain ⟨avj, cvj, hvs⟩ := row_slice rj
      subst hvs
      obtain ⟨dx, hdx⟩ : ∃ dx, (moveD (gen f g C j) (gen f g C vs.length)).1 = dx := ⟨_, rfl⟩
      obtain ⟨dy, hdy⟩ : ∃ dy, (moveD (gen f g C j) (gen f g C vs.length)).2 = dy := ⟨_, rfl⟩
      rw [hdx, hdy] at hM
      have HD : Hid (moveD (gen f g C j) (gen f g C vs.length) = (dx, dy)) := Prod.ext hdx hdy
      clear hdx hdy hvj cj hmvt
      have hSl := blk_lt st2
      cases hw : wayB (gen f g C j) (gen f g C vs.length) with
      | false =>
        rw [hw] at hM
        go_wp2_with (go_at_call 124; refine hM.mono ?_; rintro e w3 ⟨rfl, hb3⟩)
        go_roundw
        case rel => exact ⟨j + 1, by omega, by go_num, fun r hr' => by by_cases e : r = j; · rw [e]; exact hw
                                                                       · exact hno r (by omega), hbw.trans ((hb3.mono hbw.size).alloc (Nat.le_trans hbw.size hb3.size) _)⟩
        case measure => simp [intOf]; omega
      | true =>
        rw [hw] at hM
        have hcame : cameB f g C vs.length = some j := cameB_go hlt hno hw
        have HC : Hid (cameB f g C vs.length = some j) := hcame
        have HW : Hid (wayB (gen f g C j) (gen f g C vs.length) = true) := hw
        clear hcame hw
        go_wp2_with (go_at_call 124; refine hM.mono ?_; rintro e w3 ⟨rfl, hb3⟩
                     have hb4 : Below W2.heap.size W2 (w3.alloc (.cells #[.int .i64 dx, .int .i64 dy] 113)) := hbw.trans ((hb3.mono hbw.size).alloc (Nat.le_trans hbw.size hb3.size) _)
                     have st4 := (hb4.block S hSl).trans st2
                     have y1 := cell_of st4 1; have y2 := cell_of st4 2; have y3 := cell_of st4 3; have y4 := cell_of st4 4
                     have x1 := frz_of st4 1; have x2 := frz_of st4 2; have x3 := frz_of st4 3; have x4 := frz_of st4 4)
        go_ret
        have st5 := blk_put (j := 1) st4 (.int .i64 (j : Int))
        have st6 := blk_put (j := 2) st5 (.int .i64 ((vs.length : Int) - (j : Int)))
        have st7 := blk_put (j := 3) st6 (.int .i64 dx)
        have st8 := blk_put (j := 4) st7 (.int .i64 dy)
        have rw8 := ((((rw2.below hb4).set st4 1 (.int .i64 (j : Int))).set st5 2 (.int .i64 ((vs.length : Int) - (j : Int)))).set st6 3 (.int .i64 dx)).set st7 4 (.int .i64 dy)
        have hDD : wayD (gen f g C j) (gen f g C vs.length) = (dx, dy) := by
          have := HD.out
          unfold moveD at this
          rwa [if_pos HW.out] at this
        refine ⟨by rw [HC.out]; rfl, ((((td2.below hb4).set 1 _).set 2 _).set 3 _).set 4 _, .slice a1 (vs.length + 1) cp1, ?_⟩
        unfold cycOf
        rw [HC.out]
        simp only [hDD]
        exact ⟨st8, rw8.own, rw8.all⟩
    · obtain rfl : j = vs.length := by omega
      go_wp2
      go_ret
      have hnone : cameB f g C vs.length = none := cameB_none hno
      refine ⟨by rw [hnone]; rfl, td2.below hbw, .slice a1 (vs.length + 1) cp1, ?_⟩
      unfold cycOf
      rw [hnone]
      exact ⟨(hbw.block S (blk_lt st2)).trans st2, (rw2.below hbw).own, (rw2.below hbw).all⟩

end Go.Proofs.YtiohpcnnpmnjhaaGreatDoor

namespace Go.Proofs.YtiohpcnnpmnjhaaGreatDoor
open Go.RowKit Go.Shelf
set_option linter.unusedVariables false
attribute [local go_sem] Oper.semAt_some

set_option maxHeartbeats 400000 in
theorem generations_any (L : Array Value) (v : Value) (w : World) (hv : ∃ a n c, v = .slice a n c) :
    Calls Tryz.prog 100 #[.agg L, v] w fun e w' => e = .returned (.func (.func 122) #[] #[.pointer (some ⟨w.heap.size + 1, 0, none⟩), .pointer (some ⟨w.heap.size, 0, none⟩)]) ∧ w' = (w.alloc (.cells L 69)).alloc (.cells #[v] 71) := by
  have hmf : ∀ (fn : Fn) (first cap : Array Value) (w : World), (Instr.makeFunc fn first cap).run Tryz.prog w = .ok (.func fn first cap) w := fun _ _ _ _ => rfl
  obtain ⟨a, n, c, rfl⟩ := hv
  go_enter Tryz.func100, Tryz.ntmps100
  go_wp2
  go_ret
  exact ⟨rfl, rfl⟩

theorem course_from {f g : Nat → Bool} {C : List Cel} : ∀ (t : Nat), t ≤ 201 → (∀ r, r < t → (gen f g C r).length ≤ 100 ∧ cameB f g C r = none) → course f g C = courseF f g C (201 - t) t
  | 0, _, _ => rfl
  | t + 1, ht, h => by
    rw [course_from t (by omega) (fun r hr => h r (by omega))]
    have h1 := h t (by omega)
    obtain ⟨k, hk⟩ : ∃ k, 201 - t = k + 1 := ⟨200 - t, by omega⟩
    rw [hk, courseF, if_neg (by omega), h1.2, show 201 - (t + 1) = k by omega]
    rfl
theorem course_big {f g : Nat → Bool} {C : List Cel} {t : Nat} (ht : t ≤ 200) (h : ∀ r, r < t → (gen f g C r).length ≤ 100 ∧ cameB f g C r = none) (hb : 100 < (gen f g C t).length) : course f g C = .inl 5 := by
  rw [course_from t (by omega) h]
  obtain ⟨k, hk⟩ : ∃ k, 201 - t = k + 1 := ⟨200 - t, by omega⟩
  rw [hk, courseF, if_pos hb]
theorem course_came {f g : Nat → Bool} {C : List Cel} {t s : Nat} (ht : t ≤ 200) (h : ∀ r, r < t → (gen f g C r).length ≤ 100 ∧ cameB f g C r = none) (hl : (gen f g C t).length ≤ 100) (hc : cameB f g C t = some s) : course f g C = .inr (t, s) := by
  rw [course_from t (by omega) h]
  obtain ⟨k, hk⟩ : ∃ k, 201 - t = k + 1 := ⟨200 - t, by omega⟩
  rw [hk, courseF, if_neg (by omega), hc]
  rfl
theorem course_end {f g : Nat → Bool} {C : List Cel} (h : ∀ r, r < 201 → (gen f g C r).length ≤ 100 ∧ cameB f g C r = none) : course f g C = .inl 7 := by
  rw [course_from 201 (by omega) h]; rfl

/-- The whole story, as a value. -/
def storyV (gs : Value) (c : Int × Int × Int × Int) : Array Value := #[gs, .int .i64 c.1, .int .i64 c.2.1, .int .i64 c.2.2.1, .int .i64 c.2.2.2]
/-- What follow leaves. -/
def FollowOut (f g : Nat → Bool) (C : List Cel) (w : World) (e : Ending) (w' : World) : Prop :=
  Below w.heap.size w w' ∧ match course f g C with
    | .inl k => e = .panicked (refusal k 0)
    | .inr (t, s) => t ≤ 200 ∧ s < t ∧ cameB f g C t = some s ∧ ∃ gs vs, vs.length = t + 1 ∧ e = .returned (.agg (storyV gs (cycOf f g C t))) ∧ Rows2 w' 0 w.heap.size f g C vs gs

/-- What the rounds leave. -/
structure FInv (w : World) (f g : Nat → Bool) (C : List Cel) (pre : List GenV) (W : World) : Prop where
  st : ∃ gs, Story W (w.heap.size + 2) w.heap.size f g C (pre.map (·.2)) (0, 0, 0, 0) gs
  no : ∀ r, r < pre.length → (gen f g C r).length ≤ 100 ∧ cameB f g C r = none
  rs : W.heap[w.heap.size + 1]? = some (.cells #[.slice none 0 0, .int .i64 0, .int .i64 0, .int .i64 0, .int .i64 0] 90 (0, 0))
  be : Below w.heap.size w W
/-- What a round leaves that ends them. -/
structure FEnd (w : World) (f g : Nat → Bool) (C : List Cel) (pre : List GenV) (W : World) : Prop where
  ok : ∃ t s gs vs, t ≤ 200 ∧ s < t ∧ cameB f g C t = some s ∧ course f g C = .inr (t, s) ∧ vs.length = t + 1 ∧ W.heap[w.heap.size + 1]? = some (.cells (storyV gs (cycOf f g C t)) 90 (0, 0)) ∧ Rows2 W 0 w.heap.size f g C vs gs
  be : Below w.heap.size w W

theorem infoS : (Tryz.prog.info? 90).map (·.size) = some 5 := by kernel_rfl
theorem cameB_lt {f g : Nat → Bool} {C : List Cel} {t s : Nat} (h : cameB f g C t = some s) : s < t := by
  unfold cameB at h
  exact List.mem_range.1 (List.mem_of_find?_eq_some h)
theorem told_below {w W w1 : World} {S : Nat} (h : Below w.heap.size w W) (ht : Told W w1 S w.heap.size) (hS : w.heap.size ≤ S) : Below w.heap.size w w1 :=
  ⟨ht.os.trans h.os, ht.tape.trans h.tape, ht.output.trans h.output, Nat.le_trans h.size ht.size, fun k hk => by
    have hkW : k < W.heap.size := Nat.lt_of_lt_of_le hk h.size
    have h1 : W.heap[k]? = some W.heap[k] := by simp [hkW]
    rw [← h.block k hk, h1]
    exact ht.same k _ h1 (by omega) (.inl hk)⟩
theorem told_keeps {W w1 : World} {S B N : Nat} (ht : Told W w1 S B) (hS : S < N) : KeepsFrom N W w1 :=
  ⟨ht.size, fun k o hB hk ho => ht.same k o hk (by omega) (.inr fun cs fz e => by subst e; cases ho)⟩
theorem told_kpI {W w1 : World} {S B : Nat} (ht : Told W w1 S B) {cs : Array Value} (hS : W.heap[S]? = some (.cells cs 90 (0, 0))) : KpI W w1 :=
  ⟨ht.size, fun k o hk hkp => ht.same k o hk (fun e => by
      subst e
      rw [hS] at hk; cases hk
      rcases hkp with h | h <;> exact absurd h (by decide)) (.inr fun cs' fz e => by
      subst e
      rcases hkp with h | h <;> exact absurd h (by decide))⟩

set_option maxRecDepth 100000 in
set_option maxHeartbeats 1600000 in
theorem follow_walk (hmv : MoveDoes) (hnext : NextDoes) (f g : Nat → Bool) (C : List Cel) (X Y : Int) (hasc : Asc C) (hr : ∀ t, t ≤ 300 → Roam X Y (gen f g C t)) (hl : C.length ≤ 100) (v : Value) (w : World) (own : w.ownsRow 0 113 2 v C.length (flatC C)) :
    CallsIn Fence.wide 9 Tryz.prog 77 #[.agg (twoN f g), v] w (FollowOut f g C w) := by
  have hadd := fun S B vs gs v w hst hB ht own hlen => add_walk hmv f g C X Y hr S B vs gs v w hst hB ht own hlen
  have HL : Hid ((Tryz.prog.info? 69).map (·.size) = some (twoN f g).size) := infoL
  have hseq := fun (w0 : World) own0 hBf hBl => gens_seq hnext 8 (by omega) f g C X Y v (w.heap.size + 4) (w.heap.size + 3) w0 hasc hr hl own0 hBf hBl
  obtain ⟨av, cv, rfl⟩ := row_slice own
  obtain ⟨L, hL⟩ : ∃ L, twoN f g = L := ⟨_, rfl⟩
  rw [hL] at HL
  simp only [hL] at hseq ⊢
  clear hL
  refine callsIn_of_wp_marks Tryz.func77 rfl trivial ?_ rfl
  simp only [Tryz.ntmps77, List.size_toArray, List.length_cons, List.length_nil, Nat.reduceAdd, Nat.reduceSub, Array.replicate_succ, Array.replicate_zero, List.push_toArray, List.append_toArray, List.nil_append, List.cons_append]
  have bl := blk_old (blk_old (blk_new w (.cells L 69)) (.cells #[.slice none 0 0, .int .i64 0, .int .i64 0, .int .i64 0, .int .i64 0] 90)) (.cells #[.slice none 0 0, .int .i64 0, .int .i64 0, .int .i64 0, .int .i64 0] 90)
  gi_wp2_with (first
    | (refine wpListIn_load_all rfl 69 (Operand.tmp 2) rfl w.heap.size rfl 69 L (0, 0) _ bl Tryz.underlying69 rfl HL.out ?_)
    | (refine ⟨trivial, ?_⟩; gi_at_call 100; refine (callsIn_wide.2 (generations_any L _ _ ⟨av, _, cv, rfl⟩)).mono ?_; rintro e w2 ⟨rfl, rfl⟩))
  have t1 := blk_old (blk_old (blk_old (blk_new (w.alloc (.cells L 69)) (.cells #[.slice none 0 0, .int .i64 0, .int .i64 0, .int .i64 0, .int .i64 0] 90)) (.cells #[.slice none 0 0, .int .i64 0, .int .i64 0, .int .i64 0, .int .i64 0] 90)) (.cells L 69)) (.cells #[.slice av C.length cv] 71)
  have t2 := blk_old (blk_old (blk_new ((w.alloc (.cells L 69)).alloc (.cells #[.slice none 0 0, .int .i64 0, .int .i64 0, .int .i64 0, .int .i64 0] 90)) (.cells #[.slice none 0 0, .int .i64 0, .int .i64 0, .int .i64 0, .int .i64 0] 90)) (.cells L 69)) (.cells #[.slice av C.length cv] 71)
  have t3 := blk_old (blk_new (((w.alloc (.cells L 69)).alloc (.cells #[.slice none 0 0, .int .i64 0, .int .i64 0, .int .i64 0, .int .i64 0] 90)).alloc (.cells #[.slice none 0 0, .int .i64 0, .int .i64 0, .int .i64 0, .int .i64 0] 90)) (.cells L 69)) (.cells #[.slice av C.length cv] 71)
  have t4 := blk_new ((((w.alloc (.cells L 69)).alloc (.cells #[.slice none 0 0, .int .i64 0, .int .i64 0, .int .i64 0, .int .i64 0] 90)).alloc (.cells #[.slice none 0 0, .int .i64 0, .int .i64 0, .int .i64 0, .int .i64 0] 90)).alloc (.cells L 69)) (.cells #[.slice av C.length cv] 71)
  simp only [World.size_alloc, Nat.add_assoc, Nat.reduceAdd] at t1 t2 t3 t4
  have hB5 : Below w.heap.size w (((((w.alloc (.cells L 69)).alloc (.cells #[.slice none 0 0, .int .i64 0, .int .i64 0, .int .i64 0, .int .i64 0] 90)).alloc (.cells #[.slice none 0 0, .int .i64 0, .int .i64 0, .int .i64 0, .int .i64 0] 90)).alloc (.cells L 69)).alloc (.cells #[.slice av C.length cv] 71)) := (((((Below.refl _ w).alloc (Nat.le_refl _) _).alloc (by simp) _).alloc (by simp; omega) _).alloc (by simp; omega) _).alloc (by simp; omega) _
  have z5 : w.heap.size + 5 ≤ (((((w.alloc (.cells L 69)).alloc (.cells #[.slice none 0 0, .int .i64 0, .int .i64 0, .int .i64 0, .int .i64 0] 90)).alloc (.cells #[.slice none 0 0, .int .i64 0, .int .i64 0, .int .i64 0, .int .i64 0] 90)).alloc (.cells L 69)).alloc (.cells #[.slice av C.length cv] 71)).heap.size := by simp
  have own5 := rowBelow own hB5
  have hsq := hseq _ own5 t4 t3
  clear hseq bl t3 t4 hnext hmv
  generalize (((((w.alloc (.cells L 69)).alloc (.cells #[.slice none 0 0, .int .i64 0, .int .i64 0, .int .i64 0, .int .i64 0] 90)).alloc (.cells #[.slice none 0 0, .int .i64 0, .int .i64 0, .int .i64 0, .int .i64 0] 90)).alloc (.cells L 69)).alloc (.cells #[.slice av C.length cv] 71)) = W0 at *
  refine wpIn_rangeP (α := GenV) (encs := encG) rfl (by omega) (gf := 122) rfl trivial (enters_of Tryz.func122 (by kernel_rfl) rfl) hsq KpI.trans ?kb (fun _ => rfl) (FInv w f g C) (fun c pre W => c = .ret ∧ FEnd w f g C pre W) ?hI ?hIx ?hEl ?h0
    (fun x => { tmps := #[.agg L, .slice av C.length cv, .pointer (some ⟨w.heap.size, 0, none⟩), undef, .pointer (some ⟨w.heap.size + 1, 0, none⟩), .pointer (some ⟨w.heap.size + 1 + 1, 0, none⟩), undef, x.2, .agg L, .slice av C.length cv, .func (.func 122) #[] #[.pointer (some ⟨w.heap.size + 4, 0, none⟩), .pointer (some ⟨w.heap.size + 3, 0, none⟩)], .int .i64 (x.1 : Int), x.2, undef, undef, undef, undef, undef], defers := [] }) ?assign ?body ?done ?stop ?pan
  case kb =>
    intro W l r o hlt hl2
    refine ⟨by simp, fun k o' hk hkp => ?_⟩
    by_cases e : k = l
    · subst e; rw [hl2] at hk; cases hk; exact hkp.elim
    · exact (World.putObj_heap_other e).trans hk
  case hI =>
    rintro pre A B ⟨⟨gs, h1, h2, h3⟩, h4, h5, h6⟩ hab
    exact ⟨⟨gs, hab.cells _ _ h1 rfl, hab.row h2, fun i v hv => hab.row (h3 i v hv)⟩, h4, hab.cells _ _ h5 rfl, h6.trans (hab.be.mono (by omega))⟩
  case hIx =>
    rintro c pre A B ⟨rfl, ⟨t, s', gs, vs, h1, h2, h3, h4, h5, h6, h7⟩, h8⟩ hab
    exact ⟨rfl, ⟨t, s', gs, vs, h1, h2, h3, h4, h5, hab.cells _ _ h6 rfl, hab.row h7.own, fun i v hv => hab.row (h7.all i v hv)⟩, h8.trans (hab.be.mono (by omega))⟩
  case hEl =>
    rintro pre x A B ⟨h1, h2, h3, h4⟩ hab
    exact ⟨h1, h2, hab.row h3, h4⟩
  case h0 => exact ⟨⟨.slice none 0 0, t2, ⟨rfl, .inl ⟨rfl, rfl⟩⟩, fun i v hv => by simp at hv⟩, fun r hr' => by simp at hr', t1, hB5⟩
  case assign =>
    rintro l ⟨n, v⟩ W K hK
    simp only [encG]
    gi_wp2
    exact hK
  case body =>
    rintro l pre ⟨n, v⟩ W hl0 ⟨⟨gs, hst⟩, h4, h5, h6⟩ ⟨e1, e2, e3, e4⟩
    simp only at e1 e3
    have hvl : (pre.map (·.2)).length = pre.length := List.length_map ..
    have hA := hadd (w.heap.size + 2) w.heap.size (pre.map (·.2)) gs v W hst h6.size (by rw [hvl]; exact e2) (by rw [hvl]; exact e3) (fun i hi => by
      rw [hvl] at hi
      by_cases e : i = pre.length
      · rw [e]; exact e4
      · exact (h4 i (by omega)).1)
    have hmap : (pre ++ [((n, v) : GenV)]).map (·.2) = pre.map (·.2) ++ [v] := by simp
    have HV : Hid ((pre.map (·.2)).length = pre.length) := hvl
    have hW0 : w.heap.size + 2 < W0.heap.size := by omega
    clear hvl hadd
    dsimp only
    cases hc : cameB f g C (pre.map (·.2)).length with
    | none =>
      have hcy : cycOf f g C (pre.map (·.2)).length = (0, 0, 0, 0) := by unfold cycOf; rw [hc]
      gi_wp2_with (refine ⟨trivial, ?_⟩; gi_at_call 101; refine (CallsIn.inRound l (callsIn_wide.2 hA)).mono ?_; rintro e w1 ⟨he, htd, gs', hst'⟩; rw [hc] at he; simp only [Option.isSome_none] at he; subst he)
      rw [hcy] at hst'
      refine ⟨told_keeps htd hW0, told_kpI htd hst.st, ⟨⟨gs', by rw [hmap]; exact hst'⟩, fun r hr' => ?_, htd.same _ _ h5 (by omega) (.inr fun cs fz e => by cases e), told_below h6 htd (by omega)⟩⟩
      simp only [List.length_append, List.length_cons, List.length_nil] at hr'
      by_cases e : r = pre.length
      · rw [e]; rw [HV.out] at hc; exact ⟨e4, hc⟩
      · exact h4 r (by omega)
    | some s' =>
      obtain ⟨⟨y1, y2, y3, y4⟩, hcy⟩ : ∃ cy, cycOf f g C (pre.map (·.2)).length = cy := ⟨_, rfl⟩
      gi_wp2_with (refine ⟨trivial, ?_⟩; gi_at_call 101; refine (CallsIn.inRound l (callsIn_wide.2 hA)).mono ?_; rintro e w1 ⟨he, htd, gs', hst'⟩; rw [hc] at he; simp only [Option.isSome_some] at he; subst he
                   rw [hcy] at hst'
                   obtain ⟨ag, cg, hgs⟩ := row_slice hst'.own
                   subst hgs
                   have q0 := cell_of hst'.st 0; have q1 := cell_of hst'.st 1; have q2 := cell_of hst'.st 2; have q3 := cell_of hst'.st 3; have q4 := cell_of hst'.st 4
                   have r1 := htd.same _ _ h5 (by omega) (.inr fun cs fz e => by cases e)
                   have p0 := cell_of r1 0; have p1 := cell_of r1 1; have p2 := cell_of r1 2; have p3 := cell_of r1 3; have p4 := cell_of r1 4
                   have x0 := frz_of r1 0; have x1 := frz_of r1 1; have x2 := frz_of r1 2; have x3 := frz_of r1 3; have x4 := frz_of r1 4)
      have hlv : (pre.map (·.2) ++ [v]).length = pre.length + 1 := by simp
      have hown := hst'.own
      rw [hlv] at hown
      have hc' : cameB f g C pre.length = some s' := by rw [← HV.out]; exact hc
      have hcy' : cycOf f g C pre.length = (y1, y2, y3, y4) := by rw [← HV.out]; exact hcy
      have r2 := blk_put (j := 0) r1 (.slice ag (pre.length + 1) cg)
      have r3 := blk_put (j := 1) r2 (.int .i64 y1)
      have r4 := blk_put (j := 2) r3 (.int .i64 y2)
      have r5 := blk_put (j := 3) r4 (.int .i64 y3)
      have r6 := blk_put (j := 4) r5 (.int .i64 y4)
      have k1 : Rows2 w1 (w.heap.size + 1) w.heap.size f g C (pre.map (·.2) ++ [v]) (.slice ag (pre.length + 1) cg) := ⟨by rw [hlv]; exact hown, hst'.all⟩
      have k6 := ((((k1.set r1 0 (.slice ag (pre.length + 1) cg)).set r2 1 (.int .i64 y1)).set r3 2 (.int .i64 y2)).set r4 3 (.int .i64 y3)).set r5 4 (.int .i64 y4)
      have b1 := told_below h6 htd (by omega)
      have b6 := ((((b1.setCell (p := ⟨w.heap.size + 1, 0, none⟩) (by simp) (.slice ag (pre.length + 1) cg)).setCell (p := ⟨w.heap.size + 1, 1, none⟩) (by simp) (.int .i64 y1)).setCell (p := ⟨w.heap.size + 1, 2, none⟩) (by simp) (.int .i64 y2)).setCell (p := ⟨w.heap.size + 1, 3, none⟩) (by simp) (.int .i64 y3)).setCell (p := ⟨w.heap.size + 1, 4, none⟩) (by simp) (.int .i64 y4)
      refine ⟨(told_keeps htd hW0).trans ((((((KeepsOthers.setCell _ _ _).trans (KeepsOthers.setCell _ _ _)).trans (KeepsOthers.setCell _ _ _)).trans (KeepsOthers.setCell _ _ _)).trans (KeepsOthers.setCell _ _ _)).from _), rfl, ⟨pre.length, s', .slice ag (pre.length + 1) cg, pre.map (·.2) ++ [v], e2, cameB_lt hc', hc', course_came e2 h4 e4 hc', hlv, ?_, k6.own, k6.all⟩, b6⟩
      rw [hcy']
      exact r6
  case done =>
    rintro D xs W hD hE ⟨⟨gs, hst⟩, h4, h5, h6⟩ hK
    have hco := course_end (f := f) (g := g) (C := C) (fun r hr' => h4 r (by omega))
    gi_wp2_with (refine ⟨trivial, ?_⟩; gi_at_call 71; refine (callsIn_wide.2 (giveUp_any 7 0 _)).mono ?_; rintro e w' ⟨rfl, rfl⟩)
    refine ⟨by simp, .inl ⟨_, _, rfl, run_takeDeferred hK, ?_⟩⟩
    show FollowOut f g C w _ _
    unfold FollowOut
    rw [hco]
    exact ⟨h6.trans (Ab.putObj (by omega) hK rfl _).be, rfl⟩
  case stop =>
    rintro D c pre W hD ⟨rfl, ⟨t, s', gs, vs, g1, g2, g3, g4, g5, g6, g7⟩, g8⟩ hK
    gi_wp2
    refine ⟨by simp, .inl ⟨_, _, rfl, run_takeDeferred hK, ?_⟩⟩
    have hab : Ab w.heap.size W (W.putObj D (.deferred none)) := Ab.putObj (by omega) hK rfl _
    refine ⟨.agg (storyV gs (cycOf f g C t)), results_cell_row Tryz.results77 _ _ (w.heap.size + 1) 90 (storyV gs (cycOf f g C t)) (0, 0) _ rfl (hab.cells _ _ g6 rfl) Tryz.underlying90 rfl infoS, ?_⟩
    show FollowOut f g C w _ _
    unfold FollowOut
    rw [g4]
    exact ⟨g8.trans hab.be, g1, g2, g3, gs, vs, g5, rfl, hab.row g7.own, fun i v hv => hab.row (g7.all i v hv)⟩
  case pan =>
    rintro D ch pre W hD ⟨rfl, hp1, hp2, hp3⟩ ⟨⟨gs, hst⟩, h4, h5, h6⟩ hK
    have hco := course_big hp2 h4 hp3
    simp only [Exit.inBlock, Exit.then]
    refine ⟨by simp, .inl ⟨_, _, rfl, run_takeDeferred hK, ?_⟩⟩
    show FollowOut f g C w _ _
    unfold FollowOut
    rw [hco]
    exact ⟨h6.trans (Ab.putObj (by omega) hK rfl _).be, rfl⟩

end Go.Proofs.YtiohpcnnpmnjhaaGreatDoor

namespace Go.Proofs.YtiohpcnnpmnjhaaGreatDoor
open Go.RowKit Go.Shelf
set_option linter.unusedVariables false
attribute [local go_sem] Oper.semAt_some

set_option maxHeartbeats 800000 in
theorem moveTo_len (a b : Option Addr) (n m c d : Nat) (w : World) (h : ¬ n = m) :
    Calls Tryz.prog 124 #[.slice a n c, .slice b m d] w fun e w' => e = .returned (.tuple #[.agg #[.int .i64 0, .int .i64 0], .bool false]) ∧ Below w.heap.size w w' := by
  have hz : ((n : Int) == (m : Int)) = false := by
    have : ¬ (n : Int) = (m : Int) := by omega
    simpa using this
  have hz' : ((n : Int) != (m : Int)) = true := by simp [bne, hz]
  go_enter Tryz.func124, Tryz.ntmps124
  go_wp2
  exact bodyPost_ret (v := .tuple #[.agg #[.int .i64 0, .int .i64 0], .bool false]) (by simp [results, Tryz.results124, go_sem]) rfl ⟨rfl, (((Below.refl _ _).alloc (Nat.le_refl _) _).alloc (by simp) _).alloc (by simp only [World.size_alloc]; omega) _⟩

set_option maxHeartbeats 800000 in
theorem moveTo_nil (a b : Option Addr) (c d : Nat) (w : World) :
    Calls Tryz.prog 124 #[.slice a 0 c, .slice b 0 d] w fun e w' => e = .returned (.tuple #[.agg #[.int .i64 0, .int .i64 0], .bool true]) ∧ Below w.heap.size w w' := by
  go_enter Tryz.func124, Tryz.ntmps124
  go_wp2
  exact bodyPost_ret (v := .tuple #[.agg #[.int .i64 0, .int .i64 0], .bool true]) (by simp [results, Tryz.results124, go_sem]) rfl ⟨rfl, (((Below.refl _ _).alloc (Nat.le_refl _) _).alloc (by simp) _).alloc (by simp only [World.size_alloc]; omega) _⟩

end Go.Proofs.YtiohpcnnpmnjhaaGreatDoor

namespace Go.Proofs.YtiohpcnnpmnjhaaGreatDoor
set_option linter.unusedVariables false

section
variable {F : Fence} {n : Nat} {P : Program} {ops : Array Oper} {md : Region.Mode} {C : World → Prop} {Q : Exit → Act → World → Prop}

/-- Whatever order is picked: and every world on the way is one of C. -/
def wpAnyC (F : Fence) (n : Nat) (P : Program) (md : Region.Mode) (ops : Array Oper) (C : World → Prop) (Q : Exit → Act → World → Prop) : Nat → Array Bool → Act → World → Prop
  | 0, listed, a, w => Region.ready md ops listed = [] ∧ Q .normal a w
  | fuel + 1, listed, a, w => (Region.ready md ops listed = [] → Q .normal a w) ∧ ∀ i ∈ Region.ready md ops listed, wpOpIn F n P ops Q i (fun a' w' => C w' ∧ wpAnyC F n P md ops C Q fuel (listed.setIfInBounds i true) a' w') a w
theorem wpAnyC.any : ∀ {fuel : Nat} {listed : Array Bool} {a : Act} {w : World}, wpAnyC F n P md ops C Q fuel listed a w → wpAnyIn F n P md ops Q fuel listed a w
  | 0, _, _, _, h => h
  | _ + 1, _, _, _, h => ⟨h.1, fun i hi => wpOpIn_mono (fun _ _ hk => hk.2.any) (h.2 i hi)⟩

/-- In this state the operation yields v, in every world of C, and leaves the world as it is. -/
def YieldsC (P : Program) (ops : Array Oper) (C : World → Prop) (o : Oper) (v : Value) (a : Act) : Prop :=
  Region.wanted o (yielded ops a.tmps) = true ∧ ∀ w, C w → o.about P w a.eval = none ∧ (execOp a.eval o).run P w = .ok (.value v) w

/-- An operation that looks not at the other's temporary does as it did, and lands beside it. -/
theorem wpOpIn_beside {j : Nat} {oi oj : Oper} {v : Value} (hro : F.round = none) (hj : ops[j]? = some oj) (hap : oi.apart ops oj = true) (hsj : ∀ cs b, oj.op ≠ .select cs b)
    (hQ : ∀ c a w, Q (.panic c) (a.put oi.dst v) w → Q (.panic c) a w) {K : Act → World → Prop} {a : Act} {w : World} (h : wpOpIn F n P ops Q j K (a.put oi.dst v) w) :
    wpOpIn F n P ops Q j (fun a' w' => (∃ u ds, a' = Act.put { a with defers := ds } oj.dst u) ∧ K (a'.put oi.dst v) w') a w := by
  obtain ⟨h1, h2, _⟩ := Oper.apart_spec hap
  have com : ∀ (b : Act) (u : Value), (b.put oj.dst u).put oi.dst v = (b.put oi.dst v).put oj.dst u := fun b u => (Act.put_comm b v u h2).symm
  unfold wpOpIn at *
  simp only [hj] at *
  rw [wanted_put oj a oi.dst v h1, about_put oj w a oi.dst v h1] at h
  by_cases hw : Region.wanted oj (yielded ops a.tmps) = true
  · rw [if_pos hw] at h ⊢
    unfold Oper.wpIn at *
    rw [about_put oj w a oi.dst v h1, hro, Oper.semAt_none, execOp_put oj hsj a oi.dst v h1] at h
    rw [hro, Oper.semAt_none]
    refine ⟨h.1, ?_⟩
    obtain ⟨-, h⟩ := h
    have land : ∀ u (w' : World), K ((a.put oi.dst v).put oj.dst u) w' → (∃ u' ds, a.put oj.dst u = Act.put { a with defers := ds } oj.dst u') ∧ K ((a.put oj.dst u).put oi.dst v) w' := fun u w' hk => ⟨⟨u, a.defers, rfl⟩, by rw [com]; exact hk⟩
    generalize (execOp a.eval oj).run P w = r at h ⊢
    cases r with
    | ok x w' =>
      cases x <;> simp only [Oper.uponIn] at h ⊢
      case value u => exact land u w' h
      case skip => exact land _ w' h
      case defer d => exact ⟨⟨undef, d :: a.defers, rfl⟩, by rw [com, ← Act.put_defers]; exact h⟩
      case enter f args => exact ⟨h.1, h.2.mono fun e w'' he => by cases e <;> first | exact land _ _ he | exact hQ _ _ _ he | exact he⟩
      case row row args => exact ⟨h.1, h.2.mono fun u w'' he => land u w'' he⟩
      case round l f tmps assign body => exact ⟨h.1, h.2.mono fun e w'' he => by cases e <;> first | exact land _ _ he | exact hQ _ _ _ he | exact he⟩
    | halt x w' => cases x <;> simp only [Oper.uponIn] at h ⊢ <;> first | exact hQ _ _ _ h | exact h
  · rw [if_neg hw] at h ⊢
    exact ⟨h.1, ⟨undef, a.defers, rfl⟩, by rw [com]; exact h.2⟩

/-- An operation that may come up now, and yields the same in every world of C, may be taken first. -/
theorem wpAnyC_first {i : Nat} {oi : Oper} {v : Value} (hro : F.round = none) (hi : ops[i]? = some oi) (hsel : ∀ (j : Nat) (o : Oper) cs b, ops[j]? = some o → o.op ≠ .select cs b)
    (hQ : ∀ c a w, Q (.panic c) (a.put oi.dst v) w → Q (.panic c) a w) : ∀ (fuel : Nat) (listed : Array Bool) (a : Act) (w : World), C w →
      (∀ j oj, ops[j]? = some oj → j ≠ i → listed.getD j true = false → (∀ e ∈ oj.after, Region.binds md e = true → e.on ≠ i) → oi.apart ops oj = true) →
      i ∈ Region.ready md ops listed → YieldsC P ops C oi v a → wpAnyC F n P md ops C Q fuel (listed.setIfInBounds i true) (a.put oi.dst v) w → wpAnyC F n P md ops C Q (fuel + 1) listed a w := by
  have mine : ∀ (fuel : Nat) (listed : Array Bool) (a : Act) (w : World), C w → YieldsC P ops C oi v a → wpAnyC F n P md ops C Q fuel (listed.setIfInBounds i true) (a.put oi.dst v) w →
      wpOpIn F n P ops Q i (fun a' w' => C w' ∧ wpAnyC F n P md ops C Q fuel (listed.setIfInBounds i true) a' w') a w := fun fuel listed a w hC hy H => by
    obtain ⟨hab, hrun⟩ := hy.2 w hC
    unfold wpOpIn
    simp only [hi]
    rw [if_pos hy.1]
    unfold Oper.wpIn
    rw [hro, Oper.semAt_none, hrun, hab]
    exact ⟨(fun f hf => by cases hf), hC, H⟩
  intro fuel
  induction fuel with
  | zero =>
    intro listed a w hC _ hr hy H
    refine ⟨(fun h => by rw [h] at hr; cases hr), fun j hj => ?_⟩
    by_cases hji : j = i
    · subst hji; exact mine 0 listed a w hC hy H
    · have := ready_mono hj hji
      rw [H.1] at this; cases this
  | succ fuel ih =>
    intro listed a w hC hfree hr hy H
    refine ⟨(fun h => by rw [h] at hr; cases hr), fun j hj => ?_⟩
    by_cases hji : j = i
    · subst hji; exact mine _ listed a w hC hy H
    · obtain ⟨hjun, oj, hoj, hall⟩ := mem_ready.1 hj
      have hnot : ∀ e ∈ oj.after, Region.binds md e = true → e.on ≠ i := fun e he hb heq => by
        have h1 := hall e he hb
        have h0 := (mem_ready.1 hr).1
        rw [heq] at h1
        by_cases h' : i < listed.size
        · simp [h'] at h0 h1; rw [h0] at h1; cases h1
        · simp [Array.getElem?_eq_none (Nat.le_of_not_lt h')] at h1
      have hap := hfree j oj hoj hji hjun hnot
      obtain ⟨_, _, h3⟩ := Oper.apart_spec hap
      refine wpOpIn_mono ?_ (wpOpIn_beside hro hoj hap (fun cs b => hsel j oj cs b hoj) hQ (H.2 j (ready_mono hj hji)))
      rintro a' w' ⟨⟨u, ds, rfl⟩, hC', H'⟩
      refine ⟨hC', ih _ _ _ hC' (fun k ok hk hki hun hno => hfree k ok hk hki ?_ hno) (ready_mono hr (Ne.symm hji)) ⟨?_, fun x hx => ?_⟩ (by rw [Array.setIfInBounds_comm _ _ hji]; exact H')⟩
      · by_cases hjk : j = k
        · subst hjk; exact hjun
        · rwa [getD_set_ne true hjk] at hun
      · rw [wanted_put oi _ oj.dst u h3]; exact hy.1
      · rw [about_put oi x _ oj.dst u h3, execOp_put oi (fun cs b => hsel i oi cs b hi) _ oj.dst u h3]
        exact hy.2 x hx

theorem wpAnyC_take {i : Nat} {oi : Oper} {v : Value} {fuel : Nat} {listed : Array Bool} {a : Act} {w : World} (hC : C w) (hro : F.round = none) (hi : ops[i]? = some oi) (hs : Region.noSelect ops = true) (hf : Region.free md ops listed i = true) (hr : (Region.ready md ops listed).contains i = true)
    (hQ : ∀ c a w, Q (.panic c) (a.put oi.dst v) w → Q (.panic c) a w) (hy : YieldsC P ops C oi v a) (h : wpAnyC F n P md ops C Q fuel (listed.setIfInBounds i true) (a.put oi.dst v) w) : wpAnyC F n P md ops C Q (fuel + 1) listed a w :=
  wpAnyC_first hro hi (Region.noSelect_spec hs) hQ fuel listed a w hC (Region.free_spec hi hf) (by simpa using hr) hy h
/-- One alone may come up. -/
theorem wpAnyC_one {i : Nat} {oi : Oper} {fuel : Nat} {listed : Array Bool} {a : Act} {w : World} (hr : Region.ready md ops listed = [i]) (hi : ops[i]? = some oi) (hw : Region.wanted oi (yielded ops a.tmps) = true)
    (h : ∀ K : Act → World → Prop, (∀ a' w', C w' → wpAnyC F n P md ops C Q fuel (listed.setIfInBounds i true) a' w' → K a' w') → oi.wpIn F n P a w K Q) : wpAnyC F n P md ops C Q (fuel + 1) listed a w := by
  refine ⟨(fun h0 => by rw [h0] at hr; cases hr), fun j hj => ?_⟩
  rw [hr, List.mem_singleton] at hj
  subst hj
  unfold wpOpIn
  simp only [hi]
  rw [if_pos hw]
  exact h _ fun a' w' hC hk => ⟨hC, hk⟩
theorem wpAnyC_done {listed : Array Bool} {a : Act} {w : World} (hr : Region.ready md ops listed = []) (h : Q .normal a w) : ∀ fuel, wpAnyC F n P md ops C Q fuel listed a w
  | 0 => ⟨hr, h⟩
  | _ + 1 => ⟨fun _ => h, by rw [hr]; simp⟩
end

end Go.Proofs.YtiohpcnnpmnjhaaGreatDoor

namespace Go.Proofs.YtiohpcnnpmnjhaaGreatDoor
open Go.RowKit Go.Shelf
set_option linter.unusedVariables false
attribute [local go_sem] Oper.semAt_some

/-- What moveTo answers. -/
def moveV (dx dy : Int) (A B : List Cel) : Value := if A.map (sh dx dy) = B then .tuple #[.agg #[.int .i64 dx, .int .i64 dy], .bool true] else .tuple #[.agg #[.int .i64 0, .int .i64 0], .bool false]
/-- What the rounds leave. -/
structure MInv (w : World) (N : Nat) (dx dy : Int) (vp vq : Value) (B pre : List Cel) (W : World) : Prop where
  b0 : W.heap[w.heap.size]? = some (.cells #[vq] 71 (0, 0))
  b1 : W.heap[w.heap.size + 1]? = some (.cells #[.int .i64 0, .int .i64 0] 113 (0, 0))
  b2 : W.heap[w.heap.size + 2]? = some (.cells #[.bool false] 4 (0, 0))
  b3 : W.heap[w.heap.size + 3]? = some (.cells #[.int .i64 dx, .int .i64 dy] 113 (0, 0))
  bi : W.heap[N]? = some (.cells #[.int .i64 (pre.length : Int)] 3 (0, 0))
  c1 : W.heap[N + 1]? = some (.cells #[vp] 71 (0, 0))
  c2 : W.heap[N + 2]? = some (.cells #[.int .i64 dx, .int .i64 dy] 113 (0, 0))
  be : Below w.heap.size w W
  eq : pre = B.take pre.length
/-- What a round leaves that ends them. -/
structure MEnd (w : World) (B pre : List Cel) (W : World) : Prop where
  b1 : W.heap[w.heap.size + 1]? = some (.cells #[.int .i64 0, .int .i64 0] 113 (0, 0))
  b2 : W.heap[w.heap.size + 2]? = some (.cells #[.bool false] 4 (0, 0))
  be : Below w.heap.size w W
  no : ∃ q c, pre = q ++ [c] ∧ B[q.length]? ≠ some c

set_option maxRecDepth 100000 in
set_option maxHeartbeats 1600000 in
theorem moveTo_in (g h cap cbp : Nat) (x y u v dx dy : Int) (HX : Hid (u - x = dx)) (HY : Hid (v - y = dy)) (A B : List Cel) (w : World) (hA : CellsAt w g A) (hg : g < w.heap.size) (hB : CellsAt w h B) (hh : h < w.heap.size) (hl : A.length ≤ 1000000) (hlb : B.length = A.length)
    (h0 : A[0]? = some (x, y)) (h1 : B[0]? = some (u, v)) (hF : Fits dx dy A) (hx : -9223372036854775808 ≤ dx ∧ dx ≤ 9223372036854775807) (hy : -9223372036854775808 ≤ dy ∧ dy ≤ 9223372036854775807) :
    CallsIn Fence.wide 5 Tryz.prog 124 #[.slice (some ⟨g, 0, none⟩) A.length cap, .slice (some ⟨h, 0, none⟩) A.length cbp] w fun e w' => e = .returned (moveV dx dy A B) ∧ Below w.heap.size w w' := by
  have hwx : IntKind.i64.wrap (u - x) = dx := by rw [HX.out]; simp [IntKind.wrap, IntKind.bits, IntKind.signed]; omega
  have hwy : IntKind.i64.wrap (v - y) = dy := by rw [HY.out]; simp [IntKind.wrap, IntKind.bits, IntKind.signed]; omega
  have hpos : 0 < A.length := by
    cases A with
    | nil => simp at h0
    | cons => simp
  have hz : ((A.length : Int) == 0) = false := by have : ¬ (A.length : Int) = 0 := by omega
                                                  simpa using this
  have hpi : (0 : Int) < (A.length : Int) := by omega
  have hb3 : Below w.heap.size w (((w.alloc (.cells #[.slice (some ⟨h, 0, none⟩) A.length cbp] 71)).alloc (.cells #[.int .i64 0, .int .i64 0] 113)).alloc (.cells #[.bool false] 4)) := (((Below.refl _ _).alloc (Nat.le_refl _) _).alloc (by simp) _).alloc (by simp only [World.size_alloc]; omega) _
  have s3 : (((w.alloc (.cells #[.slice (some ⟨h, 0, none⟩) A.length cbp] 71)).alloc (.cells #[.int .i64 0, .int .i64 0] 113)).alloc (.cells #[.bool false] 4)).heap.size = w.heap.size + 3 := by simp
  have t0 := blk_old (blk_old (blk_new w (.cells #[.slice (some ⟨h, 0, none⟩) A.length cbp] 71)) (.cells #[.int .i64 0, .int .i64 0] 113)) (.cells #[.bool false] 4)
  have t1 := blk_old (blk_new (w.alloc (.cells #[.slice (some ⟨h, 0, none⟩) A.length cbp] 71)) (.cells #[.int .i64 0, .int .i64 0] 113)) (.cells #[.bool false] 4)
  have t2 := blk_new ((w.alloc (.cells #[.slice (some ⟨h, 0, none⟩) A.length cbp] 71)).alloc (.cells #[.int .i64 0, .int .i64 0] 113)) (.cells #[.bool false] 4)
  simp only [World.size_alloc, Nat.add_assoc, Nat.reduceAdd] at t0 t1 t2
  refine callsIn_of_wp_marks Tryz.func124 rfl trivial ?_ rfl
  simp only [Tryz.ntmps124, List.size_toArray, List.length_cons, List.length_nil, Nat.reduceAdd, Nat.reduceSub, Array.replicate_succ, Array.replicate_zero, List.push_toArray, List.append_toArray, List.nil_append, List.cons_append]
  gi_wp2
  generalize (((w.alloc (.cells #[.slice (some ⟨h, 0, none⟩) A.length cbp] 71)).alloc (.cells #[.int .i64 0, .int .i64 0] 113)).alloc (.cells #[.bool false] 4)) = W3 at *
  obtain ⟨e0, e1⟩ := (hA.below hb3 hg).get 0 _ h0
  obtain ⟨f0, f1⟩ := (hB.below hb3 hh).get 0 _ h1
  simp only [Nat.zero_mul, Nat.zero_add] at e0 e1 f0 f1
  have c0 := cell_of t0 0
  have hgl : g < W3.heap.size := Nat.lt_of_lt_of_le hg hb3.size
  have hhl : h < W3.heap.size := Nat.lt_of_lt_of_le hh hb3.size
  have hal : ∀ (b j : Nat), b < W3.heap.size → (W3.alloc (.cells #[.int .i64 0, .int .i64 0] 113)).cell? ⟨b, j, none⟩ = W3.cell? ⟨b, j, none⟩ := fun b j hb => by
    simp only [World.cell?]
    rw [Below.heap_alloc W3 _ _ hb]
  have e0' := (hal g 0 hgl).trans e0
  have e1' := (hal g 1 hgl).trans e1
  have f0' := (hal h 0 hhl).trans f0
  have f1' := (hal h 1 hhl).trans f1
  have c0' := (hal w.heap.size 0 (by omega)).trans c0
  clear hal
  try simp only at e0 e1 f0 f1 e0' e1' f0' f1'
  clear e0' e1' f0' f1' c0'
  refine wpIn_mono (Q := fun e a' w' => e = .normal ∧ a' = { tmps := List.toArray ((.slice (some ⟨g, 0, none⟩) A.length cap : Value) :: (.slice (some ⟨h, 0, none⟩) A.length cbp : Value) :: undef :: (.pointer (some ⟨w.heap.size, 0, none⟩) : Value) :: (.pointer (some ⟨w.heap.size + 1, 0, none⟩) : Value) :: (.pointer (some ⟨w.heap.size + 1 + 1, 0, none⟩) : Value) :: (.pointer (some ⟨w.heap.size + 3, 0, none⟩) : Value) :: undef :: undef :: (.slice (some ⟨g, 0, none⟩) A.length cap : Value) :: (.int .i64 (A.length : Int) : Value) :: (.slice (some ⟨h, 0, none⟩) A.length cbp : Value) :: (.int .i64 (A.length : Int) : Value) :: (.bool false : Value) :: undef :: (.slice (some ⟨g, 0, none⟩) A.length cap : Value) :: (.int .i64 (A.length : Int) : Value) :: (.bool false : Value) :: undef :: (.slice (some ⟨h, 0, none⟩) A.length cbp : Value) :: (.pointer (some ⟨h, 0, none⟩) : Value) :: (.pointer (some ⟨h, 0, none⟩) : Value) :: (.int .i64 (u) : Value) :: (.slice (some ⟨g, 0, none⟩) A.length cap : Value) :: (.pointer (some ⟨g, 0, none⟩) : Value) :: (.pointer (some ⟨g, 0, none⟩) : Value) :: (.int .i64 (x) : Value) :: (.int .i64 dx : Value) :: (.slice (some ⟨h, 0, none⟩) A.length cbp : Value) :: (.pointer (some ⟨h, 0, none⟩) : Value) :: (.pointer (some ⟨h, 1, none⟩) : Value) :: (.int .i64 (v) : Value) :: (.slice (some ⟨g, 0, none⟩) A.length cap : Value) :: (.pointer (some ⟨g, 0, none⟩) : Value) :: (.pointer (some ⟨g, 1, none⟩) : Value) :: (.int .i64 (y) : Value) :: (.int .i64 dy : Value) :: (.agg #[.int .i64 dx, .int .i64 dy] : Value) :: undef :: undef :: undef :: undef :: undef :: undef :: undef :: undef :: undef :: undef :: undef :: undef :: undef :: undef :: []), defers := [] } ∧ Below W3.heap.size W3 w' ∧ w'.heap[w.heap.size + 3]? = some (.cells #[.int .i64 dx, .int .i64 dy] 113 (0, 0))) ?_ ?_
  · refine wpIn_region_any (by kernel_rfl) (wpAnyC.any (C := fun W => W.cell? ⟨w.heap.size, 0, none⟩ = some (.slice (some ⟨h, 0, none⟩) A.length cbp) ∧ W.cell? ⟨g, 0, none⟩ = some (.int .i64 x) ∧ W.cell? ⟨g, 1, none⟩ = some (.int .i64 y) ∧ W.cell? ⟨h, 0, none⟩ = some (.int .i64 u) ∧ W.cell? ⟨h, 1, none⟩ = some (.int .i64 v)) ?_)
    change wpAnyC _ _ _ _ _ _ _ _ _ _ (World.drew _)
    have hC : W3.drew.cell? ⟨w.heap.size, 0, none⟩ = some (.slice (some ⟨h, 0, none⟩) A.length cbp) ∧ W3.drew.cell? ⟨g, 0, none⟩ = some (.int .i64 x) ∧ W3.drew.cell? ⟨g, 1, none⟩ = some (.int .i64 y) ∧ W3.drew.cell? ⟨h, 0, none⟩ = some (.int .i64 u) ∧ W3.drew.cell? ⟨h, 1, none⟩ = some (.int .i64 v) := ⟨c0, e0, e1, f0, f1⟩
    clear hA hB hF
    refine wpAnyC_take (i := 0) (v := (.slice (some ⟨h, 0, none⟩) A.length cbp : Value)) hC rfl rfl (by kernel_rfl) (by kernel_rfl) (by kernel_rfl) (fun _ _ _ h => nomatch h.1) ⟨by rfl, fun W hW => ⟨rfl, by obtain ⟨k0, k1, k2, k3, k4⟩ := hW; go_simp⟩⟩ ?_
    refine wpAnyC_take (i := 1) (v := (.pointer (some ⟨h, 0, none⟩) : Value)) hC rfl rfl (by kernel_rfl) (by kernel_rfl) (by kernel_rfl) (fun _ _ _ h => nomatch h.1) ⟨by rfl, fun W hW => ⟨rfl, by obtain ⟨k0, k1, k2, k3, k4⟩ := hW; go_simp⟩⟩ ?_
    refine wpAnyC_take (i := 2) (v := (.pointer (some ⟨h, 0, none⟩) : Value)) hC rfl rfl (by kernel_rfl) (by kernel_rfl) (by kernel_rfl) (fun _ _ _ h => nomatch h.1) ⟨by rfl, fun W hW => ⟨rfl, by obtain ⟨k0, k1, k2, k3, k4⟩ := hW; go_simp⟩⟩ ?_
    refine wpAnyC_take (i := 3) (v := (.int .i64 (u) : Value)) hC rfl rfl (by kernel_rfl) (by kernel_rfl) (by kernel_rfl) (fun _ _ _ h => nomatch h.1) ⟨by rfl, fun W hW => ⟨rfl, by obtain ⟨k0, k1, k2, k3, k4⟩ := hW; go_simp⟩⟩ ?_
    refine wpAnyC_take (i := 4) (v := (.slice (some ⟨g, 0, none⟩) A.length cap : Value)) hC rfl rfl (by kernel_rfl) (by kernel_rfl) (by kernel_rfl) (fun _ _ _ h => nomatch h.1) ⟨by rfl, fun W hW => ⟨rfl, by obtain ⟨k0, k1, k2, k3, k4⟩ := hW; go_simp⟩⟩ ?_
    refine wpAnyC_take (i := 5) (v := (.pointer (some ⟨g, 0, none⟩) : Value)) hC rfl rfl (by kernel_rfl) (by kernel_rfl) (by kernel_rfl) (fun _ _ _ h => nomatch h.1) ⟨by rfl, fun W hW => ⟨rfl, by obtain ⟨k0, k1, k2, k3, k4⟩ := hW; go_simp⟩⟩ ?_
    refine wpAnyC_take (i := 6) (v := (.pointer (some ⟨g, 0, none⟩) : Value)) hC rfl rfl (by kernel_rfl) (by kernel_rfl) (by kernel_rfl) (fun _ _ _ h => nomatch h.1) ⟨by rfl, fun W hW => ⟨rfl, by obtain ⟨k0, k1, k2, k3, k4⟩ := hW; go_simp⟩⟩ ?_
    refine wpAnyC_take (i := 7) (v := (.int .i64 (x) : Value)) hC rfl rfl (by kernel_rfl) (by kernel_rfl) (by kernel_rfl) (fun _ _ _ h => nomatch h.1) ⟨by rfl, fun W hW => ⟨rfl, by obtain ⟨k0, k1, k2, k3, k4⟩ := hW; go_simp⟩⟩ ?_
    refine wpAnyC_take (i := 8) (v := (.int .i64 dx : Value)) hC rfl rfl (by kernel_rfl) (by kernel_rfl) (by kernel_rfl) (fun _ _ _ h => nomatch h.1) ⟨by rfl, fun W hW => ⟨rfl, by obtain ⟨k0, k1, k2, k3, k4⟩ := hW; go_simp⟩⟩ ?_
    refine wpAnyC_take (i := 9) (v := (.slice (some ⟨h, 0, none⟩) A.length cbp : Value)) hC rfl rfl (by kernel_rfl) (by kernel_rfl) (by kernel_rfl) (fun _ _ _ h => nomatch h.1) ⟨by rfl, fun W hW => ⟨rfl, by obtain ⟨k0, k1, k2, k3, k4⟩ := hW; go_simp⟩⟩ ?_
    refine wpAnyC_take (i := 10) (v := (.pointer (some ⟨h, 0, none⟩) : Value)) hC rfl rfl (by kernel_rfl) (by kernel_rfl) (by kernel_rfl) (fun _ _ _ h => nomatch h.1) ⟨by rfl, fun W hW => ⟨rfl, by obtain ⟨k0, k1, k2, k3, k4⟩ := hW; go_simp⟩⟩ ?_
    refine wpAnyC_take (i := 11) (v := (.pointer (some ⟨h, 1, none⟩) : Value)) hC rfl rfl (by kernel_rfl) (by kernel_rfl) (by kernel_rfl) (fun _ _ _ h => nomatch h.1) ⟨by rfl, fun W hW => ⟨rfl, by obtain ⟨k0, k1, k2, k3, k4⟩ := hW; go_simp⟩⟩ ?_
    refine wpAnyC_take (i := 12) (v := (.int .i64 (v) : Value)) hC rfl rfl (by kernel_rfl) (by kernel_rfl) (by kernel_rfl) (fun _ _ _ h => nomatch h.1) ⟨by rfl, fun W hW => ⟨rfl, by obtain ⟨k0, k1, k2, k3, k4⟩ := hW; go_simp⟩⟩ ?_
    refine wpAnyC_take (i := 13) (v := (.slice (some ⟨g, 0, none⟩) A.length cap : Value)) hC rfl rfl (by kernel_rfl) (by kernel_rfl) (by kernel_rfl) (fun _ _ _ h => nomatch h.1) ⟨by rfl, fun W hW => ⟨rfl, by obtain ⟨k0, k1, k2, k3, k4⟩ := hW; go_simp⟩⟩ ?_
    refine wpAnyC_take (i := 14) (v := (.pointer (some ⟨g, 0, none⟩) : Value)) hC rfl rfl (by kernel_rfl) (by kernel_rfl) (by kernel_rfl) (fun _ _ _ h => nomatch h.1) ⟨by rfl, fun W hW => ⟨rfl, by obtain ⟨k0, k1, k2, k3, k4⟩ := hW; go_simp⟩⟩ ?_
    refine wpAnyC_take (i := 15) (v := (.pointer (some ⟨g, 1, none⟩) : Value)) hC rfl rfl (by kernel_rfl) (by kernel_rfl) (by kernel_rfl) (fun _ _ _ h => nomatch h.1) ⟨by rfl, fun W hW => ⟨rfl, by obtain ⟨k0, k1, k2, k3, k4⟩ := hW; go_simp⟩⟩ ?_
    refine wpAnyC_take (i := 16) (v := (.int .i64 (y) : Value)) hC rfl rfl (by kernel_rfl) (by kernel_rfl) (by kernel_rfl) (fun _ _ _ h => nomatch h.1) ⟨by rfl, fun W hW => ⟨rfl, by obtain ⟨k0, k1, k2, k3, k4⟩ := hW; go_simp⟩⟩ ?_
    refine wpAnyC_take (i := 17) (v := (.int .i64 dy : Value)) hC rfl rfl (by kernel_rfl) (by kernel_rfl) (by kernel_rfl) (fun _ _ _ h => nomatch h.1) ⟨by rfl, fun W hW => ⟨rfl, by obtain ⟨k0, k1, k2, k3, k4⟩ := hW; go_simp⟩⟩ ?_
    refine wpAnyC_take (i := 18) (v := (.agg #[.int .i64 dx, .int .i64 dy] : Value)) hC rfl rfl (by kernel_rfl) (by kernel_rfl) (by kernel_rfl) (fun _ _ _ h => nomatch h.1) ⟨by rfl, fun W hW => ⟨rfl, by obtain ⟨k0, k1, k2, k3, k4⟩ := hW; go_simp⟩⟩ ?_
    have n0 : (W3.alloc (.cells #[.int .i64 0, .int .i64 0] 113)).drew.heap[w.heap.size + 3]? = some (.cells #[.int .i64 0, .int .i64 0] 113 (0, 0)) := by
      have := blk_new W3 (.cells #[.int .i64 0, .int .i64 0] 113)
      rwa [s3] at this
    have m0 := cell_of n0 0
    have m1 := cell_of n0 1
    have y0 := frz_of n0 0
    have y1 := frz_of n0 1
    have hab : ∀ (b j : Nat), b < W3.heap.size → (W3.alloc (.cells #[.int .i64 0, .int .i64 0] 113)).drew.cell? ⟨b, j, none⟩ = W3.cell? ⟨b, j, none⟩ := fun b j hb => World.cell?_of_block (Below.heap_alloc W3 _ _ hb)
    refine wpAnyC_one (i := 19) (by kernel_rfl) rfl (by rfl) (fun K hK => ?_)
    go_simp
    refine hK _ _ ⟨(hab _ _ (by omega)).trans c0, (hab _ _ hgl).trans e0, (hab _ _ hgl).trans e1, (hab _ _ hhl).trans f0, (hab _ _ hhl).trans f1⟩ ?_
    clear hK K
    refine wpAnyC_one (i := 20) (by kernel_rfl) rfl (by rfl) (fun K hK => ?_)
    go_simp
    have hoth : ∀ (b j : Nat), b < W3.heap.size → (W3.alloc (.cells #[.int .i64 dx, .int .i64 dy] 113)).drew.cell? ⟨b, j, none⟩ = W3.cell? ⟨b, j, none⟩ := fun b j hb => World.cell?_of_block (Below.heap_alloc W3 _ _ hb)
    have n5 : (W3.alloc (.cells #[.int .i64 dx, .int .i64 dy] 113)).drew.heap[w.heap.size + 3]? = some (.cells #[.int .i64 dx, .int .i64 dy] 113 (0, 0)) := by
      have := blk_new W3 (.cells #[.int .i64 dx, .int .i64 dy] 113)
      rwa [s3] at this
    refine hK _ _ ⟨(hoth _ _ (by omega)).trans c0, (hoth _ _ hgl).trans e0, (hoth _ _ hgl).trans e1, (hoth _ _ hhl).trans f0, (hoth _ _ hhl).trans f1⟩ ?_
    clear hK K
    exact wpAnyC_done (by kernel_rfl) ⟨rfl, rfl, ((Below.refl _ W3).alloc (Nat.le_refl _) _).drew, n5⟩ _
  rintro e a' W5 ⟨rfl, rfl, hb5, b5⟩
  have r0 := (hb5.block _ (blk_lt t0)).trans t0
  have r1 := (hb5.block _ (blk_lt t1)).trans t1
  have r2 := (hb5.block _ (blk_lt t2)).trans t2
  have be5 : Below w.heap.size w W5 := hb3.trans (hb5.mono (by omega))
  have hN5 : w.heap.size + 3 < W5.heap.size := blk_lt b5
  clear e0 e1 f0 f1 c0 t0 t1 t2 hb3 hb5 hgl hhl s3
  have d0 := cell_of b5 0
  have d1 := cell_of b5 1
  have d0' : (W5.alloc (.cells #[.int .i64 0] 3)).cell? ⟨w.heap.size + 3, 0, none⟩ = some (.int .i64 dx) := (World.cell?_of_block (Below.heap_alloc W5 _ _ hN5)).trans d0
  have d1' : (W5.alloc (.cells #[.int .i64 0] 3)).cell? ⟨w.heap.size + 3, 1, none⟩ = some (.int .i64 dy) := (World.cell?_of_block (Below.heap_alloc W5 _ _ hN5)).trans d1
  clear d0 d1 hwx hwy
  gi_wp2_with (refine ⟨trivial, ?_⟩; gi_at_call 113; refine (callsIn_wide.2 (moved_any (some ⟨g, 0, none⟩) A.length cap dx dy _)).mono ?_; rintro e w1 ⟨rfl, rfl⟩)
  have ui := blk_old (blk_old (blk_new W5 (.cells #[.int .i64 0] 3)) (.cells #[.slice (some ⟨g, 0, none⟩) A.length cap] 71)) (.cells #[.int .i64 dx, .int .i64 dy] 113)
  have u1 := blk_old (blk_new (W5.alloc (.cells #[.int .i64 0] 3)) (.cells #[.slice (some ⟨g, 0, none⟩) A.length cap] 71)) (.cells #[.int .i64 dx, .int .i64 dy] 113)
  have u2 := blk_new ((W5.alloc (.cells #[.int .i64 0] 3)).alloc (.cells #[.slice (some ⟨g, 0, none⟩) A.length cap] 71)) (.cells #[.int .i64 dx, .int .i64 dy] 113)
  simp only [World.size_alloc, Nat.add_assoc, Nat.reduceAdd] at u1 u2
  have b6 : Below W5.heap.size W5 (((W5.alloc (.cells #[.int .i64 0] 3)).alloc (.cells #[.slice (some ⟨g, 0, none⟩) A.length cap] 71)).alloc (.cells #[.int .i64 dx, .int .i64 dy] 113)) := (((Below.refl _ W5).alloc (Nat.le_refl _) _).alloc (by simp) _).alloc (by simp; omega) _
  have z6 : W5.heap.size + 3 ≤ (((W5.alloc (.cells #[.int .i64 0] 3)).alloc (.cells #[.slice (some ⟨g, 0, none⟩) A.length cap] 71)).alloc (.cells #[.int .i64 dx, .int .i64 dy] 113)).heap.size := by simp
  have q0 := (b6.block _ (blk_lt r0)).trans r0
  have q1 := (b6.block _ (blk_lt r1)).trans r1
  have q2 := (b6.block _ (blk_lt r2)).trans r2
  have q3 := (b6.block _ (blk_lt b5)).trans b5
  have be6 : Below w.heap.size w (((W5.alloc (.cells #[.int .i64 0] 3)).alloc (.cells #[.slice (some ⟨g, 0, none⟩) A.length cap] 71)).alloc (.cells #[.int .i64 dx, .int .i64 dy] 113)) := be5.trans (b6.mono be5.size)
  clear r0 r1 r2 b5 b6 d0' d1'
  generalize (((W5.alloc (.cells #[.int .i64 0] 3)).alloc (.cells #[.slice (some ⟨g, 0, none⟩) A.length cap] 71)).alloc (.cells #[.int .i64 dx, .int .i64 dy] 113)) = W6 at *
  have heq := fun a b c d w => eqIn_cell2 a b c d w
  have hmix : Tryz.prog.follows .mixedOrders = true := by kernel_rfl
  have HLB : Hid (B.length = A.length) := hlb
  clear hlb h0 h1
  refine wpIn_rangeFunc_ownH (encs := fun c : OfC dx dy A => encC c.1) (N := A.length) (S := fun xs : List (OfC dx dy A) => xs.map (·.1) = A.map (sh dx dy)) (Sp := fun pre : List (OfC dx dy A) => pre.map (·.1) <+: A.map (sh dx dy)) (Kp := KpG g (W5.heap.size + 1)) rfl (by omega) (gf := 131) (lb := #[.pointer (some ⟨W5.heap.size + 1, 0, none⟩), .pointer (some ⟨W5.heap.size + 1 + 1, 0, none⟩)]) rfl trivial (enters_of Tryz.func131 (by kernel_rfl) rfl) ?seq KpG.trans ?kb (Below.refl _ _) (fun _ => rfl)
    (fun pre W => MInv w W5.heap.size dx dy (.slice (some ⟨g, 0, none⟩) A.length cap) (.slice (some ⟨h, 0, none⟩) A.length cbp) B (pre.map (·.1)) W)
    (fun c pre W => c = .ret ∧ MEnd w B (pre.map (·.1)) W) ?hI ?hIx ?h0
    (fun c a' W => ∃ Bx, W.heap[Bx]? = some (.cells #[.int .i64 c.1.1, .int .i64 c.1.2] 113 (0, 0)) ∧ W5.heap.size + 2 < Bx ∧ a' = { tmps := List.toArray ((.slice (some ⟨g, 0, none⟩) A.length cap : Value) :: (.slice (some ⟨h, 0, none⟩) A.length cbp : Value) :: undef :: (.pointer (some ⟨w.heap.size, 0, none⟩) : Value) :: (.pointer (some ⟨w.heap.size + 1, 0, none⟩) : Value) :: (.pointer (some ⟨w.heap.size + 1 + 1, 0, none⟩) : Value) :: (.pointer (some ⟨w.heap.size + 3, 0, none⟩) : Value) :: (.pointer (some ⟨W5.heap.size, 0, none⟩) : Value) :: (.pointer (some ⟨Bx, 0, none⟩) : Value) :: (.slice (some ⟨g, 0, none⟩) A.length cap : Value) :: (.int .i64 (A.length : Int) : Value) :: (.slice (some ⟨h, 0, none⟩) A.length cbp : Value) :: (.int .i64 (A.length : Int) : Value) :: (.bool false : Value) :: undef :: (.slice (some ⟨g, 0, none⟩) A.length cap : Value) :: (.int .i64 (A.length : Int) : Value) :: (.bool false : Value) :: undef :: (.slice (some ⟨h, 0, none⟩) A.length cbp : Value) :: (.pointer (some ⟨h, 0, none⟩) : Value) :: (.pointer (some ⟨h, 0, none⟩) : Value) :: (.int .i64 u : Value) :: (.slice (some ⟨g, 0, none⟩) A.length cap : Value) :: (.pointer (some ⟨g, 0, none⟩) : Value) :: (.pointer (some ⟨g, 0, none⟩) : Value) :: (.int .i64 x : Value) :: (.int .i64 dx : Value) :: (.slice (some ⟨h, 0, none⟩) A.length cbp : Value) :: (.pointer (some ⟨h, 0, none⟩) : Value) :: (.pointer (some ⟨h, 1, none⟩) : Value) :: (.int .i64 v : Value) :: (.slice (some ⟨g, 0, none⟩) A.length cap : Value) :: (.pointer (some ⟨g, 0, none⟩) : Value) :: (.pointer (some ⟨g, 1, none⟩) : Value) :: (.int .i64 y : Value) :: (.int .i64 dy : Value) :: (.agg #[.int .i64 dx, .int .i64 dy] : Value) :: (.slice (some ⟨g, 0, none⟩) A.length cap : Value) :: (.agg #[.int .i64 dx, .int .i64 dy] : Value) :: (.func (.func 131) #[] #[.pointer (some ⟨W5.heap.size + 1, 0, none⟩), .pointer (some ⟨W5.heap.size + 1 + 1, 0, none⟩)] : Value) :: (.agg #[.int .i64 c.1.1, .int .i64 c.1.2] : Value) :: undef :: undef :: undef :: undef :: undef :: undef :: undef :: undef :: undef :: undef :: []), defers := [] }) ?hAx ?assign ?body ?done ?stop
  case seq => exact movedG_stops 4 (by omega) (some ⟨g, 0, none⟩) cap (W5.heap.size + 1) g dx dy A W6 (.inr ⟨rfl, hA.below be6 hg, Nat.lt_of_lt_of_le hg be6.size⟩) hl hF u1 u2
  case kb =>
    intro W l o o' hlt hl2 ho hw
    have hgW := be5.size
    exact ⟨World.putObj_heap_other (by omega), World.putObj_heap_other (by omega), World.putObj_heap_other (by omega), by simp⟩
  case hI =>
    rintro pre W W' row ⟨h1, h2, h3, h4, h5, h6, h7, h8, h9⟩ hgr hr
    exact ⟨keepc h1 hgr hr, keepc h2 hgr hr, keepc h3 hgr hr, keepc h4 hgr hr, keepc h5 hgr hr, keepc h6 hgr hr, keepc h7 hgr hr, keepw h8 (Nat.le_refl _) be6.size hgr hr, h9⟩
  case hIx =>
    rintro c pre W W' row ⟨rfl, h1, h2, h3, h4⟩ hgr hr
    exact ⟨rfl, keepc h1 hgr hr, keepc h2 hgr hr, keepw h3 (Nat.le_refl _) be6.size hgr hr, h4⟩
  case h0 => exact ⟨q0, q1, q2, q3, ui, u1, u2, be6, rfl⟩
  case hAx =>
    rintro c a' _ W W' row ⟨Bx, hx, hne, ha⟩ hgr hr
    exact ⟨Bx, keepc hx hgr hr, hne, ha⟩
  case assign =>
    rintro l pre ⟨c, hc⟩ W K ⟨h1, h2, h3, h4, h5, h6, h7, h8, h9⟩ hK
    simp only [encC]
    gi_wp2
    have hWs : W5.heap.size + 2 < W.heap.size := blk_lt h7
    have hgW : g < W.heap.size := by have := be5.size; omega
    exact hK _ _ ((KeepsOthers.alloc _ _).from _) ⟨Below.heap_alloc W _ _ hgW, Below.heap_alloc W _ _ (blk_lt h6), Below.heap_alloc W _ _ (blk_lt h7), by simp⟩ ⟨blk_old h1 _, blk_old h2 _, blk_old h3 _, blk_old h4 _, blk_old h5 _, blk_old h6 _, blk_old h7 _, h8.alloc h8.size _, h9⟩ ⟨W.heap.size, blk_new W _, hWs, rfl⟩
  case body =>
    rintro l pre ⟨⟨px, py⟩, hp⟩ a' W hl0 hlr ⟨h1, h2, h3, h4, h5, h6, h7, h8, h9⟩ ⟨Bx, ex, hne, rfl⟩ hpl
    simp only at ex
    have x0 := cell_of ex 0
    have x1 := cell_of ex 1
    have y0 := cell_of h1 0
    have i0 := cell_of h5 0
    have iz := frz_of h5 0
    obtain ⟨⟨bx, by'⟩, hbk⟩ : ∃ s, B[pre.length]? = some s := by
      have hlt : pre.length < B.length := by rw [HLB.out]; exact hpl
      exact ⟨B[pre.length], by simp [hlt]⟩
    obtain ⟨k0, k1⟩ := (hB.below h8 hh).get _ _ hbk
    simp only at k0 k1
    have hpm : (pre.map (·.1)).length = pre.length := List.length_map ..
    have hpi2 : (pre.length : Int) < (A.length : Int) := by omega
    have HP : Hid ((pre ++ [(⟨(px, py), hp⟩ : OfC dx dy A)]).map (·.1) = pre.map (·.1) ++ [(px, py)]) := by show _ = _; simp
    have HB : Hid (B[pre.length]? = some (bx, by')) := hbk
    have H9 : Hid (pre.map (·.1) = B.take (pre.map (·.1)).length) := h9
    have HPM : Hid ((pre.map (·.1)).length = pre.length) := hpm
    rw [hpm] at h5 i0
    clear hbk h9 hpm
    have n1 : w.heap.size ≠ W5.heap.size := by omega
    have hBx1 : Bx ≠ W5.heap.size := by omega
    by_cases hce : px = bx ∧ py = by'
    · obtain ⟨rfl, rfl⟩ := hce
      gi_wp2
      refine wpIn_mono (Q := fun e a' w' => e = .normal ∧ a' = { tmps := List.toArray ((.slice (some ⟨g, 0, none⟩) A.length cap : Value) :: (.slice (some ⟨h, 0, none⟩) A.length cbp : Value) :: undef :: (.pointer (some ⟨w.heap.size, 0, none⟩) : Value) :: (.pointer (some ⟨w.heap.size + 1, 0, none⟩) : Value) :: (.pointer (some ⟨w.heap.size + 1 + 1, 0, none⟩) : Value) :: (.pointer (some ⟨w.heap.size + 3, 0, none⟩) : Value) :: (.pointer (some ⟨W5.heap.size, 0, none⟩) : Value) :: (.pointer (some ⟨Bx, 0, none⟩) : Value) :: (.slice (some ⟨g, 0, none⟩) A.length cap : Value) :: (.int .i64 (A.length : Int) : Value) :: (.slice (some ⟨h, 0, none⟩) A.length cbp : Value) :: (.int .i64 (A.length : Int) : Value) :: (.bool false : Value) :: undef :: (.slice (some ⟨g, 0, none⟩) A.length cap : Value) :: (.int .i64 (A.length : Int) : Value) :: (.bool false : Value) :: undef :: (.slice (some ⟨h, 0, none⟩) A.length cbp : Value) :: (.pointer (some ⟨h, 0, none⟩) : Value) :: (.pointer (some ⟨h, 0, none⟩) : Value) :: (.int .i64 u : Value) :: (.slice (some ⟨g, 0, none⟩) A.length cap : Value) :: (.pointer (some ⟨g, 0, none⟩) : Value) :: (.pointer (some ⟨g, 0, none⟩) : Value) :: (.int .i64 x : Value) :: (.int .i64 dx : Value) :: (.slice (some ⟨h, 0, none⟩) A.length cbp : Value) :: (.pointer (some ⟨h, 0, none⟩) : Value) :: (.pointer (some ⟨h, 1, none⟩) : Value) :: (.int .i64 v : Value) :: (.slice (some ⟨g, 0, none⟩) A.length cap : Value) :: (.pointer (some ⟨g, 0, none⟩) : Value) :: (.pointer (some ⟨g, 1, none⟩) : Value) :: (.int .i64 y : Value) :: (.int .i64 dy : Value) :: (.agg #[.int .i64 dx, .int .i64 dy] : Value) :: (.slice (some ⟨g, 0, none⟩) A.length cap : Value) :: (.agg #[.int .i64 dx, .int .i64 dy] : Value) :: (.func (.func 131) #[] #[.pointer (some ⟨W5.heap.size + 1, 0, none⟩), .pointer (some ⟨W5.heap.size + 1 + 1, 0, none⟩)] : Value) :: (.agg #[.int .i64 px, .int .i64 py] : Value) :: (.agg #[.int .i64 px, .int .i64 py] : Value) :: (.slice (some ⟨h, 0, none⟩) A.length cbp : Value) :: (.int .i64 (pre.length : Int) : Value) :: (.pointer (some ⟨h, pre.length * 2, none⟩) : Value) :: (.agg #[.int .i64 px, .int .i64 py] : Value) :: (.bool false : Value) :: undef :: undef :: undef :: undef :: []), defers := [] } ∧ w' = W.drew) ?_ ?_
      · gi_region_with_o (fail)
        all_goals exact ⟨rfl, rfl, rfl⟩
      rintro e a' X ⟨rfl, rfl, rfl⟩
      have i0' : W.drew.cell? ⟨W5.heap.size, 0, none⟩ = some (.int .i64 (pre.length : Int)) := i0
      have iz' : W.drew.frozen? ⟨W5.heap.size, 0, none⟩ = false := iz
      clear x0 x1 y0 i0 iz k0 k1
      gi_wp2
      have hgN : g ≠ W5.heap.size := by have := be5.size; omega
      have g1 : ∀ k, k ≠ W5.heap.size → (W.drew.setCell ⟨W5.heap.size, 0, none⟩ (.int .i64 ((pre.length : Int) + 1))).heap[k]? = W.heap[k]? := fun k hk => Below.heap_setCell W.drew ⟨W5.heap.size, 0, none⟩ _ k hk
      have v0 : W.drew.heap[W5.heap.size]? = some (.cells #[.int .i64 (pre.length : Int)] 3 (0, 0)) := h5
      have hbw : Below w.heap.size w (W.drew.setCell ⟨W5.heap.size, 0, none⟩ (.int .i64 ((pre.length : Int) + 1))) := h8.drew.setCell (p := ⟨W5.heap.size, 0, none⟩) be5.size _
      refine ⟨((KeepsOthers.drew W).trans (KeepsOthers.setCell _ _ _)).from _, ⟨g1 _ hgN, g1 _ (by omega), g1 _ (by omega), by simp [World.setCell]⟩, ?_⟩
      refine ⟨(g1 _ (by omega)).trans h1, (g1 _ (by omega)).trans h2, (g1 _ (by omega)).trans h3, (g1 _ (by omega)).trans h4, ?_, (g1 _ (by omega)).trans h6, (g1 _ (by omega)).trans h7, hbw, ?_⟩
      · have := blk_put (j := 0) v0 (.int .i64 ((pre.length : Int) + 1))
        rw [HP.out, List.length_append, HPM.out]
        exact this
      · rw [HP.out, List.length_append, HPM.out]
        have h9' := H9.out
        rw [HPM.out] at h9'
        show _ = B.take (pre.length + 1)
        rw [List.take_add_one, HB.out, ← h9']
        rfl
    · have hne' : (px == bx && py == by') = false := by simpa using hce
      gi_wp2
      refine wpIn_mono (Q := fun e a' w' => e = .normal ∧ a' = { tmps := List.toArray ((.slice (some ⟨g, 0, none⟩) A.length cap : Value) :: (.slice (some ⟨h, 0, none⟩) A.length cbp : Value) :: undef :: (.pointer (some ⟨w.heap.size, 0, none⟩) : Value) :: (.pointer (some ⟨w.heap.size + 1, 0, none⟩) : Value) :: (.pointer (some ⟨w.heap.size + 1 + 1, 0, none⟩) : Value) :: (.pointer (some ⟨w.heap.size + 3, 0, none⟩) : Value) :: (.pointer (some ⟨W5.heap.size, 0, none⟩) : Value) :: (.pointer (some ⟨Bx, 0, none⟩) : Value) :: (.slice (some ⟨g, 0, none⟩) A.length cap : Value) :: (.int .i64 (A.length : Int) : Value) :: (.slice (some ⟨h, 0, none⟩) A.length cbp : Value) :: (.int .i64 (A.length : Int) : Value) :: (.bool false : Value) :: undef :: (.slice (some ⟨g, 0, none⟩) A.length cap : Value) :: (.int .i64 (A.length : Int) : Value) :: (.bool false : Value) :: undef :: (.slice (some ⟨h, 0, none⟩) A.length cbp : Value) :: (.pointer (some ⟨h, 0, none⟩) : Value) :: (.pointer (some ⟨h, 0, none⟩) : Value) :: (.int .i64 u : Value) :: (.slice (some ⟨g, 0, none⟩) A.length cap : Value) :: (.pointer (some ⟨g, 0, none⟩) : Value) :: (.pointer (some ⟨g, 0, none⟩) : Value) :: (.int .i64 x : Value) :: (.int .i64 dx : Value) :: (.slice (some ⟨h, 0, none⟩) A.length cbp : Value) :: (.pointer (some ⟨h, 0, none⟩) : Value) :: (.pointer (some ⟨h, 1, none⟩) : Value) :: (.int .i64 v : Value) :: (.slice (some ⟨g, 0, none⟩) A.length cap : Value) :: (.pointer (some ⟨g, 0, none⟩) : Value) :: (.pointer (some ⟨g, 1, none⟩) : Value) :: (.int .i64 y : Value) :: (.int .i64 dy : Value) :: (.agg #[.int .i64 dx, .int .i64 dy] : Value) :: (.slice (some ⟨g, 0, none⟩) A.length cap : Value) :: (.agg #[.int .i64 dx, .int .i64 dy] : Value) :: (.func (.func 131) #[] #[.pointer (some ⟨W5.heap.size + 1, 0, none⟩), .pointer (some ⟨W5.heap.size + 1 + 1, 0, none⟩)] : Value) :: (.agg #[.int .i64 px, .int .i64 py] : Value) :: (.agg #[.int .i64 px, .int .i64 py] : Value) :: (.slice (some ⟨h, 0, none⟩) A.length cbp : Value) :: (.int .i64 (pre.length : Int) : Value) :: (.pointer (some ⟨h, pre.length * 2, none⟩) : Value) :: (.agg #[.int .i64 bx, .int .i64 by'] : Value) :: (.bool true : Value) :: undef :: undef :: undef :: undef :: []), defers := [] } ∧ w' = W.drew) ?_ ?_
      · gi_region_with_o (fail)
        all_goals exact ⟨rfl, rfl, rfl⟩
      rintro e a' X ⟨rfl, rfl, rfl⟩
      have v1 : W.drew.heap[w.heap.size + 1]? = some (.cells #[.int .i64 0, .int .i64 0] 113 (0, 0)) := h2
      have v2 : W.drew.heap[w.heap.size + 1 + 1]? = some (.cells #[.bool false] 4 (0, 0)) := h3
      have p0 := cell_of v1 0; have p1 := cell_of v1 1; have p2 := frz_of v1 0; have p3 := frz_of v1 1
      have p4 := cell_of v2 0; have p5 := frz_of v2 0
      have h3' : W.heap[w.heap.size + 1 + 1]? = some (.cells #[.bool false] 4 (0, 0)) := h3
      have o0 := cell_of h2 0; have o1 := cell_of h2 1; have o2 := frz_of h2 0; have o3 := frz_of h2 1
      have o4 := cell_of h3' 0; have o5 := frz_of h3' 0
      clear x0 x1 y0 i0 iz k0 k1
      gi_wp2
      refine ⟨((((KeepsOthers.drew W).trans (KeepsOthers.setCell _ _ _)).trans (KeepsOthers.setCell _ _ _)).trans (KeepsOthers.setCell _ _ _)).from _, rfl, ?_⟩
      have v3 := blk_put (j := 1) (blk_put (j := 0) v1 (.int .i64 0)) (.int .i64 0)
      have v4 := blk_set (a := ⟨w.heap.size + 1 + 1, 0, none⟩) v3 (by show w.heap.size + 1 ≠ w.heap.size + 1 + 1; omega) (.bool false)
      have v5 := blk_set (a := ⟨w.heap.size + 1, 1, none⟩) (blk_set (a := ⟨w.heap.size + 1, 0, none⟩) v2 (by show w.heap.size + 1 + 1 ≠ w.heap.size + 1; omega) (.int .i64 0)) (by show w.heap.size + 1 + 1 ≠ w.heap.size + 1; omega) (.int .i64 0)
      have v6 := blk_put (j := 0) v5 (.bool false)
      exact ⟨v4, v6, ((h8.drew.setCell (p := ⟨w.heap.size + 1, 0, none⟩) (by simp) _).setCell (p := ⟨w.heap.size + 1, 1, none⟩) (by simp) _).setCell (p := ⟨w.heap.size + 1 + 1, 0, none⟩) (by show w.heap.size ≤ w.heap.size + 1 + 1; omega) _, _, _, HP.out, by
        rw [HPM.out, HB.out]
        intro e
        have := Option.some.inj e
        simp only [Prod.mk.injEq] at this
        exact hce ⟨this.1.symm, this.2.symm⟩⟩
  case done =>
    rintro D xs W hD hS ⟨h1, h2, h3, h4, h5, h6, h7, h8, h9⟩ hK
    have HV : Hid (moveV dx dy A B = .tuple #[.agg #[.int .i64 dx, .int .i64 dy], .bool true]) := by
      show _ = _
      unfold moveV
      rw [if_pos]
      rw [hS] at h9
      rw [h9, List.length_map, ← HLB.out, List.take_length]
    have h3' : W.heap[w.heap.size + 1 + 1]? = some (.cells #[.bool false] 4 (0, 0)) := h3
    have o0 := cell_of h2 0; have o1 := cell_of h2 1; have o2 := frz_of h2 0; have o3 := frz_of h2 1
    have o4 := cell_of h3' 0; have o5 := frz_of h3' 0
    have o6 := cell_of h4 0; have o7 := cell_of h4 1
    clear h9 hS
    gi_wp2
    have v3 := blk_put (j := 1) (blk_put (j := 0) h2 (.int .i64 dx)) (.int .i64 dy)
    have v4 := blk_set (a := ⟨w.heap.size + 1 + 1, 0, none⟩) v3 (by show w.heap.size + 1 ≠ w.heap.size + 1 + 1; omega) (.bool true)
    have v5 := blk_set (a := ⟨w.heap.size + 1, 1, none⟩) (blk_set (a := ⟨w.heap.size + 1, 0, none⟩) h3' (by show w.heap.size + 1 + 1 ≠ w.heap.size + 1; omega) (.int .i64 dx)) (by show w.heap.size + 1 + 1 ≠ w.heap.size + 1; omega) (.int .i64 dy)
    have v6 := blk_put (j := 0) v5 (.bool true)
    have hKD := blk_set (a := ⟨w.heap.size + 1 + 1, 0, none⟩) (blk_set (a := ⟨w.heap.size + 1, 1, none⟩) (blk_set (a := ⟨w.heap.size + 1, 0, none⟩) hK (by show D ≠ w.heap.size + 1; omega) (.int .i64 dx)) (by show D ≠ w.heap.size + 1; omega) (.int .i64 dy)) (by show D ≠ w.heap.size + 1 + 1; omega) (.bool true)
    have hBe := ((h8.setCell (p := ⟨w.heap.size + 1, 0, none⟩) (by simp) (.int .i64 dx)).setCell (p := ⟨w.heap.size + 1, 1, none⟩) (by simp) (.int .i64 dy)).setCell (p := ⟨w.heap.size + 1 + 1, 0, none⟩) (by show w.heap.size ≤ w.heap.size + 1 + 1; omega) (.bool true)
    obtain ⟨W2, hW2⟩ : ∃ W2, (((W.setCell ⟨w.heap.size + 1, 0, none⟩ (.int .i64 dx)).setCell ⟨w.heap.size + 1, 1, none⟩ (.int .i64 dy)).setCell ⟨w.heap.size + 1 + 1, 0, none⟩ (.bool true)) = W2 := ⟨_, rfl⟩
    rw [hW2] at v4 v6 hKD hBe ⊢
    refine ⟨by simp, .inl ⟨_, _, rfl, run_takeDeferred hKD, ?_⟩⟩
    have w4 : (W2.putObj D (.deferred none)).heap[w.heap.size + 1]? = some (.cells #[.int .i64 dx, .int .i64 dy] 113 (0, 0)) := (World.putObj_heap_other (by omega)).trans v4
    have w6 : (W2.putObj D (.deferred none)).heap[w.heap.size + 1 + 1]? = some (.cells #[.bool true] 4 (0, 0)) := (World.putObj_heap_other (by omega)).trans v6
    have g0 := cell_of w4 0
    have g1 := cell_of w4 1
    have g2 := cell_of w6 0
    refine ⟨.tuple #[.agg #[.int .i64 dx, .int .i64 dy], .bool true], by simp [results, Tryz.results124, go_sem, g0, g1, g2], by rw [HV.out], hBe.trans ?_⟩
    exact ⟨rfl, rfl, rfl, by simp, fun k hk => World.putObj_heap_other (by omega)⟩
  case stop =>
    rintro D c pre W hD hs ⟨rfl, h1, h2, h3, q, c, hq, hqc⟩ hK
    have HV : Hid (moveV dx dy A B = .tuple #[.agg #[.int .i64 0, .int .i64 0], .bool false]) := by
      show _ = _
      unfold moveV
      rw [if_neg]
      intro e
      rw [hq, e] at hs
      obtain ⟨r, hr⟩ := hs
      apply hqc
      rw [← hr, List.append_assoc, List.getElem?_append_right (Nat.le_refl _)]
      simp
    clear hq hqc hs
    gi_wp2
    refine ⟨by simp, .inl ⟨_, _, rfl, run_takeDeferred hK, ?_⟩⟩
    have w4 : (W.putObj D (.deferred none)).heap[w.heap.size + 1]? = some (.cells #[.int .i64 0, .int .i64 0] 113 (0, 0)) := (World.putObj_heap_other (by omega)).trans h1
    have w6 : (W.putObj D (.deferred none)).heap[w.heap.size + 1 + 1]? = some (.cells #[.bool false] 4 (0, 0)) := (World.putObj_heap_other (by omega)).trans h2
    have g0 := cell_of w4 0
    have g1 := cell_of w4 1
    have g2 := cell_of w6 0
    refine ⟨.tuple #[.agg #[.int .i64 0, .int .i64 0], .bool false], by simp [results, Tryz.results124, go_sem, g0, g1, g2], by rw [HV.out], h3.trans ?_⟩
    exact ⟨rfl, rfl, rfl, by simp, fun k hk => World.putObj_heap_other (by omega)⟩

end Go.Proofs.YtiohpcnnpmnjhaaGreatDoor

namespace Go.Proofs.YtiohpcnnpmnjhaaGreatDoor
open Go.RowKit
set_option linter.unusedVariables false

theorem moveTo_does : MoveDoes := fun X Y a b A B w ra rb hA hB hla hlb => by
  obtain ⟨ga, ca, hva, hca⟩ : ∃ ga ca, a = .slice ga A.length ca ∧ (A = [] ∨ ∃ g, ga = some ⟨g, 0, none⟩ ∧ CellsAt w g A ∧ g < w.heap.size) := by
    rcases ra with ⟨rfl, rfl⟩ | ⟨g, cap, rfl, h1, h2⟩
    · exact ⟨none, 0, rfl, .inl rfl⟩
    · exact ⟨_, cap, rfl, .inr ⟨g, rfl, h1, h2⟩⟩
  obtain ⟨gb, cb, hvb, hcb⟩ : ∃ gb cb, b = .slice gb B.length cb ∧ (B = [] ∨ ∃ g, gb = some ⟨g, 0, none⟩ ∧ CellsAt w g B ∧ g < w.heap.size) := by
    rcases rb with ⟨rfl, rfl⟩ | ⟨g, cap, rfl, h1, h2⟩
    · exact ⟨none, 0, rfl, .inl rfl⟩
    · exact ⟨_, cap, rfl, .inr ⟨g, rfl, h1, h2⟩⟩
  subst hva hvb
  by_cases hlen : A.length = B.length
  · cases A with
    | nil =>
      cases B with
      | nil =>
        refine (moveTo_nil ga gb ca cb w).mono fun e w' ⟨he, hb⟩ => ⟨?_, hb⟩
        rw [he]; rfl
      | cons q B => simp at hlen
    | cons p A =>
      cases B with
      | nil => simp at hlen
      | cons q B =>
        obtain ⟨x, y⟩ := p
        obtain ⟨u, v⟩ := q
        obtain ⟨g, rfl, h1, h2⟩ := hca.resolve_left (by simp)
        obtain ⟨h, rfl, h3, h4⟩ := hcb.resolve_left (by simp)
        have b1 := hA.bx (x, y) (by simp)
        have b2 := hB.bx (u, v) (by simp)
        simp only at b1 b2
        have x1 := hA.x1; have x2 := hA.x2; have y1 := hA.y1; have y2 := hA.y2
        have hF : Fits (u - x) (v - y) ((x, y) :: A) := fun c hc => by
          have b3 := hA.bx c hc
          omega
        have hm := callsIn_wide.1 (moveTo_in g h ca cb x y u v (u - x) (v - y) (show u - x = u - x from rfl) (show v - y = v - y from rfl) ((x, y) :: A) ((u, v) :: B) w h1 h2 h3 h4 (by omega) hlen.symm rfl rfl hF ⟨by omega, by omega⟩ ⟨by omega, by omega⟩)
        rw [← hlen]
        refine hm.mono fun e w' ⟨he, hb⟩ => ⟨?_, hb⟩
        rw [he]
        have hw := way_first (a := (x, y)) (b := (u, v)) (A := A) (B := B)
        simp only at hw
        unfold moveV moveD
        by_cases hq : ((x, y) :: A).map (sh (u - x) (v - y)) = (u, v) :: B
        · have hwt : wayB ((x, y) :: A) ((u, v) :: B) = true := by rw [hw]; exact decide_eq_true hq
          rw [if_pos hq, hwt, if_pos rfl, way_first_d hwt]
        · have hwf : wayB ((x, y) :: A) ((u, v) :: B) = false := by rw [hw]; exact decide_eq_false hq
          rw [if_neg hq, hwf, if_neg (by simp)]
  · refine (moveTo_len ga gb A.length B.length ca cb w hlen).mono fun e w' ⟨he, hb⟩ => ⟨?_, hb⟩
    rw [he]
    unfold moveD
    rw [way_length hlen, if_neg (by simp)]

end Go.Proofs.YtiohpcnnpmnjhaaGreatDoor

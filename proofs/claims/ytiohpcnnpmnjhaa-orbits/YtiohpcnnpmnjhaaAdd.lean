import Derived.Test.YtiohpcnnpmnjhaaGens
import Derived.Test.YtiohpcnnpmnjhaaMoveSpec
namespace Go.Proofs.Ytiohpcnnpmnjhaa
open Go.RowKit
set_option linter.unusedVariables false

def moveD (A B : List Cel) : Cel := if wayB A B then wayD A B else (0, 0)
/-- What moveTo does. -/
def MoveDoes : Prop := ∀ (X Y : Int) (a b : Value) (A B : List Cel) (w : World), RowAt w a A → RowAt w b B → Roam X Y A → Roam X Y B → A.length ≤ 1000 → B.length ≤ 1000 →
    Calls Try.prog 51 #[a, b] w fun e w' => e = .returned (.tuple #[.agg #[.int .i64 (moveD A B).1, .int .i64 (moveD A B).2], .bool (wayB A B)]) ∧ Below w.heap.size w w'

theorem infoP : (Try.prog.info? 65).map (fun i => (i.zero, i.size, i.bytes)) = some (some (.slice none 0 0), 1, 24) := by kernel_rfl

section
variable {P : Program} (w : World)
/-- An append, and what the old row still holds. -/
theorem wpList_append_kept {ops : Array Oper} {rest : List Oper} {o : Oper} {a : Act} {Q : Exit → Act → World → Prop} (hgd : o.guard = none) (s x : Operand) (t : TypeId)
    (ho : o.op = .call { callee := .builtin .append, args := #[s, x], argTypes := #[t, t] })
    (base : Nat) (e : TypeId) (i : TypeInfo) (z : Value) (size bytes : Nat) (ht : P.underlying t = some (.slice e)) (hi : P.info? e = some i) (hz : i.zero = some z)
    (hsize : i.size = size) (hby : i.bytes = bytes) (hzs : z.cells.size = size) (hsz : 0 < size)
    (v : Value) (n : Nat) (xs : List Value) (hs : a.eval s = v) (hown : w.ownsRow base e size v n xs)
    (ad : Addr) (m c : Nat) (news : List Value) (hx : a.eval x = .slice (some ad) m c) (hl : news.length = m * size) (hnews : ∀ j u, news[j]? = some u → w.cell? (ad.add j) = some u) (h1 : ∀ u ∈ news, u.oneCell' = true)
    (h63 : n + m ≤ maxLen) (hbytes : (n + m) * bytes ≤ 140737488355328) (hbase : base ≤ w.heap.size)
    (h : ∀ v' w', w'.ownsRow base e size v' (n + m) (xs ++ news) → w.grownBy w' v.ownBlock → (∀ g, v.ownBlock = some g → ∀ j u, xs[j]? = some u → w'.cell? ((⟨g, 0, none⟩ : Addr).add j) = some u) → wpList P ops Q rest (a.put o.dst v') w') :
    wpList P ops Q (o :: rest) a w := by
  refine wpList_plain hgd fun K hK => ?_
  obtain ⟨v', w', hr, h2, h3, _, _⟩ := run_append_own_at (P := P) w base t o.type e i z size bytes ht hi hz hsize hby hzs hsz v n xs hown ad m c news hl hnews h1 h63 hbytes hbase
  have hkept : ∀ g, v.ownBlock = some g → ∀ j u, xs[j]? = some u → w'.cell? ((⟨g, 0, none⟩ : Addr).add j) = some u := fun g hg j u hu => by
    rcases hown.2 with ⟨rfl, _⟩ | ⟨g', cap, cur, rfl, hbg, hgb, hnc, hcm, hcs, htake⟩
    · cases hg
    cases hg
    have hu' : (xs ++ news)[j]? = some u := by rw [List.getElem?_append_left (List.getElem?_eq_some_iff.1 hu).1]; exact hu
    by_cases hroom : n + m ≤ cap
    · have hfit : n * i.size + news.length ≤ cur.size := by rw [hl, hcs, hsize, ← Nat.add_mul]; exact Nat.mul_le_mul_right _ hroom
      have hr' := run_append_room (P := P) w t o.type e i ht hi g' n cap cur hgb ad m c news (by rw [hsize]; exact hl) hnews h1 hroom hfit
      rw [hr] at hr'
      cases hr'
      exact h2.cells (g := g') rfl j u hu'
    · have holds : ∀ j u, xs[j]? = some u → w.cell? ((⟨g', 0, none⟩ : Addr).add j) = some u := hown.cells (g := g') rfl
      have hr' := run_append_grow (P := P) w t o.type e i z ht hi hz ⟨g', 0, none⟩ n cap xs (by rw [hsize]; exact hown.1) holds ad m c news (by rw [hsize]; exact hl) hnews (by omega) (by unfold maxLen at h63; omega) (growslice_fits (by omega) (by rw [hby]; exact hbytes))
      rw [hr] at hr'
      cases hr'
      rw [← holds j u hu]
      exact World.cell?_of_block (by rw [Addr.add_lit]; exact Below.heap_alloc w.drew _ _ (blk_lt hgb))
  unfold Oper.wp execOp
  simp only [ho, resolve, invoke, builtin, Sem.run_bind, Sem.run_pure, Result.andThen_ok, List.map_toArray, List.map_cons, List.map_nil, hs, hx, hr]
  exact hK _ _ (h v' w' h2 h3 hkept)
end

/-- The story as it lies at S: its generations' slices, and the cycle's four numbers. -/
structure Story (w : World) (S B : Nat) (f g : Nat → Bool) (C : List Cel) (vs : List Value) (c : Int × Int × Int × Int) (gs : Value) : Prop where
  st : w.heap[S]? = some (.cells #[gs, .int .i64 c.1, .int .i64 c.2.1, .int .i64 c.2.2.1, .int .i64 c.2.2.2] 50 (0, 0))
  own : w.ownsRow B 65 1 gs vs.length vs
  all : ∀ i v, vs[i]? = some v → w.ownsRow 0 99 2 v (gen f g C i).length (flatC (gen f g C i))
/-- What is kept while the story is told on. -/
structure Told (w w' : World) (S B : Nat) : Prop where
  os : w'.os = w.os
  tape : w'.tape = w.tape
  output : w'.output = w.output
  size : w.heap.size ≤ w'.heap.size
  same : ∀ (k : Nat) (o : Obj), w.heap[k]? = some o → k ≠ S → (k < B ∨ ∀ cs fz, o ≠ .cells cs 65 fz) → w'.heap[k]? = some o
theorem Told.row {w w' : World} {S B : Nat} (h : Told w w' S B) (hS : ∃ cs, w.heap[S]? = some (.cells cs 50 (0, 0))) {n : Nat} {v : Value} {xs : List Value} (hr : w.ownsRow 0 99 2 v n xs) : w'.ownsRow 0 99 2 v n xs := by
  refine ⟨hr.1, hr.2.imp id ?_⟩
  rintro ⟨g, cap, cur, h1, h2, h3, h4⟩
  refine ⟨g, cap, cur, h1, h2, h.same _ _ h3 (fun e => ?_) (.inr fun cs fz e => by cases e), h4⟩
  obtain ⟨cs, hcs⟩ := hS
  rw [e, hcs] at h3; cases h3
theorem rowBelow {W W' : World} {B e m n : Nat} {v : Value} {xs : List Value} (h : W.ownsRow B e m v n xs) (hb : Below W.heap.size W W') : W'.ownsRow B e m v n xs := h.kept (grown_of_below hb) (Classical.em _)
theorem grown_set (w : World) (S j : Nat) (u : Value) : w.grownBy (w.setCell ⟨S, j, none⟩ u) (some S) := ⟨rfl, rfl, rfl, by simp [World.setCell], fun k _ hk => Below.heap_setCell w ⟨S, j, none⟩ u k (fun e => hk (by rw [e]))⟩
theorem Told.below {w W W' : World} {S B : Nat} (h : Told w W S B) (hb : Below W.heap.size W W') : Told w W' S B :=
  ⟨hb.os.trans h.os, hb.tape.trans h.tape, hb.output.trans h.output, Nat.le_trans h.size hb.size, fun k o hk hne hB => by
    have := h.same k o hk hne hB
    exact (hb.block k (blk_lt this)).trans this⟩
theorem Told.set {w W : World} {S B : Nat} (h : Told w W S B) (j : Nat) (u : Value) : Told w (W.setCell ⟨S, j, none⟩ u) S B :=
  ⟨h.os, h.tape, h.output, by simpa [World.setCell] using h.size, fun k o hk hne hB => (Below.heap_setCell W ⟨S, j, none⟩ u k hne).trans (h.same k o hk hne hB)⟩
/-- The story's rows lie apart from its own block. -/
structure Rows2 (W : World) (S B : Nat) (f g : Nat → Bool) (C : List Cel) (vs : List Value) (gs : Value) : Prop where
  own : W.ownsRow B 65 1 gs vs.length vs
  all : ∀ i v, vs[i]? = some v → W.ownsRow 0 99 2 v (gen f g C i).length (flatC (gen f g C i))
theorem Rows2.below {W W' : World} {S B : Nat} {f g : Nat → Bool} {C : List Cel} {vs : List Value} {gs : Value} (h : Rows2 W S B f g C vs gs) (hb : Below W.heap.size W W') : Rows2 W' S B f g C vs gs :=
  ⟨rowBelow h.own hb, fun i v hv => rowBelow (h.all i v hv) hb⟩
theorem Rows2.set {W : World} {S B : Nat} {f g : Nat → Bool} {C : List Cel} {vs : List Value} {gs : Value} (h : Rows2 W S B f g C vs gs) {cs : Array Value} (hS : W.heap[S]? = some (.cells cs 50 (0, 0))) (j : Nat) (u : Value) : Rows2 (W.setCell ⟨S, j, none⟩ u) S B f g C vs gs := by
  have key : ∀ {e m n : Nat} {B' : Nat} {v : Value} {xs : List Value}, e ≠ 50 → W.ownsRow B' e m v n xs → (W.setCell ⟨S, j, none⟩ u).ownsRow B' e m v n xs := fun {e m n B' v xs} he hr => hr.kept (grown_set W S j u) (Or.inr fun e1 => by
    rcases hr.2 with ⟨rfl, _⟩ | ⟨g2, c2, cur2, rfl, _, hh, _⟩
    · cases e1
    · have := Option.some.inj e1
      simp only at this
      rw [this, hS] at hh; cases hh; exact he rfl)
  exact ⟨key (by decide) h.own, fun i v hv => key (by decide) (h.all i v hv)⟩
/-- The cycle that is told at generation t. -/
def cycOf (f g : Nat → Bool) (C : List Cel) (t : Nat) : Int × Int × Int × Int := match cameB f g C t with
  | some s => ((s : Int), (t : Int) - (s : Int), (wayD (gen f g C s) (gen f g C t)).1, (wayD (gen f g C s) (gen f g C t)).2)
  | none => (0, 0, 0, 0)
/-- What add leaves. -/
def AddOut (f g : Nat → Bool) (C : List Cel) (S B : Nat) (vs : List Value) (v : Value) (w : World) (e : Ending) (w' : World) : Prop :=
  e = .returned (.bool (cameB f g C vs.length).isSome) ∧ Told w w' S B ∧ ∃ gs', Story w' S B f g C (vs ++ [v]) (cycOf f g C vs.length) gs'

set_option maxRecDepth 100000 in
set_option maxHeartbeats 1600000 in
theorem add_walk (hmv : MoveDoes) (f g : Nat → Bool) (C : List Cel) (X Y : Int) (hr : ∀ t, t ≤ 300 → Roam X Y (gen f g C t)) (S B : Nat) (vs : List Value) (gs v : Value) (w : World) (hst : Story w S B f g C vs (0, 0, 0, 0) gs) (hB : B ≤ w.heap.size) (ht : vs.length ≤ 200)
    (own : w.ownsRow 0 99 2 v (gen f g C vs.length).length (flatC (gen f g C vs.length))) (hlen : ∀ i, i ≤ vs.length → (gen f g C i).length ≤ 100) :
    Calls Try.prog 34 #[.pointer (some ⟨S, 0, none⟩), v] w (AddOut f g C S B vs v w) := by
  obtain ⟨i0, hi, hz0, hz1, hz2⟩ := info_parts infoP
  obtain ⟨h1, h2, h3⟩ := hst
  have c0 := cell_of h1 0
  have z0 := frz_of h1 0
  obtain ⟨ag, cg, rfl⟩ := row_slice h2
  obtain ⟨av, cv, rfl⟩ := row_slice own
  obtain ⟨lt, hlt⟩ : ∃ lt, (gen f g C vs.length).length = lt := ⟨_, rfl⟩
  rw [hlt] at own ⊢
  have HLT : Hid ((gen f g C vs.length).length = lt) := hlt
  clear hlt
  go_enter Try.func34, Try.ntmps34
  go_wp2_with (first
    | (at_builtin; refine wpList_append_kept _ rfl _ _ 48 rfl B 65 i0 (.slice none 0 0) 1 24 Try.underlying48 hi hz0 hz1 hz2 rfl (by decide) _ _ _ rfl (h2.alloc _) ⟨w.heap.size, 0, none⟩ 1 1 [.slice av lt cv] rfl rfl (cell_one_new _ _ _) (by simp [Value.oneCell']) (by unfold maxLen; omega) (by omega) (by simp; omega) ?_; intro v' w1 own1 hg1 hk1; obtain ⟨a1, cp1, rfl⟩ := row_slice own1; have h1' := other_kept (h2.alloc (.cells #[.slice av lt cv] 65)) hg1 (blk_old h1 _) (by decide); have c0' := cell_of h1' 0; have z0' := frz_of h1' 0))
  have gs1 : w.grownBy w1 (Value.slice ag vs.length cg).ownBlock := (World.grownBy_alloc w _ _).trans hg1
  have hws := gs1.size
  have hSne : ∀ g', (Value.slice a1 (vs.length + 1) cp1).ownBlock = some g' → g' ≠ S := fun g' hg' e => by
    rcases own1.2 with ⟨hn, _⟩ | ⟨g2, c2, cur2, hv2, _, hb2, _⟩
    · cases hn
    · cases hv2; cases hg'
      have e' : g2 = S := e
      rw [e', h1'] at hb2; cases hb2
  have st2 : (w1.setCell ⟨S, 0, none⟩ (.slice a1 (vs.length + 1) cp1)).heap[S]? = some (.cells #[.slice a1 (vs.length + 1) cp1, .int .i64 0, .int .i64 0, .int .i64 0, .int .i64 0] 50 (0, 0)) := blk_put (j := 0) h1' _
  have own2 : (w1.setCell ⟨S, 0, none⟩ (.slice a1 (vs.length + 1) cp1)).ownsRow B 65 1 (.slice a1 (vs.length + 1) cp1) (vs.length + 1) (vs ++ [.slice av lt cv]) := by
    refine own1.kept (grownBy_setCell' w1 S _) (Or.inr fun e => ?_)
    exact hSne S e rfl
  have td2 : Told w (w1.setCell ⟨S, 0, none⟩ (.slice a1 (vs.length + 1) cp1)) S B := by
    refine ⟨gs1.os, gs1.tape, gs1.output, by simpa [World.setCell] using hws, fun k o hk hne hkB => ?_⟩
    refine (Below.heap_setCell w1 ⟨S, 0, none⟩ _ k hne).trans ((gs1.block k (blk_lt hk) (fun e => ?_)).trans hk)
    rcases h2.2 with ⟨hn, _⟩ | ⟨g2, c2, cur2, hv2, hb2, hh2, _⟩
    · simp only [Value.slice.injEq] at hn
      obtain ⟨rfl, _, _⟩ := hn
      cases e
    · cases hv2
      have := Option.some.inj e
      simp only at this
      subst this
      rcases hkB with hkB | hkB
      · omega
      · rw [hh2] at hk; cases hk; exact hkB _ _ rfl
  have hag : vs.length = 0 ∨ ∃ g', ag = some ⟨g', 0, none⟩ := by
    rcases h2.2 with ⟨_, h0⟩ | ⟨g2, c2, cur2, hv2, _⟩
    · exact .inl h0
    · cases hv2; exact .inr ⟨_, rfl⟩
  have ce2 : ∀ g', ag = some ⟨g', 0, none⟩ → ∀ j u, vs[j]? = some u → (w1.setCell ⟨S, 0, none⟩ (.slice a1 (vs.length + 1) cp1)).cell? ⟨g', j, none⟩ = some u := fun g' hag j u hu => by
    subst hag
    have h := hk1 g' rfl j u hu
    rw [Addr.add_lit] at h
    simp only [Nat.zero_add] at h
    rw [← h]
    refine World.cell?_of_block (Below.heap_setCell w1 ⟨S, 0, none⟩ _ g' (fun e => ?_))
    rcases h2.2 with ⟨hn, _⟩ | ⟨g2, c2, cur2, hv2, _, hh2, _⟩
    · simp at hn
    · cases hv2
      simp only at e
      rw [e, h1] at hh2; cases hh2
  have all2 : ∀ i v, (vs ++ [.slice av lt cv])[i]? = some v → (w1.setCell ⟨S, 0, none⟩ (.slice a1 (vs.length + 1) cp1)).ownsRow 0 99 2 v (gen f g C i).length (flatC (gen f g C i)) := fun i v hv => by
    refine td2.row ⟨_, h1⟩ ?_
    by_cases hiv : i < vs.length
    · rw [List.getElem?_append_left hiv] at hv
      exact h3 i v hv
    · have : i = vs.length := by
        have := (List.getElem?_eq_some_iff.1 hv).1
        simp at this; omega
      subst this
      simp at hv
      subst hv
      rw [HLT.out]; exact own
  have rw2 : Rows2 (w1.setCell ⟨S, 0, none⟩ (.slice a1 (vs.length + 1) cp1)) S B f g C (vs ++ [.slice av lt cv]) (.slice a1 (vs.length + 1) cp1) := ⟨by simpa using own2, all2⟩
  clear own2 all2 hk1 hg1 own1 h1' c0' z0' c0 z0 hSne gs1 hws h3 own h2 h1
  generalize (w1.setCell ⟨S, 0, none⟩ (.slice a1 (vs.length + 1) cp1)) = W2 at *
  have hmvt := fun (i : Nat) (hi' : i ≤ 300) (vi : Value) (u : World) (h1 : RowAt u vi (gen f g C i)) (h2 : RowAt u (.slice av lt cv) (gen f g C vs.length)) (hl' : (gen f g C i).length ≤ 1000) => hmv X Y vi (.slice av lt cv) (gen f g C i) (gen f g C vs.length) u h1 h2 (hr i hi') (hr vs.length (by omega)) hl' (by have := hlen vs.length (Nat.le_refl _); omega)
  clear hmv hi hz0 hz1 hz2
  go_loopw [23] (fun i wr => ∃ j : Nat, j ≤ vs.length ∧ i = .int .i64 (j : Int) ∧ (∀ r, r < j → wayB (gen f g C r) (gen f g C vs.length) = false) ∧ Below W2.heap.size W2 wr) (fun i _ => vs.length - (intOf i).toNat)
  case atStart => exact ⟨0, by omega, rfl, fun r hr' => by omega, Below.refl _ _⟩
  case round =>
    obtain ⟨j, hj, rfl, hno, hbw⟩ := hrel
    by_cases hlt : j < vs.length
    · obtain ⟨g', rfl⟩ := hag.resolve_left (by omega)
      obtain ⟨vj, hvj⟩ : ∃ vj, vs[j]? = some vj := ⟨vs[j], by simp [hlt]⟩
      have cj := ce2 g' rfl j vj hvj
      have hg'l : g' < W2.heap.size := by
        simp only [World.cell?] at cj
        by_cases hgl : g' < W2.heap.size
        · exact hgl
        · rw [Array.getElem?_eq_none (by omega)] at cj; cases cj
      have cj' := (hbw.cell (p := ⟨g', j, none⟩) hg'l).trans cj
      have rj := rw2.all j vj (by rw [List.getElem?_append_left hlt]; exact hvj)
      have rn := rw2.all vs.length (.slice av lt cv) (by simp)
      have hM := hmvt j (by omega) vj wr ((RowAt.of_owns rj).below hbw) ((RowAt.of_owns rn).below hbw) (by have := hlen j (by omega); omega)
      obtain ⟨avj, cvj, hvs⟩ := row_slice rj
      subst hvs
      obtain ⟨dx, hdx⟩ : ∃ dx, (moveD (gen f g C j) (gen f g C vs.length)).1 = dx := ⟨_, rfl⟩
      obtain ⟨dy, hdy⟩ : ∃ dy, (moveD (gen f g C j) (gen f g C vs.length)).2 = dy := ⟨_, rfl⟩
      rw [hdx, hdy] at hM
      have HD : Hid (moveD (gen f g C j) (gen f g C vs.length) = (dx, dy)) := Prod.ext hdx hdy
      clear hdx hdy hvj cj hmvt
      have hSl := blk_lt st2
      cases hw : wayB (gen f g C j) (gen f g C vs.length) with
      | false =>
        rw [hw] at hM
        go_wp2_with (go_at_call 51; refine hM.mono ?_; rintro e w3 ⟨rfl, hb3⟩)
        go_roundw
        case rel => exact ⟨j + 1, by omega, by go_num, fun r hr' => by by_cases e : r = j; · rw [e]; exact hw
                                                                       · exact hno r (by omega), hbw.trans ((hb3.mono hbw.size).alloc (Nat.le_trans hbw.size hb3.size) _)⟩
        case measure => simp [intOf]; omega
      | true =>
        rw [hw] at hM
        have hcame : cameB f g C vs.length = some j := cameB_go hlt hno hw
        have HC : Hid (cameB f g C vs.length = some j) := hcame
        have HW : Hid (wayB (gen f g C j) (gen f g C vs.length) = true) := hw
        clear hcame hw
        go_wp2_with (go_at_call 51; refine hM.mono ?_; rintro e w3 ⟨rfl, hb3⟩
                     have hb4 : Below W2.heap.size W2 (w3.alloc (.cells #[.int .i64 dx, .int .i64 dy] 99)) := hbw.trans ((hb3.mono hbw.size).alloc (Nat.le_trans hbw.size hb3.size) _)
                     have st4 := (hb4.block S hSl).trans st2
                     have y1 := cell_of st4 1; have y2 := cell_of st4 2; have y3 := cell_of st4 3; have y4 := cell_of st4 4
                     have x1 := frz_of st4 1; have x2 := frz_of st4 2; have x3 := frz_of st4 3; have x4 := frz_of st4 4)
        go_ret
        have st5 := blk_put (j := 1) st4 (.int .i64 (j : Int))
        have st6 := blk_put (j := 2) st5 (.int .i64 ((vs.length : Int) - (j : Int)))
        have st7 := blk_put (j := 3) st6 (.int .i64 dx)
        have st8 := blk_put (j := 4) st7 (.int .i64 dy)
        have rw8 := ((((rw2.below hb4).set st4 1 (.int .i64 (j : Int))).set st5 2 (.int .i64 ((vs.length : Int) - (j : Int)))).set st6 3 (.int .i64 dx)).set st7 4 (.int .i64 dy)
        have hDD : wayD (gen f g C j) (gen f g C vs.length) = (dx, dy) := by
          have := HD.out
          unfold moveD at this
          rwa [if_pos HW.out] at this
        refine ⟨by rw [HC.out]; rfl, ((((td2.below hb4).set 1 _).set 2 _).set 3 _).set 4 _, .slice a1 (vs.length + 1) cp1, ?_⟩
        unfold cycOf
        rw [HC.out]
        simp only [hDD]
        exact ⟨st8, rw8.own, rw8.all⟩
    · obtain rfl : j = vs.length := by omega
      go_wp2
      go_ret
      have hnone : cameB f g C vs.length = none := cameB_none hno
      refine ⟨by rw [hnone]; rfl, td2.below hbw, .slice a1 (vs.length + 1) cp1, ?_⟩
      unfold cycOf
      rw [hnone]
      exact ⟨(hbw.block S (blk_lt st2)).trans st2, (rw2.below hbw).own, (rw2.below hbw).all⟩

end Go.Proofs.Ytiohpcnnpmnjhaa

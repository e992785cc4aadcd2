import Derived.Test.YtiohpcnnpmnjhaaGreatDoorRlsM
import Derived.Test.YtiohpcnnpmnjhaaGreatDoorLnkM
namespace Go.Proofs.YtiohpcnnpmnjhaaGreatDoor
open Go.RowKit Go.Shelf
set_option linter.unusedVariables false

/-- Are the spots of these numbers linked? -/
def lkJ (sp : List (Nat × Cel)) (p dx dy : Int) (j m : Nat) : Bool := match sp[j]?, sp[m]? with
  | some (t, c), some (t', c') => lkB p dx dy (t : Int) c.1 c.2 (t' : Int) c'.1 c'.2
  | _, _ => false
/-- Whose the spots are, while those of i are looked for. -/
def ofA (κ : Nat → Nat) (i : Nat) (A : Nat → Bool) (j : Nat) : Int := if κ j < i then (κ j : Int) else if A j = true then (i : Int) else -1
def markA (A : Nat → Bool) (j m : Nat) : Bool := A m || m == j
theorem cnt_mark {q r : Nat → Bool} {j : Nat} (hq : q j = true) (hr : r j = false) (he : ∀ m, m ≠ j → r m = q m) : ∀ {N : Nat}, j < N → (List.range N).countP r + 1 = (List.range N).countP q
  | 0, h => by omega
  | N + 1, h => by
    rw [List.range_succ, List.countP_append, List.countP_append]
    by_cases e : j = N
    · subst e
      have h1 : (List.range j).countP r = (List.range j).countP q := by
        refine List.countP_congr fun m hm => ?_
        rw [he m (by have := List.mem_range.1 hm; omega)]
      rw [h1]
      simp [hq, hr]
    · have ih := cnt_mark hq hr he (N := N) (by omega)
      have h2 : [N].countP r = [N].countP q := by simp [List.countP_cons, he N (fun h => e h.symm)]
      rw [h2]; omega
/-- So many are of none yet. -/
def nA (κ : Nat → Nat) (i : Nat) (A : Nat → Bool) (N : Nat) : Nat := (List.range N).countP fun j => decide (ofA κ i A j < 0)
theorem ofA_neg {κ : Nat → Nat} {i : Nat} {A : Nat → Bool} {j : Nat} : ofA κ i A j < 0 ↔ ¬ κ j < i ∧ A j = false := by
  unfold ofA
  split
  · constructor
    · intro h; omega
    · intro h; omega
  · cases h : A j <;> simp_all <;> omega
theorem nA_mark {κ : Nat → Nat} {i : Nat} {A : Nat → Bool} {j N : Nat} (hj : j < N) (hn : ofA κ i A j < 0) : nA κ i (markA A j) N + 1 = nA κ i A N := by
  refine cnt_mark (j := j) (decide_eq_true hn) (decide_eq_false fun h => ?_) (fun m hm => ?_) hj
  · have := (ofA_neg.1 h).2
    simp [markA] at this
  · have : markA A j m = A m := by simp [markA, hm]
    unfold ofA
    rw [this]
/-- The same, told by the memory. -/
def negs (W : World) (L N : Nat) : Nat := (List.range N).countP fun j => match W.cell? ⟨L, j * 4 + 3, none⟩ with
  | some (.int _ z) => decide (z < 0)
  | _ => false
def lenV : Value → Nat
  | .slice _ n _ => n
  | _ => 0
theorem ofA_mark {κ : Nat → Nat} {i j : Nat} (hj : ¬ κ j < i) (A : Nat → Bool) : (fun m => if m = j then (i : Int) else ofA κ i A m) = ofA κ i (markA A j) := by
  funext m
  by_cases e : m = j
  · subst e
    rw [if_pos rfl]
    unfold ofA
    rw [if_neg hj, if_pos (by simp [markA])]
  · rw [if_neg e]
    unfold ofA
    have : markA A j m = A m := by simp [markA, e]
    rw [this]
theorem SpotsAt.congr {W : World} {L : Nat} {sp : List (Nat × Cel)} {of of' : Nat → Int} (h : SpotsAt W L sp of) (he : ∀ j, j < sp.length → of j = of' j) : SpotsAt W L sp of' := by
  obtain ⟨cur, h1, h2⟩ := h
  refine ⟨cur, h1, fun j t c hj => ?_⟩
  obtain ⟨a, b, c', d⟩ := h2 j t c hj
  exact ⟨a, b, c', by rw [← he j (List.getElem?_eq_some_iff.1 hj).1]; exact d⟩
/-- What the spots and their groups keep to. -/
structure Spotty (sp : List (Nat × Cel)) (p dx dy : Int) (κ : Nat → Nat) : Prop where
  len : sp.length ≤ 1000000
  pp : 1 ≤ p ∧ p ≤ 1000
  dd : (-1000 ≤ dx ∧ dx ≤ 1000) ∧ (-1000 ≤ dy ∧ dy ≤ 1000)
  bd : ∀ t c, (t, c) ∈ sp → t ≤ 1000 ∧ (-4000000000000000000 ≤ c.1 ∧ c.1 ≤ 4000000000000000000) ∧ (-4000000000000000000 ≤ c.2 ∧ c.2 ≤ 4000000000000000000)
  same : ∀ j m, lkJ sp p dx dy j m = true → κ j = κ m
  all : ∀ (i : Nat) (A : Nat → Prop), A i → (∀ j m, lkJ sp p dx dy j m = true → A j → A m) → ∀ m, m < sp.length → κ m = i → κ i = i → A m
/-- How far the search has come. -/
structure Hunt (sp : List (Nat × Cel)) (p dx dy : Int) (κ : Nat → Nat) (i : Nat) (A : Nat → Bool) (wk : List Nat) (x : Option Nat) : Prop where
  inn : ∀ k ∈ wk, k < sp.length ∧ A k = true
  me : A i = true
  mine : ∀ k, A k = true → κ k = i ∧ k < sp.length
  done : ∀ k, A k = true → some k = x ∨ k ∈ wk ∨ ∀ m, lkJ sp p dx dy k m = true → A m = true
theorem SpotsAt.negs {W : World} {L : Nat} {sp : List (Nat × Cel)} {of : Nat → Int} (h : SpotsAt W L sp of) : negs W L sp.length = (List.range sp.length).countP fun j => decide (of j < 0) := by
  unfold Go.Proofs.YtiohpcnnpmnjhaaGreatDoor.negs
  refine List.countP_congr fun j hj => ?_
  have hj' := List.mem_range.1 hj
  obtain ⟨⟨t, c⟩, hs⟩ : ∃ x, sp[j]? = some x := ⟨sp[j], by simp [hj']⟩
  rw [(h.get hs).2.2.2]
/-- A row of numbers. -/
def natsV (l : List Nat) : List Value := l.map fun (x : Nat) => Value.int .i64 (x : Int)
theorem natsV_snoc (l : List Nat) (x : Nat) : natsV (l ++ [x]) = natsV l ++ [.int .i64 (x : Int)] := by simp [natsV]
theorem grown_anyS {W W' : World} {b : Nat} (h : Below W.heap.size W W') : W.grownBy W' (some b) := ⟨h.os, h.tape, h.output, h.size, fun k hk _ => h.block k hk⟩
/-- Below n nothing but block L has turned. -/
structure KeepN (n L : Nat) (W W' : World) : Prop where
  os : W'.os = W.os
  tape : W'.tape = W.tape
  output : W'.output = W.output
  size : W.heap.size ≤ W'.heap.size
  block : ∀ b, b < n → b ≠ L → W'.heap[b]? = W.heap[b]?
theorem KeepN.refl (n L : Nat) (W : World) : KeepN n L W W := ⟨rfl, rfl, rfl, Nat.le_refl _, fun _ _ _ => rfl⟩
theorem KeepN.below {n L m : Nat} {W V V' : World} (h : KeepN n L W V) (hb : Below m V V') (hm : n ≤ m) : KeepN n L W V' := ⟨hb.os.trans h.os, hb.tape.trans h.tape, hb.output.trans h.output, Nat.le_trans h.size hb.size, fun b h1 h2 => (hb.block b (by omega)).trans (h.block b h1 h2)⟩
theorem KeepN.set {n L j : Nat} {W V : World} (h : KeepN n L W V) (v : Value) : KeepN n L W (V.setCell ⟨L, j, none⟩ v) :=
  have g := grown_set V L j v
  ⟨g.os.trans h.os, g.tape.trans h.tape, g.output.trans h.output, Nat.le_trans h.size g.size, fun b h1 h2 => (Below.heap_setCell V ⟨L, j, none⟩ v b h2).trans (h.block b h1 h2)⟩
theorem info_int : (Tryz.prog.info? 3).map (fun i => (i.zero, i.size, i.bytes)) = some (some (.int .i64 0), 1, 8) := by kernel_rfl
/-- The last of a row of numbers, and the row without it. -/
theorem row_pop {W : World} {B cap : Nat} {v : Value} {l : List Nat} {k : Nat} (h : W.ownsRow B 3 1 v (l.length + 1) (natsV (l ++ [k]))) : ∃ g cp, v = .slice (some ⟨g, 0, none⟩) (l.length + 1) cp ∧ B ≤ g ∧ l.length + 1 ≤ cp ∧ W.cell? ⟨g, l.length, none⟩ = some (.int .i64 (k : Int)) ∧ W.ownsRow B 3 1 (.slice (some ⟨g, 0, none⟩) l.length cp) l.length (natsV l) := by
  obtain ⟨hl, h⟩ := h
  rcases h with ⟨_, h0⟩ | ⟨g, cp, cur, rfl, hb, hblk, hc, hm, hsz, hpre⟩
  · omega
  · have hlast : cur[l.length]? = some (.int .i64 (k : Int)) := by
      have := congrArg (fun x => x[l.length]?) hpre
      simp only [natsV_snoc] at this
      rw [List.getElem?_take_of_lt (by omega), List.getElem?_append_right (by simp [natsV])] at this
      simpa [natsV] using this
    refine ⟨g, cp, rfl, hb, hc, by simp [World.cell?, hblk, hlast], ?_⟩
    refine ⟨by simp [natsV], .inr ⟨g, cp, cur, rfl, hb, hblk, by omega, hm, hsz, ?_⟩⟩
    have := congrArg (List.take (l.length * 1)) hpre
    rw [List.take_take, natsV_snoc, List.take_left' (by simp [natsV])] at this
    rw [show min (l.length * 1) ((l.length + 1) * 1) = l.length * 1 by omega] at this
    exact this

set_option maxRecDepth 100000 in
set_option maxHeartbeats 3200000 in
theorem spread_any (sp : List (Nat × Cel)) (p dx dy s : Int) (κ : Nat → Nat) (hsp : Spotty sp p dx dy κ) (i L cap : Nat) (w : World) (hi : i < sp.length) (hκ : κ i = i) (hS : SpotsAt w L sp (ofA κ i fun j => j == i)) :
    Calls Tryz.prog 57 #[.slice (some ⟨L, 0, none⟩) sp.length cap, .int .i64 (i : Int), .agg #[.int .i64 s, .int .i64 p, .int .i64 dx, .int .i64 dy]] w fun e w' => e = .returned (.tuple #[]) ∧ SpotsAt w' L sp (fun j => if κ j < i + 1 then (κ j : Int) else -1) ∧ w.grownBy w' (some L) := by
  obtain ⟨i0, hii, hz0, hz1, hz2⟩ := info_parts info_int
  have hLw := hS.lt
  obtain ⟨N, hN⟩ : ∃ N, sp.length = N := ⟨_, rfl⟩
  have HN : Hid (sp.length = N) := hN
  have hNl := hsp.len
  rw [hN] at hi hNl ⊢
  have bA : Below w.heap.size w (w.alloc (.cells #[.int .i64 s, .int .i64 p, .int .i64 dx, .int .i64 dy] 54)) := (Below.refl _ _).alloc (Nat.le_refl _) _
  have tA := blk_new w (.cells #[.int .i64 s, .int .i64 p, .int .i64 dx, .int .i64 dy] 54)
  have own0 : (w.alloc (.cells #[.int .i64 s, .int .i64 p, .int .i64 dx, .int .i64 dy] 54)).ownsRow (w.heap.size + 1) 3 1 (.slice none 0 0) 0 [] := World.ownsRow_nil _ _ _ _
  clear hN
  refine (callsIn_wide (n := 5)).1 ?_
  refine callsIn_of_wp Tryz.func57 rfl trivial ?_ rfl
  simp only [Tryz.ntmps57, List.size_toArray, List.length_cons, List.length_nil, Nat.reduceAdd, Nat.reduceSub, Array.replicate_succ, Array.replicate_zero, List.push_toArray, List.append_toArray, List.nil_append, List.cons_append]
  gi_wp2_with (gi_at_builtin; refine wpListIn_append_own _ rfl _ _ 95 rfl (w.heap.size + 1) 3 i0 (.int .i64 0) 1 8 Tryz.underlying95 hii hz0 hz1 hz2 rfl (by decide) _ _ _ rfl (own0.alloc _) ⟨w.heap.size + 1, 0, none⟩ 1 1 [.int .i64 (i : Int)] rfl rfl (fun j u hu => by have hh := cell_one_new (w.alloc (.cells #[.int .i64 s, .int .i64 p, .int .i64 dx, .int .i64 dy] 54)) (.int .i64 (i : Int)) 3 j u hu; rw [World.size_alloc] at hh; exact hh) (by simp [Value.oneCell']) (by unfold maxLen; omega) (by omega) (by simp) ?_; intro v1 w1 own1 hgr1 _)
  have bB : Below (w.heap.size + 1) (w.alloc (.cells #[.int .i64 s, .int .i64 p, .int .i64 dx, .int .i64 dy] 54)) w1 := by
    refine (((Below.refl _ (w.alloc (.cells #[.int .i64 s, .int .i64 p, .int .i64 dx, .int .i64 dy] 54))).alloc (by simp) (.cells #[.int .i64 (i : Int)] 3))).grown hgr1 (by simp) (fun j hj => by cases hj)
  have bw1 : Below w.heap.size w w1 := bA.trans (bB.mono (by omega))
  have t1 : w1.heap[w.heap.size]? = some (.cells #[.int .i64 s, .int .i64 p, .int .i64 dx, .int .i64 dy] 54 (0, 0)) := (bB.block _ (by omega)).trans tA
  have hS1 : SpotsAt w1 L sp (ofA κ i fun j => j == i) := hS.keep (bw1.block _ hLw)
  have hH1 : Hunt sp p dx dy κ i (fun j => j == i) [i] none := ⟨fun k hk => by simp at hk; subst hk; exact ⟨by rw [HN.out]; exact hi, by simp⟩, by simp, fun k hk => by simp at hk; subst hk; exact ⟨hκ, by rw [HN.out]; exact hi⟩, fun k hk => by simp at hk; subst hk; exact .inr (.inl (by simp))⟩
  clear own0 tA hS bA hgr1
  gi_loopw [6] (fun vw wr => ∃ (A : Nat → Bool) (wk : List Nat), Hunt sp p dx dy κ i A wk none ∧ SpotsAt wr L sp (ofA κ i A) ∧ wr.ownsRow (w.heap.size + 1) 3 1 vw wk.length (natsV wk) ∧ 2 * nA κ i A N + wk.length ≤ 2 * N + 1 ∧ KeepN (w.heap.size + 1) L w1 wr) (fun vw wr => 2 * negs wr L N + lenV vw)
  case atStart =>
    have hle : nA κ i (fun j => j == i) N ≤ N := by
      unfold nA
      refine Nat.le_trans List.countP_le_length ?_
      simp
    exact ⟨_, [i], hH1, hS1, own1, by simp; omega, KeepN.refl _ _ _⟩
  case round =>
    obtain ⟨A, wk, hH, hSr, own, hwl, hgr⟩ := hrel
    have hsz := hgr.size
    have hs1 := bw1.size
    have hbs := blk_lt t1
    have tr : wr.heap[w.heap.size]? = some (.cells #[.int .i64 s, .int .i64 p, .int .i64 dx, .int .i64 dy] 54 (0, 0)) := (hgr.block _ (by omega) (by omega)).trans t1
    rcases List.eq_nil_or_concat wk with rfl | ⟨wk0, k, hwk⟩
    · obtain ⟨av, cv, rfl⟩ := row_slice own
      gi_wp2
      refine ⟨rfl, .tuple #[], results_none rfl _ _ _, rfl, hSr.congr fun j hj => ?_, ⟨hgr.os.trans bw1.os, hgr.tape.trans bw1.tape, hgr.output.trans bw1.output, Nat.le_trans bw1.size hgr.size, fun b hb hne => (hgr.block b (by omega) (fun e => hne (by rw [e]))).trans (bw1.block b hb)⟩⟩
      have hcl := hsp.all i (fun m => A m = true) hH.me (fun j m hl hA => by
        rcases hH.done j hA with h | h | h
        · cases h
        · simp at h
        · exact h m hl) j hj
      unfold ofA
      by_cases h1 : κ j < i
      · rw [if_pos h1, if_pos (by omega)]
      · rw [if_neg h1]
        cases hA : A j with
        | true =>
          have := (hH.mine j hA).1
          rw [if_pos rfl, if_pos (by omega), this]
        | false =>
          have : ¬ κ j = i := fun e => by have := hcl e hκ; rw [hA] at this; cases this
          rw [if_neg (by decide), if_neg (by omega)]
    · rw [List.concat_eq_append] at hwk
      subst hwk
      rw [List.length_append, List.length_singleton] at own
      obtain ⟨g, cp, rfl, hgB, hcp, c0, own2⟩ := row_pop (cap := 0) own
      have hk := hH.inn k (by simp)
      have hki := hH.mine k hk.2
      have HG : Hid (2 * negs wr L N + lenV (.slice (some ⟨g, 0, none⟩) (wk0.length + 1) cp) = 2 * nA κ i A N + (wk0.length + 1)) := by
        show _ = _
        rw [show negs wr L N = nA κ i A N from by rw [← HN.out]; exact hSr.negs]; rfl
      have hw1 : 2 * nA κ i A N + (wk0.length + 1) ≤ 2 * N + 1 := by rw [List.length_append] at hwl; simpa using hwl
      have hw0 : wk0.length ≤ 2000000 := by omega
      clear hwl
      have hwr0 : IntKind.i64.wrap (wk0.length : Int) = (wk0.length : Int) := IntWalk.i64_in _ ⟨by omega, by omega⟩
      clear own
      gi_wp2
      have hH0 : Hunt sp p dx dy κ i A wk0 (some k) := ⟨fun x hx => hH.inn x (by simp [hx]), hH.me, hH.mine, fun x hx => by
        rcases hH.done x hx with h | h | h
        · cases h
        · rcases List.mem_append.1 h with h | h
          · exact .inr (.inl h)
          · simp at h; subst h; exact .inl rfl
        · exact .inr (.inr h)⟩
      gi_loopw [6, 8] (fun vw vj wq => ∃ (j : Nat) (A' : Nat → Bool) (wk' : List Nat), j ≤ N ∧ vj = .int .i64 (j : Int) ∧ Hunt sp p dx dy κ i A' wk' (some k) ∧ A' k = true ∧ (∀ m, m < j → lkJ sp p dx dy k m = true → A' m = true) ∧ SpotsAt wq L sp (ofA κ i A') ∧ wq.ownsRow (w.heap.size + 1) 3 1 vw wk'.length (natsV wk') ∧ wk'.length ≤ wk0.length + j ∧ 2 * nA κ i A' N + wk'.length ≤ 2 * nA κ i A N + wk0.length ∧ KeepN (w.heap.size + 1) L w1 wq) (fun _ vj _ => N - (intOf vj).toNat)
      case atStart => exact ⟨0, A, wk0, Nat.zero_le _, rfl, hH0, hk.2, fun m h => by omega, hSr, own2, by omega, Nat.le_refl _, hgr⟩
      case round =>
        obtain ⟨j, A', wk', hj, rfl, hH', hAk, hlk, hSq, ownq, hwq, hmu, hgq⟩ := hrel
        have hszq := hgq.size
        have tq : wr.heap[w.heap.size]? = some (.cells #[.int .i64 s, .int .i64 p, .int .i64 dx, .int .i64 dy] 54 (0, 0)) := (hgq.block _ (by omega) (by omega)).trans t1
        by_cases hlt : j < N
        · have hji : (j : Int) < (N : Int) := by omega
          have hkN : k < N := by rw [← HN.out]; exact hk.1
          have hkNi : (k : Int) < (N : Int) := by omega
          obtain ⟨⟨tj, xj, yj⟩, hsj⟩ : ∃ x, sp[j]? = some x := ⟨sp[j]'(by rw [HN.out]; exact hlt), by simp [show j < sp.length by rw [HN.out]; exact hlt]⟩
          obtain ⟨⟨tk, xk, yk⟩, hsk⟩ : ∃ x, sp[k]? = some x := ⟨sp[k]'hk.1, by simp [hk.1]⟩
          have hok : ofA κ i A' k = (i : Int) := by unfold ofA; rw [if_neg (by omega), if_pos hAk]
          have hgj := fun (V : World) (hV : V.heap[L]? = wr.heap[L]?) => (hSq.keep hV).get hsj
          have hgk := fun (V : World) (hV : V.heap[L]? = wr.heap[L]?) => (hSq.keep hV).get hsk
          simp only [hok] at hgk
          have hneg := @ofA_neg κ i A' j
          have HL : Hid (lkB p dx dy (tk : Int) xk yk (tj : Int) xj yj = lkJ sp p dx dy k j) := by show _ = _; unfold lkJ; rw [hsk, hsj]
          have hSet := hSq.set hsj (i : Int)
          have hmk := fun h => ofA_mark (κ := κ) (i := i) (j := j) h A'
          have hnk := fun h => nA_mark (κ := κ) (i := i) (A := A') (N := N) hlt h
          have hbj := hsp.bd tj (xj, yj) (List.mem_of_getElem? hsj)
          have hbk := hsp.bd tk (xk, yk) (List.mem_of_getElem? hsk)
          have hpp := hsp.pp
          have hdd := hsp.dd
          simp only at hbj hbk
          obtain ⟨oj, hoj⟩ : ∃ oj, ofA κ i A' j = oj := ⟨_, rfl⟩
          simp only [hoj] at hgj hneg hnk
          obtain ⟨e0, e1, e2, e3⟩ := hgj wr rfl
          obtain ⟨f0, f1, f2, f3⟩ := hgk wr rfl
          have fz := hSq.frz (j * 4 + 3)
          obtain ⟨aq, cq, rfl⟩ := row_slice ownq
          have hwq2 : wk'.length ≤ 2000000 := by omega
          have next : ∀ (B : Nat → Bool), (∀ m, A' m = true → B m = true) → (lkJ sp p dx dy k j = true → B j = true) → ∀ m, m < j + 1 → lkJ sp p dx dy k m = true → B m = true := fun B h1 h2 m hm hl => by
            by_cases e : m = j
            · subst e; exact h2 hl
            · exact h1 m (hlk m (by omega) hl)
          have NX : Hid (∀ (B : Nat → Bool), (∀ m, A' m = true → B m = true) → (lkJ sp p dx dy k j = true → B j = true) → ∀ m, m < j + 1 → lkJ sp p dx dy k m = true → B m = true) := next
          have HH' : Hid (Hunt sp p dx dy κ i A' wk' (some k)) := hH'
          have HNEG : Hid (oj < 0 ↔ ¬ κ j < i ∧ A' j = false) := hneg
          clear next hH' hoj hok hneg
          by_cases hn : oj < 0
          · have hnd : decide (oj < 0) = true := decide_eq_true hn
            obtain ⟨hκj, hAj⟩ := HNEG.out.1 hn
            gi_wp2_with (fail)
            have hC0 : (fun V : World => V.heap[L]? = wr.heap[L]? ∧ V.heap[w.heap.size]? = some (.cells #[.int .i64 s, .int .i64 p, .int .i64 dx, .int .i64 dy] 54 (0, 0))) wr.drew := ⟨rfl, tq⟩
            refine wpIn_region_any (by kernel_rfl) (wpAnyC.any (C := fun V : World => V.heap[L]? = wr.heap[L]? ∧ V.heap[w.heap.size]? = some (.cells #[.int .i64 s, .int .i64 p, .int .i64 dx, .int .i64 dy] 54 (0, 0))) ?_)
            change wpAnyC _ _ _ _ _ _ _ _ _ _ (World.drew _)
            refine wpAnyC_takeN 0 (some 40) (.slice (some ⟨L, 0, none⟩) N cap) hC0 rfl rfl rfl (by kernel_rfl) (by kernel_rfl) (by kernel_rfl) (fun _ _ _ h => h) ⟨by rfl, fun V hV => ⟨rfl, by go_simp⟩⟩ ?_
            go_frame
            refine wpAnyC_takeN 1 (some 41) (.int .i64 (k : Int)) hC0 rfl rfl rfl (by kernel_rfl) (by kernel_rfl) (by kernel_rfl) (fun _ _ _ h => h) ⟨by rfl, fun V hV => ⟨rfl, by go_simp⟩⟩ ?_
            go_frame
            refine wpAnyC_takeN 2 (some 42) (.pointer (some ⟨L, k * 4, none⟩)) hC0 rfl rfl rfl (by kernel_rfl) (by kernel_rfl) (by kernel_rfl) (fun _ _ _ h => h) ⟨by rfl, fun V hV => ⟨rfl, by go_simp⟩⟩ ?_
            go_frame
            refine wpAnyC_takeN 3 (some 43) (.agg #[.int .i64 (tk : Int), .int .i64 xk, .int .i64 yk, .int .i64 (i : Int)]) hC0 rfl rfl rfl (by kernel_rfl) (by kernel_rfl) (by kernel_rfl) (fun _ _ _ h => h) ⟨by rfl, fun V hV => ⟨rfl, by obtain ⟨q0, q1, q2, q3⟩ := hgk V hV.1; go_simp⟩⟩ ?_
            go_frame
            refine wpAnyC_takeN 4 (some 44) (.slice (some ⟨L, 0, none⟩) N cap) hC0 rfl rfl rfl (by kernel_rfl) (by kernel_rfl) (by kernel_rfl) (fun _ _ _ h => h) ⟨by rfl, fun V hV => ⟨rfl, by go_simp⟩⟩ ?_
            go_frame
            refine wpAnyC_takeN 5 (some 45) (.int .i64 (j : Int)) hC0 rfl rfl rfl (by kernel_rfl) (by kernel_rfl) (by kernel_rfl) (fun _ _ _ h => h) ⟨by rfl, fun V hV => ⟨rfl, by go_simp⟩⟩ ?_
            go_frame
            refine wpAnyC_takeN 6 (some 46) (.pointer (some ⟨L, j * 4, none⟩)) hC0 rfl rfl rfl (by kernel_rfl) (by kernel_rfl) (by kernel_rfl) (fun _ _ _ h => h) ⟨by rfl, fun V hV => ⟨rfl, by go_simp⟩⟩ ?_
            go_frame
            refine wpAnyC_takeN 7 (some 47) (.agg #[.int .i64 (tj : Int), .int .i64 xj, .int .i64 yj, .int .i64 oj]) hC0 rfl rfl rfl (by kernel_rfl) (by kernel_rfl) (by kernel_rfl) (fun _ _ _ h => h) ⟨by rfl, fun V hV => ⟨rfl, by obtain ⟨q0, q1, q2, q3⟩ := hgj V hV.1; go_simp⟩⟩ ?_
            go_frame
            refine wpAnyC_takeN 8 (some 48) (.agg #[.int .i64 s, .int .i64 p, .int .i64 dx, .int .i64 dy]) hC0 rfl rfl rfl (by kernel_rfl) (by kernel_rfl) (by kernel_rfl) (fun _ _ _ h => h) ⟨by rfl, fun V hV => ⟨rfl, by have q0 := cell_of hV.2 0; have q1 := cell_of hV.2 1; have q2 := cell_of hV.2 2; have q3 := cell_of hV.2 3; go_simp⟩⟩ ?_
            go_frame
            refine wpAnyC_one (i := 9) (by kernel_rfl) rfl (by rfl) (fun K hK => ?_)
            go_simp
            refine ⟨trivial, (callsIn_wide.2 (linked_any s p dx dy (tk : Int) xk yk (i : Int) (tj : Int) xj yj oj _ hpp (by omega) (by omega) hbk.2.1 hbk.2.2 hbj.2.1 hbj.2.2 hdd.1 hdd.2)).mono ?_⟩
            rintro e w5 ⟨rfl, c5⟩
            have b5 : Below wr.heap.size wr w5 := ((Below.refl _ wr).drew).trans c5
            have hC5 : (fun V : World => V.heap[L]? = wr.heap[L]? ∧ V.heap[w.heap.size]? = some (.cells #[.int .i64 s, .int .i64 p, .int .i64 dx, .int .i64 dy] 54 (0, 0))) w5 := ⟨b5.block _ hSq.lt, (b5.block _ (blk_lt tq)).trans tq⟩
            refine hK _ _ hC5 ?_
            clear hK K
            refine wpAnyC_one (i := 10) (by kernel_rfl) rfl (by rfl) (fun K hK => ?_)
            go_simp
            refine hK _ _ hC5 ?_
            clear hK K
            refine wpAnyC_done (by kernel_rfl) ?_ _
            rw [HL.out]
            have hS5 := hSq.keep hC5.1
            have own5 := rowBelow ownq b5
            have hg5 : KeepN (w.heap.size + 1) L w1 w5 := hgq.below b5 (by omega)
            cases hlkj : lkJ sp p dx dy k j with
            | false =>
              gi_wp2
              refine ⟨⟨j + 1, A', wk', by omega, by simp, HH'.out, hAk, NX.out A' (fun _ h => h) (fun h => by rw [hlkj] at h; cases h), hS5, own5, by omega, hmu, hg5⟩, by simp [intOf]; omega⟩
            | true =>
              have hSet5 := hS5.set hsj (i : Int)
              rw [hmk hκj] at hSet5
              obtain ⟨m0, m1, m2, m3⟩ := hS5.get hsk
              have fz5 := hS5.frz (j * 4 + 3)
              obtain ⟨r0, r1, r2, r3⟩ := hS5.get hsj
              have hokk : ofA κ i A' k = (i : Int) := by unfold ofA; rw [if_neg (by omega), if_pos hAk]
              rw [hokk] at m3
              clear hokk
              have hnk' := hnk hn
              have own6 : (w5.setCell ⟨L, j * 4 + 3, none⟩ (.int .i64 (i : Int))).ownsRow (w.heap.size + 1) 3 1 (.slice aq wk'.length cq) wk'.length (natsV wk') := own5.kept (grown_set w5 L (j * 4 + 3) (.int .i64 (i : Int))) (.inr fun e' => by have := (own5.lt _ e').1; omega)
              have s5 := b5.size
              have hsc : (w5.setCell ⟨L, j * 4 + 3, none⟩ (.int .i64 (i : Int))).heap.size = w5.heap.size := by simp [World.setCell]
              have HSC : Hid ((w5.setCell ⟨L, j * 4 + 3, none⟩ (.int .i64 (i : Int))).heap.size = w5.heap.size) := hsc
              clear hsc
              gi_wp2_with (gi_at_builtin; refine wpListIn_append_own _ rfl _ _ 95 rfl (w.heap.size + 1) 3 i0 (.int .i64 0) 1 8 Tryz.underlying95 hii hz0 hz1 hz2 rfl (by decide) _ _ _ rfl (own6.alloc _) ⟨w5.heap.size, 0, none⟩ 1 1 [.int .i64 (j : Int)] rfl rfl (fun x u hu => by have hh := cell_one_new (w5.setCell ⟨L, j * 4 + 3, none⟩ (.int .i64 (i : Int))) (.int .i64 (j : Int)) 3 x u hu; rw [HSC.out] at hh; exact hh) (by simp [Value.oneCell']) (by unfold maxLen; omega) (by omega) (by simp; omega) ?_; intro v7 w7 own7 hgr7 _)
              have bA : Below w5.heap.size (w5.setCell ⟨L, j * 4 + 3, none⟩ (.int .i64 (i : Int))) ((w5.setCell ⟨L, j * 4 + 3, none⟩ (.int .i64 (i : Int))).alloc (.cells #[.int .i64 (j : Int)] 3)) := (Below.refl _ _).alloc (by rw [HSC.out]; exact Nat.le_refl _) _
              have bC : Below (w.heap.size + 1) (w5.setCell ⟨L, j * 4 + 3, none⟩ (.int .i64 (i : Int))) w7 := (bA.mono (by omega)).grown hgr7 (by simp; omega) (fun x hx => (own5.lt x hx).1)
              have hS7 : SpotsAt w7 L sp (ofA κ i (markA A' j)) := hSet5.keep (bC.block _ (by omega))
              have hg7 : KeepN (w.heap.size + 1) L w1 w7 := (hg5.set _).below bC (Nat.le_refl _)
              go_roundw
              case rel =>
                refine ⟨j + 1, markA A' j, wk' ++ [j], by omega, by simp, ?_, by simp [markA, hAk], NX.out (markA A' j) (fun m h => by simp [markA, h]) (fun _ => by simp [markA]), hS7, ?_, by simp; omega, by simp; omega, hg7⟩
                · have h0 := HH'.out
                  refine ⟨fun x hx => ?_, by simp [markA, h0.me], fun x hx => ?_, fun x hx => ?_⟩
                  · rcases List.mem_append.1 hx with hx | hx
                    · exact ⟨(h0.inn x hx).1, by simp [markA, (h0.inn x hx).2]⟩
                    · simp at hx; subst hx
                      exact ⟨by rw [HN.out]; exact hlt, by simp [markA]⟩
                  · by_cases e : x = j
                    · subst e
                      exact ⟨by rw [← hsp.same k x hlkj]; exact hki.1, by rw [HN.out]; exact hlt⟩
                    · exact h0.mine x (by simpa [markA, e] using hx)
                  · by_cases e : x = j
                    · subst e
                      exact .inr (.inl (by simp))
                    · rcases h0.done x (by simpa [markA, e] using hx) with h | h | h
                      · exact .inl h
                      · exact .inr (.inl (by simp [h]))
                      · exact .inr (.inr fun m hm => by simp [markA, h m hm])
                · rw [List.length_append, natsV_snoc]
                  exact own7
              case measure => simp [intOf]; omega
          · have hnd : decide (oj < 0) = false := decide_eq_false hn
            gi_wp2
            refine ⟨⟨j + 1, A', wk', by omega, by simp, HH'.out, hAk, NX.out A' (fun _ h => h) (fun h => ?_), hSq, ownq, by omega, hmu, hgq⟩, by simp [intOf]; omega⟩
            cases hA : A' j with
            | true => rfl
            | false =>
              exfalso
              have h1 : ¬ κ j < i := by have := hsp.same k j h; omega
              exact hn (HNEG.out.2 ⟨h1, hA⟩)
        · have hjN : j = N := by omega
          obtain ⟨aq, cq, rfl⟩ := row_slice ownq
          have HM : Hid (2 * negs wr L N + lenV (.slice aq wk'.length cq) = 2 * nA κ i A' N + wk'.length) := by
            show _ = _
            rw [show negs wr L N = nA κ i A' N from by rw [← HN.out]; exact hSq.negs]; rfl
          have hHn : Hunt sp p dx dy κ i A' wk' none := ⟨hH'.inn, hH'.me, hH'.mine, fun x hx => by
            rcases hH'.done x hx with h | h | h
            · cases h
              refine .inr (.inr fun m hl => hlk m ?_ hl)
              unfold lkJ at hl
              cases hm : sp[m]? with
              | none => rw [hm] at hl; split at hl <;> simp_all
              | some y =>
                have := (List.getElem?_eq_some_iff.1 hm).1
                rw [HN.out] at this
                omega
            · exact .inr (.inl h)
            · exact .inr (.inr h)⟩
          have hji : ¬ (j : Int) < (N : Int) := by omega
          clear hlk hH'
          gi_wp2
          exact ⟨⟨A', wk', hHn, hSq, ownq, by omega, hgq⟩, by rw [HM.out, HG.out]; omega⟩

end Go.Proofs.YtiohpcnnpmnjhaaGreatDoor

import Derived.Test.YtiohpcnnpmnjhaaGreatDoorRfNM
import Derived.Test.YtiohpcnnpmnjhaaGreatDoorBlk
namespace Go.Proofs.YtiohpcnnpmnjhaaGreatDoor
open Go.RowKit
set_option linter.unusedVariables false

theorem tenV_small {s : ByteArray} {i k : Nat} (h : ∀ j, j < k → isDg (pk s (i + j)) = true) (hk : k ≤ 4) : tenV s i k = dv s i k := by
  rcases tenV_dv s i k h with h1 | ⟨_, h2⟩
  · exact h1
  · have h3 := dv_lt s i k h
    have h4 : 10 ^ k ≤ 10000 := Nat.pow_le_pow_right (n := 10) (by omega) hk
    omega

/-- A run's count, and what the runs are from there. -/
def CountOut (s : ByteArray) (i : Nat) (n : Int) (k : Nat) (bad : Bool) : Prop :=
  (bad = true ∧ runsAt s i = .inl k) ∨
  (bad = false ∧ i ≤ k ∧ k ≤ s.size ∧ ∃ m : Nat, n = (m : Int) ∧ m ≤ 9999 ∧
    ((pk s k = 33 ∧ runsAt s i = .inr ([], k + 1)) ∨ (isLt (pk s k) = true ∧ runsAt s i = ahead [(m, pk s k)] (runsAt s (bl s (k + 1)))) ∨ (pk s k ≠ 33 ∧ isLt (pk s k) = false ∧ runsAt s i = .inl k)))
theorem rcount_runs (s : ByteArray) (i : Nat) (hi : i ≤ s.size) : CountOut s i (rcount s i).1 (rcount s i).2.1 (rcount s i).2.2 := by
  have hrun := runsAt_eq s i hi
  cases hd : isDg (pk s i) with
  | true =>
    have hd' := isDg_iff.1 hd
    rw [if_neg (by omega)] at hrun
    by_cases hb : pk s i = 48 ∨ 4 < dg s i - i
    · have hc : rcount s i = (0, i, true) := by rw [rcount, if_pos hd, if_pos hb]
      rw [show cntTok s i = none by rw [cntTok, if_pos hd, if_pos hb]] at hrun
      rw [hc]
      exact .inl ⟨rfl, hrun⟩
    · have hdl := dg_le s i hi
      have hall : ∀ j, j < dg s i - i → isDg (pk s (i + j)) = true := fun j hj => skip_all (i := i) hi (by omega) (by show i + j < dg s i; omega)
      have hc : rcount s i = (((dv s i (dg s i - i) : Nat) : Int), bl s (dg s i), pk s (bl s (dg s i)) == 33) := by rw [rcount, if_pos hd, if_neg hb, tenV_small hall (by omega)]
      have hbl := bl_le s (dg s i) hdl.2
      have h9 : dv s i (dg s i - i) ≤ 9999 := by
        have h3 := dv_lt s i _ hall
        have h4 : 10 ^ (dg s i - i) ≤ 10000 := Nat.pow_le_pow_right (n := 10) (by omega) (by omega : dg s i - i ≤ 4)
        omega
      rw [show cntTok s i = some (dv s i (dg s i - i), bl s (dg s i)) by rw [cntTok, if_pos hd, if_neg hb]] at hrun
      simp only at hrun
      rw [hc]
      by_cases h33 : pk s (bl s (dg s i)) = 33
      · rw [if_neg (by rw [h33]; decide)] at hrun
        exact .inl ⟨by simpa using h33, hrun⟩
      · refine .inr ⟨by simpa using h33, by simp only; omega, hbl.2, _, rfl, h9, ?_⟩
        cases hl : isLt (pk s (bl s (dg s i))) with
        | true => rw [if_pos hl] at hrun; exact .inr (.inl ⟨rfl, hrun⟩)
        | false => rw [if_neg (by rw [hl]; decide)] at hrun; exact .inr (.inr ⟨h33, rfl, hrun⟩)
  | false =>
    have hc : rcount s i = (1, i, false) := by rw [rcount, if_neg (by rw [hd]; decide)]
    rw [hc]
    refine .inr ⟨rfl, Nat.le_refl _, hi, 1, rfl, by omega, ?_⟩
    by_cases h33 : pk s i = 33
    · rw [if_pos h33] at hrun
      exact .inl ⟨h33, hrun⟩
    · rw [if_neg h33, show cntTok s i = some (1, i) by rw [cntTok, if_neg (by rw [hd]; decide)]] at hrun
      simp only at hrun
      cases hl : isLt (pk s i) with
      | true => rw [if_pos hl] at hrun; exact .inr (.inl ⟨rfl, hrun⟩)
      | false => rw [if_neg (by rw [hl]; decide)] at hrun; exact .inr (.inr ⟨h33, rfl, hrun⟩)

/-- Behind the runs nothing may stand. -/
def rtail (s : ByteArray) (x y : Int) : Nat ⊕ (List (Nat × Int) × Nat) → Nat ⊕ (Int × Int × List (Nat × Int))
  | .inl e => .inl e
  | .inr (l, e) => if bl s e < s.size then .inl (bl s e) else .inr (x, y, l)
/-- The whole text, as the reference reads it. -/
def rparse (s : ByteArray) : Nat ⊕ (Int × Int × List (Nat × Int)) :=
  match rnumTok s (bl s 0) with
  | none => .inl (bl s 0)
  | some (x, j) =>
    if bl s j = j then .inl j
    else match rnumTok s (bl s j) with
      | none => .inl (bl s j)
      | some (y, k) =>
        rtail s x y (runsAt s (bl s k))

theorem RAt.of_block {w w' : World} {b : Nat} {s : ByteArray} {i : Nat} {bad : Bool} (h : RAt w b s i bad) (e : w'.heap[b]? = w.heap[b]?) : RAt w' b s i bad :=
  ⟨(show w'.cell? ⟨b, 0, none⟩ = w.cell? ⟨b, 0, none⟩ from World.cell?_of_block e).trans h.c0, (show w'.cell? ⟨b, 1, none⟩ = w.cell? ⟨b, 1, none⟩ from World.cell?_of_block e).trans h.c1,
   (show w'.cell? ⟨b, 2, none⟩ = w.cell? ⟨b, 2, none⟩ from World.cell?_of_block e).trans h.c2,
   (show w'.frozen? ⟨b, 1, none⟩ = w.frozen? ⟨b, 1, none⟩ from World.frozen?_of_block e).trans h.f1, (show w'.frozen? ⟨b, 2, none⟩ = w.frozen? ⟨b, 2, none⟩ from World.frozen?_of_block e).trans h.f2⟩
theorem RAt.alloc {w : World} {b : Nat} {s : ByteArray} {i : Nat} {bad : Bool} (h : RAt w b s i bad) (o : Obj) : RAt (w.alloc o) b s i bad := h.of_block (Below.heap_alloc w o b h.lt)
theorem RAt.other {w : World} {b : Nat} {s : ByteArray} {i : Nat} {bad : Bool} (h : RAt w b s i bad) {a : Addr} (hne : b ≠ a.block) (v : Value) : RAt (w.setCell a v) b s i bad := h.of_block (Below.heap_setCell w a v b hne)

theorem rnumber_some (b : Nat) (s : ByteArray) (i : Nat) (z : Int) (j : Nat) (hz : rnumTok s i = some (z, j)) (hi : i ≤ s.size) (hs : s.size ≤ 1500) (w : World) (h : RAt w b s i false) :
    Calls Tryz.prog 79 #[.pointer (some ⟨b, 0, none⟩)] w fun e w' => e = .returned (.int .i64 z) ∧ RAt w' b s j false ∧ Near b w w' :=
  (rnumber_any b s i w h hi hs).mono fun e w' ⟨n, o⟩ => by
    rw [hz] at o
    rcases o with ⟨hh, _⟩ | ⟨z', j', hz', he, ha⟩
    · cases hh
    · cases hz'; exact ⟨he, ha, n⟩
theorem rnumber_none (b : Nat) (s : ByteArray) (i : Nat) (hz : rnumTok s i = none) (hi : i ≤ s.size) (hs : s.size ≤ 1500) (w : World) (h : RAt w b s i false) :
    Calls Tryz.prog 79 #[.pointer (some ⟨b, 0, none⟩)] w fun e w' => e = .returned (.int .i64 0) ∧ RAt w' b s i true ∧ Near b w w' :=
  (rnumber_any b s i w h hi hs).mono fun e w' ⟨n, o⟩ => by
    rw [hz] at o
    rcases o with ⟨_, he, ha⟩ | ⟨z', j', hz', _⟩
    · exact ⟨he, ha, n⟩
    · cases hz'

/-- What has been read: x, y, the counts, the kinds. -/
abbrev runsT (x y : Int) (v : Value) (kd : ByteArray) : Obj := .cells #[.int .i64 x, .int .i64 y, v, .string kd] 97 (0, 0)

/-- The kinds are the runs' letters. -/
def KD (kd : ByteArray) (acc : List (Nat × Int)) : Prop := kd.data.toList.map (fun c => (c.toNat : Int)) = acc.map (·.2)

/-- What read does. -/
def ReadOut (b : Nat) (s : ByteArray) (w : World) (r : Nat ⊕ (Int × Int × List (Nat × Int))) (e : Ending) (w' : World) : Prop :=
  Pad b w.heap.size w w' ∧ match r with
    | .inl i => (∃ x y ad n c kd, e = .returned (.agg #[.int .i64 x, .int .i64 y, .slice ad n c, .string kd])) ∧ RAt w' b s i true
    | .inr (x, y, l) => ∃ v kd i, e = .returned (.agg #[.int .i64 x, .int .i64 y, v, .string kd]) ∧ RAt w' b s i false ∧ w'.ownsRow w.heap.size 3 1 v l.length (l.map fun r => .int .i64 (r.1 : Int)) ∧ KD kd l

theorem Near.pad {b B : Nat} {x y : World} (h : Near b x y) : Pad b B x y := ⟨h.os, h.tape, h.output, Nat.le_of_eq h.size.symm, fun k _ hb => h.block k hb⟩
theorem Pad.alloc {b B : Nat} {x y : World} (h : Pad b B x y) (hB : B ≤ y.heap.size) (o : Obj) : Pad b B x (y.alloc o) := h.trans (Pad.of_below ((Below.refl B y).alloc hB o))
theorem Pad.set {b B : Nat} {x y : World} (h : Pad b B x y) {a : Addr} (hB : B ≤ a.block) (v : Value) : Pad b B x (y.setCell a v) := h.trans (Pad.of_below ((Below.refl B y).setCell hB v))
theorem Pad.drewN {b B : Nat} {x y : World} (h : Pad b B x y) (n : Nat) : Pad b B x (y.drewN n) := ⟨h.os, h.tape, h.output, h.size, h.block⟩

theorem row_near {w w' : World} {b B m n : Nat} {e : TypeId} {v : Value} {xs : List Value} (own : w.ownsRow B e m v n xs) (h : Near b w w') (hb : b < B) : w'.ownsRow B e m v n xs := ownsRow_of_block own fun k hk => h.block k (by omega)
theorem row_setb {w : World} {B m n : Nat} {e : TypeId} {v : Value} {xs : List Value} (own : w.ownsRow B e m v n xs) {a : Addr} (hb : a.block < B) (u : Value) : (w.setCell a u).ownsRow B e m v n xs := ownsRow_of_block own fun k hk => Below.heap_setCell w a u k (by omega)
theorem row_set {W : World} {B b j m n : Nat} {cs : Array Value} {t e : TypeId} {fz : Nat × Nat} {v : Value} {xs : List Value} (hb : W.ownsRow B e m v n xs) (h : W.heap[b]? = some (.cells cs t fz)) (ht : t ≠ e) (u : Value) : (W.setCell ⟨b, j, none⟩ u).ownsRow B e m v n xs := by
  obtain ⟨h1, h2⟩ := hb
  refine ⟨h1, ?_⟩
  rcases h2 with h2 | ⟨g, cap, cur, hv, hgb, hh, r⟩
  · exact .inl h2
  · refine .inr ⟨g, cap, cur, hv, hgb, blk_set hh (fun e => ?_) u, r⟩
    simp only at e
    subst e
    rw [h] at hh; cases hh; exact ht rfl
theorem RAt.drew {w : World} {b : Nat} {s : ByteArray} {i : Nat} {bad : Bool} (h : RAt w b s i bad) : RAt w.drew b s i bad := ⟨h.c0, h.c1, h.c2, h.f1, h.f2⟩
/-- The four stores of the answer. -/
theorem ret4 {W W0 : World} {b R : Nat} {s : ByteArray} {i : Nat} {bad : Bool} {x y : Int} {v : Value} {kd : ByteArray} (hp : Pad b R W0 W) (ha : RAt W b s i bad) (hb : b ≠ R) (r : W.heap[R]? = some (runsT 0 0 (.slice none 0 0) ⟨#[]⟩)) :
    Pad b R W0 ((((W.setCell ⟨R, 0, none⟩ (.int .i64 x)).setCell ⟨R, 1, none⟩ (.int .i64 y)).setCell ⟨R, 2, none⟩ v).setCell ⟨R, 3, none⟩ (.string kd)) ∧ RAt ((((W.setCell ⟨R, 0, none⟩ (.int .i64 x)).setCell ⟨R, 1, none⟩ (.int .i64 y)).setCell ⟨R, 2, none⟩ v).setCell ⟨R, 3, none⟩ (.string kd)) b s i bad ∧
      ∀ {n : Nat} {u : Value} {xs : List Value}, W.ownsRow R 3 1 u n xs → ((((W.setCell ⟨R, 0, none⟩ (.int .i64 x)).setCell ⟨R, 1, none⟩ (.int .i64 y)).setCell ⟨R, 2, none⟩ v).setCell ⟨R, 3, none⟩ (.string kd)).ownsRow R 3 1 u n xs :=
  ⟨(((hp.set (a := ⟨R, 0, none⟩) (Nat.le_refl _) _).set (a := ⟨R, 1, none⟩) (Nat.le_refl _) _).set (a := ⟨R, 2, none⟩) (Nat.le_refl _) _).set (a := ⟨R, 3, none⟩) (Nat.le_refl _) _,
   (((ha.other (a := ⟨R, 0, none⟩) hb _).other (a := ⟨R, 1, none⟩) hb _).other (a := ⟨R, 2, none⟩) hb _).other (a := ⟨R, 3, none⟩) hb _,
   fun own => row_set (row_set (row_set (row_set own r (by decide) _) (blk_put r _) (by decide) _) (blk_put (blk_put r _) _) (by decide) _) (blk_put (blk_put (blk_put r _) _) _) (by decide) _⟩

theorem row_form {w : World} {B n : Nat} {e : TypeId} {v : Value} {xs : List Value} (own : w.ownsRow B e 1 v (n + 1) xs) : ∃ g c, v = .slice (some ⟨g, 0, none⟩) (n + 1) c := by
  rcases own.2 with ⟨_, h0⟩ | ⟨g, cap, _, rfl, _⟩
  · omega
  · exact ⟨g, cap, rfl⟩
theorem row_rat {W w2 : World} {B b n : Nat} {e : TypeId} {v : Value} {xs : List Value} {o : Obj} {s : ByteArray} {i : Nat} {bad : Bool} (own : W.ownsRow B e 1 v n xs) (hg : World.grownBy (W.alloc o) w2 v.ownBlock) (a : RAt W b s i bad) (hb : b < B) : RAt w2 b s i bad :=
  a.of_block ((hg.block b (by have := a.lt; simp; omega) (fun h => by have := (own.lt b h.symm).1; omega)).trans (Below.heap_alloc W o b a.lt))
theorem row_pad {W0 W w2 : World} {B b n : Nat} {e : TypeId} {v : Value} {xs : List Value} {o : Obj} (own : W.ownsRow B e 1 v n xs) (hg : World.grownBy (W.alloc o) w2 v.ownBlock) (hs : W0.heap.size ≤ W.heap.size) (hB : W0.heap.size = B) (hp : Pad b B W0 W) : Pad b B W0 w2 :=
  hp.trans (Pad.of_below (((Below.refl B W).alloc (by omega) o).grown hg (by simp; omega) (fun k hk => (own.lt k hk).1)))
theorem conv_one (W : World) (c : UInt8) (k : Int) (hk : (c.toNat : Int) = k) : (convert 115 9 (.slice (some ⟨W.heap.size, 0, none⟩) 1 1)).run Tryz.prog (W.alloc (.cells #[.int .u8 k] 5)) = .ok (.string ⟨#[c]⟩) (W.alloc (.cells #[.int .u8 k] 5)) := by
  subst hk
  exact run_convert_bytes_back _ _ _ 5 ⟨W.heap.size, 0, none⟩ 1 [c] Tryz.underlying115 Tryz.underlying5 Tryz.underlying9 fun j hj => by
    obtain rfl : j = 0 := by simpa using hj
    simp [Addr.add]
theorem infoInt : (Tryz.prog.info? 3).map (fun i => (i.zero, i.size, i.bytes)) = some (some (.int .i64 0), 1, 8) := by kernel_rfl

/-- The answer laid, and left. -/
theorem read_ret {W W0 : World} {b R : Nat} {s : ByteArray} {r : Nat ⊕ (Int × Int × List (Nat × Int))} {x y : Int} {v : Value} {kd : ByteArray} {a : Act} (hv : ∃ ad n c, v = .slice ad n c) (h2 : a.tmps.getD 2 undef = .pointer (some ⟨R, 0, none⟩)) (hd : a.defers = [])
    (hr : W.heap[R]? = some (runsT 0 0 (.slice none 0 0) ⟨#[]⟩))
    (ho : ∀ W', W' = (((W.setCell ⟨R, 0, none⟩ (.int .i64 x)).setCell ⟨R, 1, none⟩ (.int .i64 y)).setCell ⟨R, 2, none⟩ v).setCell ⟨R, 3, none⟩ (.string kd) → ReadOut b s W0 r (.returned (.agg #[.int .i64 x, .int .i64 y, v, .string kd])) W') :
    bodyPost Tryz.prog Tryz.f52 (ReadOut b s W0 r) .ret a ((((W.setCell ⟨R, 0, none⟩ (.int .i64 x)).setCell ⟨R, 1, none⟩ (.int .i64 y)).setCell ⟨R, 2, none⟩ v).setCell ⟨R, 3, none⟩ (.string kd)) := by
  have rF : ((((W.setCell ⟨R, 0, none⟩ (.int .i64 x)).setCell ⟨R, 1, none⟩ (.int .i64 y)).setCell ⟨R, 2, none⟩ v).setCell ⟨R, 3, none⟩ (.string kd)).heap[R]? = some (runsT x y v kd) := blk_put (blk_put (blk_put (blk_put hr _) _) _) _
  have ho' := ho _ rfl
  obtain ⟨W', hW'⟩ : ∃ W', ((((W.setCell ⟨R, 0, none⟩ (.int .i64 x)).setCell ⟨R, 1, none⟩ (.int .i64 y)).setCell ⟨R, 2, none⟩ v).setCell ⟨R, 3, none⟩ (.string kd)) = W' := ⟨_, rfl⟩
  rw [hW'] at rF ho' ⊢
  have z0 := cell_of rF 0
  have z1 := cell_of rF 1
  have z2 := cell_of rF 2
  have z3 := cell_of rF 3
  obtain ⟨ad, n, c, rfl⟩ := hv
  have h2' : a.tmps[2]?.getD undef = .pointer (some ⟨R, 0, none⟩) := by simpa using h2
  exact bodyPost_ret (v := .agg #[.int .i64 x, .int .i64 y, .slice ad n c, .string kd]) (by simp [results, Tryz.results52, go_sem, h2', z0, z1, z2, z3]) hd ho'

set_option maxRecDepth 100000 in
set_option maxHeartbeats 3200000 in
theorem rread_loop (b : Nat) (s : ByteArray) (x y : Int) (j k : Nat) (w : World) (h : RAt w b s 0 false) (hs : s.size ≤ 1500) (h1 : rnumTok s (bl s 0) = some (x, j)) (hj : bl s 0 ≤ j ∧ j ≤ s.size) (h2 : j < bl s j) (h3 : rnumTok s (bl s j) = some (y, k)) (hk : k ≤ s.size) :
    Calls Tryz.prog 52 #[.pointer (some ⟨b, 0, none⟩)] w (ReadOut b s w (rtail s x y (runsAt s (bl s k)))) := by
  have ⟨c0, c1, c2, f1, f2⟩ := h
  have hb0 := bl_le s 0 (by omega)
  have hb1 := bl_le s j hj.2
  have hlt := h.lt
  obtain ⟨T, hT⟩ : ∃ T, w.heap.size + 1 = T := ⟨_, rfl⟩
  have nbT : ¬ b = T := by omega
  have nTb : ¬ T = b := by omega
  have a1 := (h.alloc (.cells #[.int .i64 0, .int .i64 0, .slice none 0 0, .string ⟨#[]⟩] 97)).alloc (.cells #[.int .i64 0, .int .i64 0, .slice none 0 0, .string ⟨#[]⟩] 97)
  have t1 : ((w.alloc (.cells #[.int .i64 0, .int .i64 0, .slice none 0 0, .string ⟨#[]⟩] 97)).alloc (.cells #[.int .i64 0, .int .i64 0, .slice none 0 0, .string ⟨#[]⟩] 97)).heap[T]? = some (runsT 0 0 (.slice none 0 0) ⟨#[]⟩) := by
    have := blk_new (w.alloc (.cells #[.int .i64 0, .int .i64 0, .slice none 0 0, .string ⟨#[]⟩] 97)) (.cells #[.int .i64 0, .int .i64 0, .slice none 0 0, .string ⟨#[]⟩] 97)
    rw [World.size_alloc, hT] at this; exact this
  have hB0 := rblanks_any b s 0 false _ a1 (by omega) hs
  have hN0 := rnumber_some b s (bl s 0) x j h1 hb0.2 hs
  have hB1 := fun (w : World) (h : RAt w b s j false) => rblanks_any b s j false w h hj.2 hs
  have hN1 := rnumber_some b s (bl s j) y k h3 hb1.2 hs
  have hB2 := fun (w : World) (h : RAt w b s k false) => rblanks_any b s k false w h hk hs
  have hdj : decide (j < bl s j) = true := by simpa using h2
  simp only [hdj] at hB1
  go_enter Tryz.func52, Tryz.ntmps52
  go_wp2_with (first
    | (go_at_call 78; refine hB0.mono ?_; rintro e w2 ⟨rfl, a2, n2⟩; have t2 := (n2.block T nTb).trans t1; clear hB0)
    | (go_at_call 79; refine (hN0 _ a2).mono ?_; rintro e w3 ⟨rfl, a3, n3⟩; have t3 := (n3.block T nTb).trans t2; have q1 := cell_of t3 0; have q2 := frz_of t3 0; have a4 := a3.other (a := ⟨T, 0, none⟩) nbT (.int .i64 x); have ⟨d0, d1, d2, d3, d4⟩ := a4; have t4 : (w3.setCell ⟨T, 0, none⟩ (.int .i64 x)).heap[T]? = some (runsT x 0 (.slice none 0 0) ⟨#[]⟩) := blk_put t3 _; clear hN0)
    | (go_at_call 78; refine (hB1 _ a4).mono ?_; rintro e w5 ⟨rfl, a5, n5⟩; have t5 := (n5.block T nTb).trans t4; have ⟨g0, g1, g2, g3, g4⟩ := a5))
  go_quiet (fail)
  go_wp2_with (first
    | (go_at_call 79; refine (hN1 _ (a5.drewN _)).mono ?_; rintro e w6 ⟨rfl, a6, n6⟩; have t6 := (n6.block T nTb).trans (show (w5.drewN _).heap[T]? = _ from t5); have q3 := cell_of t6 1; have q4 := frz_of t6 1; have a7 := a6.other (a := ⟨T, 1, none⟩) nbT (.int .i64 y); have ⟨p0, p1, p2, p3, p4⟩ := a7; have t7 : (w6.setCell ⟨T, 1, none⟩ (.int .i64 y)).heap[T]? = some (runsT x y (.slice none 0 0) ⟨#[]⟩) := blk_put t6 _)
    | (go_at_call 78; refine (hB2 _ a7).mono ?_; rintro e w8 ⟨rfl, a8, n8⟩; have t8 := (n8.block T nTb).trans t7))
  have hblk := bl_le s k hk
  obtain ⟨R0, hR0⟩ : ∃ R0, w.heap.size = R0 := ⟨_, rfl⟩
  rw [hR0] at hT
  have pd8 : Pad b R0 w w8 := by
    rw [← hR0]
    have := ((((((Pad.refl b w.heap.size w).alloc (Nat.le_refl _) (.cells #[.int .i64 0, .int .i64 0, .slice none 0 0, .string ⟨#[]⟩] 97)).alloc (by simp) (.cells #[.int .i64 0, .int .i64 0, .slice none 0 0, .string ⟨#[]⟩] 97)).trans n2.pad).trans n3.pad).set (a := ⟨T, 0, none⟩) (by show w.heap.size ≤ T; omega) (.int .i64 x)).trans n5.pad
    exact (((this.drewN _).trans n6.pad).set (a := ⟨T, 1, none⟩) (by show w.heap.size ≤ T; omega) (.int .i64 y)).trans n8.pad
  have nRb : R0 ≠ b := by omega
  have hbR : b < R0 := by omega
  have nRT : R0 ≠ T := by omega
  have r1 : ((w.alloc (.cells #[.int .i64 0, .int .i64 0, .slice none 0 0, .string ⟨#[]⟩] 97)).alloc (.cells #[.int .i64 0, .int .i64 0, .slice none 0 0, .string ⟨#[]⟩] 97)).heap[R0]? = some (runsT 0 0 (.slice none 0 0) ⟨#[]⟩) := by rw [← hR0]; exact blk_old (blk_new w _) _
  have r3 := (n3.block R0 nRb).trans ((n2.block R0 nRb).trans r1)
  have r5 := (n5.block R0 nRb).trans (blk_set (a := ⟨T, 0, none⟩) r3 nRT (.int .i64 x))
  have r7 := blk_set (a := ⟨T, 1, none⟩) ((n6.block R0 nRb).trans (show (w5.drewN _).heap[R0]? = _ from r5)) nRT (.int .i64 y)
  have r8 := (n8.block R0 nRb).trans r7
  have own8 : w8.ownsRow R0 3 1 (.slice none 0 0) 0 [] := World.ownsRow_nil _ _ _ _
  clear hB1 hN1 hB2 a1 t1 c0 c1 c2 f1 f2 n2 n3 n5 n6 n8 r1 r3 r5 r7 t2 t3 t4 t5 t6 t7 a2 a3 a4 a5 a6 a7 d0 d1 d2 d3 d4 g0 g1 g2 g3 g4 p0 p1 p2 p3 p4 q1 q2 q3 q4
  rw [hR0]
  go_loopg [] (s.size - bl s k) (fun g wr => ∃ (i : Nat) (acc : List (Nat × Int)) (ad : Option Addr) (cp : Nat) (kd : ByteArray), i ≤ s.size ∧ g = s.size - i ∧ acc.length ≤ i ∧ RAt wr b s i false ∧ wr.heap[T]? = some (runsT x y (.slice ad acc.length cp) kd) ∧ wr.heap[R0]? = some (runsT 0 0 (.slice none 0 0) ⟨#[]⟩) ∧ wr.ownsRow R0 3 1 (.slice ad acc.length cp) acc.length (acc.map fun r => .int .i64 (r.1 : Int)) ∧ KD kd acc ∧ Pad b R0 w wr ∧ Hid (runsAt s (bl s k) = ahead acc (runsAt s i)))
  case atStart => exact ⟨bl s k, [], none, 0, ⟨#[]⟩, hblk.2, rfl, Nat.zero_le _, a8, t8, r8, own8, rfl, pd8, (ahead_nil _).symm⟩
  case round =>
    obtain ⟨i, acc, ad, cp, kd, hi, rfl, hacc, ha, ht, hr, own, hkd, hp, hx⟩ := hrel
    have ⟨c0, c1, c2, f1, f2⟩ := ha
    have hC := rcount_any b s i wr ha hi hs
    have hO := rcount_runs s i hi
    obtain ⟨⟨n, m, bad⟩, hnm⟩ : ∃ z, rcount s i = z := ⟨_, rfl⟩
    rw [hnm] at hC hO
    simp only at hC hO
    clear hnm
    have hx' := hx.out
    clear hx
    have wT := blk_lt ht
    have sz := hp.size
    rcases hO with ⟨rfl, hrn⟩ | ⟨rfl, him, hms, m', rfl, hm9, hO⟩
    · rw [hrn] at hx'
      have HX : Hid (runsAt s (bl s k) = .inl m) := hx'
      clear hx' hrn
      go_wp2_with (go_at_call 80; refine hC.mono ?_; rintro e w1 ⟨n1, rfl, a1⟩; have ⟨d0, d1, d2, d3, d4⟩ := a1; have t1 := (n1.block T nTb).trans ht; have r1 := (n1.block R0 nRb).trans hr; have q0 := cell_of t1 0; have q1 := cell_of t1 1; have q2 := cell_of t1 2; have q3 := cell_of t1 3; have y0 := cell_of r1 0; have y1 := cell_of r1 1; have y2 := cell_of r1 2; have y3 := cell_of r1 3; have x0 := frz_of r1 0; have x1 := frz_of r1 1; have x2 := frz_of r1 2; have x3 := frz_of r1 3)
      refine read_ret ⟨_, _, _, rfl⟩ rfl rfl r1 ?_
      rintro W' rfl
      rw [HX.out]
      exact ⟨by rw [hR0]; exact ((((hp.trans n1.pad).set (a := ⟨R0, 0, none⟩) (Nat.le_refl _) _).set (a := ⟨R0, 1, none⟩) (Nat.le_refl _) _).set (a := ⟨R0, 2, none⟩) (Nat.le_refl _) _).set (a := ⟨R0, 3, none⟩) (Nat.le_refl _) _, ⟨_, _, _, _, _, _, rfl⟩, (((a1.other (a := ⟨R0, 0, none⟩) nRb.symm _).other (a := ⟨R0, 1, none⟩) nRb.symm _).other (a := ⟨R0, 2, none⟩) nRb.symm _).other (a := ⟨R0, 3, none⟩) nRb.symm _⟩
    · rcases hO with ⟨h33, hrn⟩ | ⟨hlt, hrn⟩ | ⟨h33, hlt, hrn⟩
      · rw [hrn] at hx'
        have HX : Hid (runsAt s (bl s k) = .inr (acc ++ [], m + 1)) := hx'
        clear hx' hrn
        have hml := lt_of_pk (s := s) (i := m) (by omega)
        have hpk := pk_in hml
        have e33 : ((s[m].toNat : Int) == 33) = true := by rw [← hpk]; simpa using h33
        have hge : decide ((s.size : Int) ≤ (m : Int)) = false := by simp; omega
        have hB := fun (w : World) (h : RAt w b s (m + 1) false) => rblanks_any b s (m + 1) false w h (by omega) hs
        have hb2 := bl_le s (m + 1) (by omega)
        obtain ⟨q, hq⟩ : ∃ q, bl s (m + 1) = q := ⟨_, rfl⟩
        simp only [hq] at hB
        rw [hq] at hb2
        clear hpk h33
        go_wp2_with (go_at_call 80; refine hC.mono ?_; rintro e w1 ⟨n1, rfl, a1⟩; have ⟨d0, d1, d2, d3, d4⟩ := a1; have t1 := (n1.block T nTb).trans ht; have r1 := (n1.block R0 nRb).trans hr; have q0 := cell_of t1 0; have q1 := cell_of t1 1; have q2 := cell_of t1 2; have q3 := cell_of t1 3; have y0 := cell_of r1 0; have y1 := cell_of r1 1; have y2 := cell_of r1 2; have y3 := cell_of r1 3; have x0 := frz_of r1 0; have x1 := frz_of r1 1; have x2 := frz_of r1 2; have x3 := frz_of r1 3)
        go_quiet (fail)
        go_wp2
        go_quiet (fail)
        go_wp2_with (go_at_call 78; refine (hB _ ((a1.drewN _).setI (m + 1) (by simp))).mono ?_; rintro e w2 ⟨rfl, a2, n2⟩; have ⟨g0, g1, g2, g3, g4⟩ := a2; have t2 := (n2.block T nTb).trans (blk_set (a := ⟨b, 1, none⟩) (show (w1.drewN _).heap[T]? = _ from t1) nTb _); have r2 := (n2.block R0 nRb).trans (blk_set (a := ⟨b, 1, none⟩) (show (w1.drewN _).heap[R0]? = _ from r1) nRb _); have q0 := cell_of t2 0; have q1 := cell_of t2 1; have q2 := cell_of t2 2; have q3 := cell_of t2 3; have y0 := cell_of r2 0; have y1 := cell_of r2 1; have y2 := cell_of r2 2; have y3 := cell_of r2 3; have x0 := frz_of r2 0; have x1 := frz_of r2 1; have x2 := frz_of r2 2; have x3 := frz_of r2 3; have p2 := (((hp.trans n1.pad).drewN _).trans ((Near.refl b _).setCell 1 _).pad).trans n2.pad)
        by_cases hqs : q < s.size
        · have hqd : decide ((q : Int) < (s.size : Int)) = true := by simp; omega
          go_region
          go_wp2
          have rF : ((w2.setCell ⟨b, 2, none⟩ (.bool true)).drew).heap[R0]? = some (runsT 0 0 (.slice none 0 0) ⟨#[]⟩) := blk_set (a := ⟨b, 2, none⟩) r2 nRb _
          have pF : Pad b R0 w (w2.setCell ⟨b, 2, none⟩ (.bool true)).drew := (p2.setCell 2 _).drew
          have aF := (a2.setBad true).drew
          refine read_ret (W := (w2.setCell ⟨b, 2, none⟩ (.bool true)).drew) (x := x) (y := y) (v := .slice ad acc.length cp) (kd := kd) ⟨_, _, _, rfl⟩ rfl rfl rF ?_
          rintro W' rfl
          have ⟨f1, f2, f3⟩ := ret4 (x := x) (y := y) (v := .slice ad acc.length cp) (kd := kd) pF aF nRb.symm rF
          rw [HX.out]
          simp only [rtail, hq, if_pos hqs]
          exact ⟨by rw [hR0]; exact f1, ⟨_, _, _, _, _, _, rfl⟩, f2⟩
        · have hqd : decide ((q : Int) < (s.size : Int)) = false := by simp; omega
          go_region
          go_wp2
          have rF : ((w2.setCell ⟨b, 2, none⟩ (.bool false)).drew).heap[R0]? = some (runsT 0 0 (.slice none 0 0) ⟨#[]⟩) := blk_set (a := ⟨b, 2, none⟩) r2 nRb _
          have pF : Pad b R0 w (w2.setCell ⟨b, 2, none⟩ (.bool false)).drew := (p2.setCell 2 _).drew
          have aF := (a2.setBad false).drew
          refine read_ret (W := (w2.setCell ⟨b, 2, none⟩ (.bool false)).drew) (x := x) (y := y) (v := .slice ad acc.length cp) (kd := kd) ⟨_, _, _, rfl⟩ rfl rfl rF ?_
          rintro W' rfl
          have ⟨f1, f2, f3⟩ := ret4 (x := x) (y := y) (v := .slice ad acc.length cp) (kd := kd) pF aF nRb.symm rF
          rw [HX.out]
          simp only [rtail, hq, if_neg hqs]
          refine ⟨by rw [hR0]; exact f1, _, kd, _, rfl, f2, ?_, by rw [List.append_nil]; exact hkd⟩
          rw [hR0, List.append_nil]
          refine f3 ?_
          exact row_setb (a := ⟨b, 2, none⟩) (row_near (row_setb (a := ⟨b, 1, none⟩) (row_near own (n1.drewN _) hbR) hbR _) n2 hbR) hbR _
      · rw [hrn, ahead_ahead] at hx'
        have HX : Hid (runsAt s (bl s k) = ahead (acc ++ [(m', pk s m)]) (runsAt s (bl s (m + 1)))) := hx'
        clear hx' hrn
        have hml := lt_of_pk (s := s) (i := m) (isLt_pos hlt)
        have hpk := pk_in hml
        have hge : decide ((s.size : Int) ≤ (m : Int)) = false := by simp; omega
        have hl := hlt
        unfold isLt at hl
        simp only [Bool.or_eq_true, beq_iff_eq] at hl
        rw [hpk] at hl HX
        obtain ⟨i0, hi', hz0, hz1, hz2⟩ := info_parts infoInt
        have own0 := own
        have hB := fun (w : World) (h : RAt w b s (m + 1) false) => rblanks_any b s (m + 1) false w h (by omega) hs
        have hb2 := bl_le s (m + 1) (by omega)
        obtain ⟨q, hq⟩ : ∃ q, bl s (m + 1) = q := ⟨_, rfl⟩
        simp only [hq] at hB
        rw [hq] at hb2 HX
        clear hq hlt hpk
        rcases hl with (hl | hl) | hl
        · have e33 : ((s[m].toNat : Int) == 33) = false := by rw [hl]; decide
          rw [hl] at HX
          go_wp2_with (go_at_call 80; refine hC.mono ?_; rintro e w1 ⟨n1, rfl, a1⟩; have ⟨d0, d1, d2, d3, d4⟩ := a1; have t1 := (n1.block T nTb).trans ht; have r1 := (n1.block R0 nRb).trans hr; have q0 := cell_of t1 0; have q1 := cell_of t1 1; have q2 := cell_of t1 2; have q3 := cell_of t1 3; have y0 := cell_of r1 0; have y1 := cell_of r1 1; have y2 := cell_of r1 2; have y3 := cell_of r1 3; have x0 := frz_of r1 0; have x1 := frz_of r1 1; have x2 := frz_of r1 2; have x3 := frz_of r1 3)
          go_quiet (fail)
          go_wp2
          go_quiet (fail)
          have own1 := fun N => row_near own (n1.drewN N) hbR
          have hkl : kd.size ≤ 1500 := by have := congrArg List.length hkd; simp at this; have h2 : kd.size = kd.data.size := rfl; omega
          have hsz1 := (hp.trans n1.pad).size
          go_wp2_with (at_builtin; refine wpList_append_own _ rfl _ _ 95 rfl R0 3 i0 (.int .i64 0) 1 8 Tryz.underlying95 hi' hz0 hz1 hz2 rfl (by decide) _ _ _ rfl ((own1 _).alloc _) ⟨w1.heap.size, 0, none⟩ 1 1 [Value.int .i64 (m' : Int)] rfl rfl (cell_one_new _ _ _) (by simp [Value.oneCell']) (by unfold maxLen; omega) (by omega) (by simp; omega) ?_; intro v2 w2 own2 hg2 _; obtain ⟨g3, cp3, rfl⟩ := row_form own2; have t2 := other_kept ((own1 _).alloc _) hg2 (blk_old (show (w1.drewN _).heap[T]? = _ from t1) _) (by decide); have r2 := other_kept ((own1 _).alloc _) hg2 (blk_old (show (w1.drewN _).heap[R0]? = _ from r1) _) (by decide); have a2 := row_rat (own1 _) hg2 (a1.drewN _) hbR; have p2 := row_pad (own1 _) hg2 hsz1 hR0 ((hp.trans n1.pad).drewN _); have u2 := cell_of t2 2; have u3 := cell_of t2 3; have z2 := frz_of t2 2; have z3 := frz_of t2 3; have ⟨k0, k1, k2, k3, k4⟩ := a2)
          have hcv := conv_one (w2.setCell ⟨T, 2, none⟩ (.slice (some ⟨g3, 0, none⟩) (acc.length + 1) cp3)) 98 98 rfl
          rw [World.size_setCell] at hcv
          rw [hcv]
          have a3 := ((a2.other (a := ⟨T, 2, none⟩) nbT (.slice (some ⟨g3, 0, none⟩) (acc.length + 1) cp3)).alloc (.cells #[.int .u8 98] 5))
          have t3 := blk_old (blk_put (j := 2) t2 (.slice (some ⟨g3, 0, none⟩) (acc.length + 1) cp3)) (.cells #[.int .u8 98] 5)
          have r3 := blk_old (blk_set (a := ⟨T, 2, none⟩) r2 nRT (.slice (some ⟨g3, 0, none⟩) (acc.length + 1) cp3)) (.cells #[.int .u8 98] 5)
          have ⟨l0, l1, l2, l3, l4⟩ := a3
          have q33 := cell_of t3 3
          have z33 := frz_of t3 3
          go_wp2_with (go_at_call 78; refine (hB _ ((a3.other (a := ⟨T, 3, none⟩) nbT _).setI (m + 1) (by simp))).mono ?_; rintro e w4 ⟨rfl, a4, n4⟩)
          go_roundg (s.size - q)
          case measure => omega
          case rel =>
            have own3 := row_setb (a := ⟨b, 1, none⟩) (row_set (j := 3) ((row_set (j := 2) own2 t2 (by decide) (.slice (some ⟨g3, 0, none⟩) (acc.length + 1) cp3)).alloc (.cells #[.int .u8 98] 5)) t3 (by decide) (.string (kd ++ ⟨#[98]⟩))) hbR (.int .i64 ((m : Int) + 1))
            refine ⟨q, acc ++ [(m', 98)], some ⟨g3, 0, none⟩, cp3, kd ++ ⟨#[98]⟩, hb2.2, rfl, by simp; omega, a4, ?_, ?_, ?_, ?_, ?_, ?_⟩
            · rw [List.length_append]
              exact (n4.block T nTb).trans (blk_set (a := ⟨b, 1, none⟩) (blk_put (j := 3) t3 _) nTb _)
            · exact (n4.block R0 nRb).trans (blk_set (a := ⟨b, 1, none⟩) (blk_set (a := ⟨T, 3, none⟩) r3 nRT _) nRb _)
            · have := row_near own3 n4 hbR
              simpa using this
            · unfold KD at hkd ⊢
              simp [hkd]
            · exact (((((p2.set (a := ⟨T, 2, none⟩) (by show R0 ≤ T; omega) _).alloc (by have := p2.size; simp; omega) _).set (a := ⟨T, 3, none⟩) (by show R0 ≤ T; omega) _).setCell 1 _).trans n4.pad)
            · exact HX.out
        · have e33 : ((s[m].toNat : Int) == 33) = false := by rw [hl]; decide
          rw [hl] at HX
          go_wp2_with (go_at_call 80; refine hC.mono ?_; rintro e w1 ⟨n1, rfl, a1⟩; have ⟨d0, d1, d2, d3, d4⟩ := a1; have t1 := (n1.block T nTb).trans ht; have r1 := (n1.block R0 nRb).trans hr; have q0 := cell_of t1 0; have q1 := cell_of t1 1; have q2 := cell_of t1 2; have q3 := cell_of t1 3; have y0 := cell_of r1 0; have y1 := cell_of r1 1; have y2 := cell_of r1 2; have y3 := cell_of r1 3; have x0 := frz_of r1 0; have x1 := frz_of r1 1; have x2 := frz_of r1 2; have x3 := frz_of r1 3)
          go_quiet (fail)
          go_wp2
          go_quiet (fail)
          have own1 := fun N => row_near own (n1.drewN N) hbR
          have hkl : kd.size ≤ 1500 := by have := congrArg List.length hkd; simp at this; have h2 : kd.size = kd.data.size := rfl; omega
          have hsz1 := (hp.trans n1.pad).size
          go_wp2_with (at_builtin; refine wpList_append_own _ rfl _ _ 95 rfl R0 3 i0 (.int .i64 0) 1 8 Tryz.underlying95 hi' hz0 hz1 hz2 rfl (by decide) _ _ _ rfl ((own1 _).alloc _) ⟨w1.heap.size, 0, none⟩ 1 1 [Value.int .i64 (m' : Int)] rfl rfl (cell_one_new _ _ _) (by simp [Value.oneCell']) (by unfold maxLen; omega) (by omega) (by simp; omega) ?_; intro v2 w2 own2 hg2 _; obtain ⟨g3, cp3, rfl⟩ := row_form own2; have t2 := other_kept ((own1 _).alloc _) hg2 (blk_old (show (w1.drewN _).heap[T]? = _ from t1) _) (by decide); have r2 := other_kept ((own1 _).alloc _) hg2 (blk_old (show (w1.drewN _).heap[R0]? = _ from r1) _) (by decide); have a2 := row_rat (own1 _) hg2 (a1.drewN _) hbR; have p2 := row_pad (own1 _) hg2 hsz1 hR0 ((hp.trans n1.pad).drewN _); have u2 := cell_of t2 2; have u3 := cell_of t2 3; have z2 := frz_of t2 2; have z3 := frz_of t2 3; have ⟨k0, k1, k2, k3, k4⟩ := a2)
          have hcv := conv_one (w2.setCell ⟨T, 2, none⟩ (.slice (some ⟨g3, 0, none⟩) (acc.length + 1) cp3)) 111 111 rfl
          rw [World.size_setCell] at hcv
          rw [hcv]
          have a3 := ((a2.other (a := ⟨T, 2, none⟩) nbT (.slice (some ⟨g3, 0, none⟩) (acc.length + 1) cp3)).alloc (.cells #[.int .u8 111] 5))
          have t3 := blk_old (blk_put (j := 2) t2 (.slice (some ⟨g3, 0, none⟩) (acc.length + 1) cp3)) (.cells #[.int .u8 111] 5)
          have r3 := blk_old (blk_set (a := ⟨T, 2, none⟩) r2 nRT (.slice (some ⟨g3, 0, none⟩) (acc.length + 1) cp3)) (.cells #[.int .u8 111] 5)
          have ⟨l0, l1, l2, l3, l4⟩ := a3
          have q33 := cell_of t3 3
          have z33 := frz_of t3 3
          go_wp2_with (go_at_call 78; refine (hB _ ((a3.other (a := ⟨T, 3, none⟩) nbT _).setI (m + 1) (by simp))).mono ?_; rintro e w4 ⟨rfl, a4, n4⟩)
          go_roundg (s.size - q)
          case measure => omega
          case rel =>
            have own3 := row_setb (a := ⟨b, 1, none⟩) (row_set (j := 3) ((row_set (j := 2) own2 t2 (by decide) (.slice (some ⟨g3, 0, none⟩) (acc.length + 1) cp3)).alloc (.cells #[.int .u8 111] 5)) t3 (by decide) (.string (kd ++ ⟨#[111]⟩))) hbR (.int .i64 ((m : Int) + 1))
            refine ⟨q, acc ++ [(m', 111)], some ⟨g3, 0, none⟩, cp3, kd ++ ⟨#[111]⟩, hb2.2, rfl, by simp; omega, a4, ?_, ?_, ?_, ?_, ?_, ?_⟩
            · rw [List.length_append]
              exact (n4.block T nTb).trans (blk_set (a := ⟨b, 1, none⟩) (blk_put (j := 3) t3 _) nTb _)
            · exact (n4.block R0 nRb).trans (blk_set (a := ⟨b, 1, none⟩) (blk_set (a := ⟨T, 3, none⟩) r3 nRT _) nRb _)
            · have := row_near own3 n4 hbR
              simpa using this
            · unfold KD at hkd ⊢
              simp [hkd]
            · exact (((((p2.set (a := ⟨T, 2, none⟩) (by show R0 ≤ T; omega) _).alloc (by have := p2.size; simp; omega) _).set (a := ⟨T, 3, none⟩) (by show R0 ≤ T; omega) _).setCell 1 _).trans n4.pad)
            · exact HX.out
        · have e33 : ((s[m].toNat : Int) == 33) = false := by rw [hl]; decide
          rw [hl] at HX
          go_wp2_with (go_at_call 80; refine hC.mono ?_; rintro e w1 ⟨n1, rfl, a1⟩; have ⟨d0, d1, d2, d3, d4⟩ := a1; have t1 := (n1.block T nTb).trans ht; have r1 := (n1.block R0 nRb).trans hr; have q0 := cell_of t1 0; have q1 := cell_of t1 1; have q2 := cell_of t1 2; have q3 := cell_of t1 3; have y0 := cell_of r1 0; have y1 := cell_of r1 1; have y2 := cell_of r1 2; have y3 := cell_of r1 3; have x0 := frz_of r1 0; have x1 := frz_of r1 1; have x2 := frz_of r1 2; have x3 := frz_of r1 3)
          go_quiet (fail)
          go_wp2
          go_quiet (fail)
          have own1 := fun N => row_near own (n1.drewN N) hbR
          have hkl : kd.size ≤ 1500 := by have := congrArg List.length hkd; simp at this; have h2 : kd.size = kd.data.size := rfl; omega
          have hsz1 := (hp.trans n1.pad).size
          go_wp2_with (at_builtin; refine wpList_append_own _ rfl _ _ 95 rfl R0 3 i0 (.int .i64 0) 1 8 Tryz.underlying95 hi' hz0 hz1 hz2 rfl (by decide) _ _ _ rfl ((own1 _).alloc _) ⟨w1.heap.size, 0, none⟩ 1 1 [Value.int .i64 (m' : Int)] rfl rfl (cell_one_new _ _ _) (by simp [Value.oneCell']) (by unfold maxLen; omega) (by omega) (by simp; omega) ?_; intro v2 w2 own2 hg2 _; obtain ⟨g3, cp3, rfl⟩ := row_form own2; have t2 := other_kept ((own1 _).alloc _) hg2 (blk_old (show (w1.drewN _).heap[T]? = _ from t1) _) (by decide); have r2 := other_kept ((own1 _).alloc _) hg2 (blk_old (show (w1.drewN _).heap[R0]? = _ from r1) _) (by decide); have a2 := row_rat (own1 _) hg2 (a1.drewN _) hbR; have p2 := row_pad (own1 _) hg2 hsz1 hR0 ((hp.trans n1.pad).drewN _); have u2 := cell_of t2 2; have u3 := cell_of t2 3; have z2 := frz_of t2 2; have z3 := frz_of t2 3; have ⟨k0, k1, k2, k3, k4⟩ := a2)
          have hcv := conv_one (w2.setCell ⟨T, 2, none⟩ (.slice (some ⟨g3, 0, none⟩) (acc.length + 1) cp3)) 36 36 rfl
          rw [World.size_setCell] at hcv
          rw [hcv]
          have a3 := ((a2.other (a := ⟨T, 2, none⟩) nbT (.slice (some ⟨g3, 0, none⟩) (acc.length + 1) cp3)).alloc (.cells #[.int .u8 36] 5))
          have t3 := blk_old (blk_put (j := 2) t2 (.slice (some ⟨g3, 0, none⟩) (acc.length + 1) cp3)) (.cells #[.int .u8 36] 5)
          have r3 := blk_old (blk_set (a := ⟨T, 2, none⟩) r2 nRT (.slice (some ⟨g3, 0, none⟩) (acc.length + 1) cp3)) (.cells #[.int .u8 36] 5)
          have ⟨l0, l1, l2, l3, l4⟩ := a3
          have q33 := cell_of t3 3
          have z33 := frz_of t3 3
          go_wp2_with (go_at_call 78; refine (hB _ ((a3.other (a := ⟨T, 3, none⟩) nbT _).setI (m + 1) (by simp))).mono ?_; rintro e w4 ⟨rfl, a4, n4⟩)
          go_roundg (s.size - q)
          case measure => omega
          case rel =>
            have own3 := row_setb (a := ⟨b, 1, none⟩) (row_set (j := 3) ((row_set (j := 2) own2 t2 (by decide) (.slice (some ⟨g3, 0, none⟩) (acc.length + 1) cp3)).alloc (.cells #[.int .u8 36] 5)) t3 (by decide) (.string (kd ++ ⟨#[36]⟩))) hbR (.int .i64 ((m : Int) + 1))
            refine ⟨q, acc ++ [(m', 36)], some ⟨g3, 0, none⟩, cp3, kd ++ ⟨#[36]⟩, hb2.2, rfl, by simp; omega, a4, ?_, ?_, ?_, ?_, ?_, ?_⟩
            · rw [List.length_append]
              exact (n4.block T nTb).trans (blk_set (a := ⟨b, 1, none⟩) (blk_put (j := 3) t3 _) nTb _)
            · exact (n4.block R0 nRb).trans (blk_set (a := ⟨b, 1, none⟩) (blk_set (a := ⟨T, 3, none⟩) r3 nRT _) nRb _)
            · have := row_near own3 n4 hbR
              simpa using this
            · unfold KD at hkd ⊢
              simp [hkd]
            · exact (((((p2.set (a := ⟨T, 2, none⟩) (by show R0 ≤ T; omega) _).alloc (by have := p2.size; simp; omega) _).set (a := ⟨T, 3, none⟩) (by show R0 ≤ T; omega) _).setCell 1 _).trans n4.pad)
            · exact HX.out
      · rw [hrn] at hx'
        have HX : Hid (runsAt s (bl s k) = .inl m) := hx'
        clear hx' hrn
        by_cases hml : m < s.size
        · have hpk := pk_in hml
          have hge : decide ((s.size : Int) ≤ (m : Int)) = false := by simp; omega
          have hl := hlt
          unfold isLt at hl
          simp only [Bool.or_eq_false_iff, beq_eq_false_iff_ne] at hl
          have e33 : ((s[m].toNat : Int) == 33) = false := by rw [← hpk]; simpa using h33
          have e98 : ((s[m].toNat : Int) == 98) = false := by rw [← hpk]; simpa using hl.1.1
          have e111 : ((s[m].toNat : Int) == 111) = false := by rw [← hpk]; simpa using hl.1.2
          have e36 : ((s[m].toNat : Int) == 36) = false := by rw [← hpk]; simpa using hl.2
          have f98 : ((s[m].toNat : Int) != 98) = true := by simp only [bne, e98]; rfl
          have f111 : ((s[m].toNat : Int) != 111) = true := by simp only [bne, e111]; rfl
          have f36 : ((s[m].toNat : Int) != 36) = true := by simp only [bne, e36]; rfl
          have n98 : ¬ (s[m].toNat : Int) = 98 := by simpa using e98
          have n111 : ¬ (s[m].toNat : Int) = 111 := by simpa using e111
          have n36 : ¬ (s[m].toNat : Int) = 36 := by simpa using e36
          clear hpk h33 hlt hl
          go_wp2_with (go_at_call 80; refine hC.mono ?_; rintro e w1 ⟨n1, rfl, a1⟩; have ⟨d0, d1, d2, d3, d4⟩ := a1; have t1 := (n1.block T nTb).trans ht; have r1 := (n1.block R0 nRb).trans hr; have q0 := cell_of t1 0; have q1 := cell_of t1 1; have q2 := cell_of t1 2; have q3 := cell_of t1 3; have y0 := cell_of r1 0; have y1 := cell_of r1 1; have y2 := cell_of r1 2; have y3 := cell_of r1 3; have x0 := frz_of r1 0; have x1 := frz_of r1 1; have x2 := frz_of r1 2; have x3 := frz_of r1 3)
          go_quiet (fail)
          go_wp2
          go_quiet (fail)
          go_wp2
          have rF : ∀ N, ((w1.drewN N).setCell ⟨b, 2, none⟩ (.bool true)).heap[R0]? = some (runsT 0 0 (.slice none 0 0) ⟨#[]⟩) := fun N => blk_set (a := ⟨b, 2, none⟩) (show (w1.drewN N).heap[R0]? = _ from r1) nRb (.bool true)
          have aF := fun N => (a1.drewN N).setBad true
          have pF : ∀ N, Pad b R0 w ((w1.drewN N).setCell ⟨b, 2, none⟩ (.bool true)) := fun N => ((hp.trans n1.pad).drewN N).setCell 2 _
          refine read_ret (W := (w1.drewN _).setCell ⟨b, 2, none⟩ (.bool true)) (x := x) (y := y) (v := .slice ad acc.length cp) (kd := kd) ⟨_, _, _, rfl⟩ rfl rfl (rF _) ?_
          rintro W' rfl
          rw [HX.out]
          exact ⟨by rw [hR0]; exact (ret4 (pF _) (aF _) nRb.symm (rF _)).1, ⟨_, _, _, _, _, _, rfl⟩, (ret4 (pF _) (aF _) nRb.symm (rF _)).2.1⟩
        · have hge : decide ((s.size : Int) ≤ (m : Int)) = true := by simp; omega
          clear h33 hlt
          go_wp2_with (go_at_call 80; refine hC.mono ?_; rintro e w1 ⟨n1, rfl, a1⟩; have ⟨d0, d1, d2, d3, d4⟩ := a1; have t1 := (n1.block T nTb).trans ht; have r1 := (n1.block R0 nRb).trans hr; have q0 := cell_of t1 0; have q1 := cell_of t1 1; have q2 := cell_of t1 2; have q3 := cell_of t1 3; have y0 := cell_of r1 0; have y1 := cell_of r1 1; have y2 := cell_of r1 2; have y3 := cell_of r1 3; have x0 := frz_of r1 0; have x1 := frz_of r1 1; have x2 := frz_of r1 2; have x3 := frz_of r1 3)
          go_quiet (fail)
          go_wp2
          have rF : ∀ N, ((w1.drewN N).setCell ⟨b, 2, none⟩ (.bool true)).heap[R0]? = some (runsT 0 0 (.slice none 0 0) ⟨#[]⟩) := fun N => blk_set (a := ⟨b, 2, none⟩) (show (w1.drewN N).heap[R0]? = _ from r1) nRb (.bool true)
          have aF := fun N => (a1.drewN N).setBad true
          have pF : ∀ N, Pad b R0 w ((w1.drewN N).setCell ⟨b, 2, none⟩ (.bool true)) := fun N => ((hp.trans n1.pad).drewN N).setCell 2 _
          refine read_ret (W := (w1.drewN _).setCell ⟨b, 2, none⟩ (.bool true)) (x := x) (y := y) (v := .slice ad acc.length cp) (kd := kd) ⟨_, _, _, rfl⟩ rfl rfl (rF _) ?_
          rintro W' rfl
          rw [HX.out]
          exact ⟨by rw [hR0]; exact (ret4 (pF _) (aF _) nRb.symm (rF _)).1, ⟨_, _, _, _, _, _, rfl⟩, (ret4 (pF _) (aF _) nRb.symm (rF _)).2.1⟩

end Go.Proofs.YtiohpcnnpmnjhaaGreatDoor

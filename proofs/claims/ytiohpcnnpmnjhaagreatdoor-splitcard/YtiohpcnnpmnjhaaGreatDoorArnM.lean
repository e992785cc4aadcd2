import Derived.RangeFuncNested
import Derived.RangeFuncCalls
import Derived.RangeFuncBox
import Derived.Test.YtiohpcnnpmnjhaaGreatDoorLifeSpec
import Derived.RangeFuncBound
import Derived.RangeFuncLeaves
import Derived.Shelf.Abstract
import Derived.Shelf.RegionOpen
import Derived.OwnWalkIn
import Derived.TacticsInMore
import Derived.LoopNIn
import Derived.LoopIn
import Derived.Stop.RegionWithIn
import Derived.Sort.QuietIn
import Derived.Sort.BigQuietIn
import Derived.Maps.OwnIn
import Derived.WideKeyPair
import Derived.WideKeyEntry
import Derived.Test.YtiohpcnnpmnjhaaGreatDoorBlk
import Derived.Test.YtiohpcnnpmnjhaaGreatDoorCellRow
namespace Go.Proofs.YtiohpcnnpmnjhaaGreatDoor
open Go.RowKit
set_option linter.unusedVariables false

/-- What an iterator's own work leaves of a world: all that lies below n, and every block of cells. -/
structure Ab (n : Nat) (A B : World) : Prop where
  be : Below n A B
  cells : ∀ (k : Nat) (o : Obj), A.heap[k]? = some o → o.isCells = true → B.heap[k]? = some o
theorem Ab.refl (n : Nat) (A : World) : Ab n A A := ⟨Below.refl _ _, fun _ _ h _ => h⟩
theorem Ab.trans {n : Nat} {A B C : World} (h : Ab n A B) (k : Ab n B C) : Ab n A C := ⟨h.be.trans k.be, fun j o hj hc => k.cells j o (h.cells j o hj hc) hc⟩
theorem Ab.mono {n m : Nat} {A B : World} (h : Ab n A B) (hm : m ≤ n) : Ab m A B := ⟨h.be.mono hm, h.cells⟩
theorem Ab.alloc {n : Nat} (A : World) (hn : n ≤ A.heap.size) (o : Obj) : Ab n A (A.alloc o) :=
  ⟨(Below.refl _ A).alloc hn o, fun k o' hk _ => (Below.heap_alloc A o k (Array.getElem?_eq_some_iff.1 hk).1).trans hk⟩
theorem Ab.putObj {n : Nat} {A : World} {l : Nat} {o : Obj} (hn : n ≤ l) (hl : A.heap[l]? = some o) (ho : o.isCells = false) (o' : Obj) : Ab n A (A.putObj l o') := by
  refine ⟨⟨rfl, rfl, rfl, by simp, fun k hk => World.putObj_heap_other (by omega)⟩, fun k x hk hc => ?_⟩
  by_cases e : k = l
  · subst e; rw [hl] at hk; cases hk; rw [ho] at hc; cases hc
  · exact (World.putObj_heap_other e).trans hk

/-- An iterator that gives out elements of which it says something (El), and which may panic. -/
def SeqP {α : Type} (F : Fence) (n : Nat) (P : Program) (g : Nat) (lb : Array Value) (encs : α → Array Value) (El : List α → α → World → Prop) (Kp : World → World → Prop) (End : List α → Prop) (Pan : List α → List PanicEntry → Prop) (w : World) : Prop :=
  ∀ (l : Nat) (J Jx : List α → World → Prop) (W : World), Below w.heap.size w W → (∀ pre A B, J pre A → Ab W.heap.size A B → J pre B) → (∀ pre A B, Jx pre A → Ab W.heap.size A B → Jx pre B) →
    (∀ pre x W1, J pre W1 → El pre x W1 → W.heap.size ≤ W1.heap.size → YieldAt F (n - 1) P l (encs x) W1 fun e W' => (e = .returned (.bool true) ∧ J (pre ++ [x]) W' ∧ Kp W1 W') ∨ (e = .returned (.bool false) ∧ Jx (pre ++ [x]) W')) →
    J [] W →
    CallsIn F n P g (#[.func (.yield l) #[] #[]] ++ lb) W fun e W' =>
      ((∃ v, e = .returned v) ∧ ((∃ xs, End xs ∧ J xs W') ∨ (∃ pre, Jx pre W'))) ∨ (∃ ch pre, e = .panicked ch ∧ Pan pre ch ∧ J pre W')

/-- A range over such an iterator. -/
theorem wpIn_rangeP {F : Fence} {n : Nat} {P : Program} {α : Type} {g : Operand} {ps : Array Tmp} {assign body : Code} {Q : Exit → Act → World → Prop} {a : Act} {w : World}
    (hro : F.round = none) (h1 : 1 ≤ n) {gf : Nat} {lb : Array Value} (hg : a.eval g = .func (.func gf) #[] lb) (hFg : F.fn gf) (eg : ∀ args w, (callFunc gf args).run P w = .ok (.enter gf args) w)
    {encs : α → Array Value} {El : List α → α → World → Prop} {Kp : World → World → Prop} {End : List α → Prop} {Pan : List α → List PanicEntry → Prop} (hseq : SeqP F (n - 1) P gf lb encs El Kp End Pan w)
    (hKt : ∀ {A B C : World}, Kp A B → Kp B C → Kp A C) (hKb : ∀ (W : World) (l : Nat) (r : Loop) (o : Obj), w.heap.size ≤ l → W.heap[l]? = some (.loop r) → Kp W (W.putObj l o)) (hps : ∀ x, (encs x).size = ps.size)
    (I : List α → World → Prop) (Ix : Code → List α → World → Prop) (hI : ∀ pre A B, I pre A → Ab w.heap.size A B → I pre B) (hIx : ∀ c pre A B, Ix c pre A → Ab w.heap.size A B → Ix c pre B) (hEl : ∀ pre x A B, El pre x A → Ab w.heap.size A B → El pre x B) (h0 : I [] w) (a1 : α → Act)
    (hassign : ∀ (l : Nat) (x : α) (W : World) (K : Act → World → Prop), K (a1 x) W → assign.wpIn (F.inRound l) (n - 1 - 1) P (Exit.then K (fun _ _ _ => False)) { tmps := (ps.zip (encs x)).foldl (fun t (p, v) => t.setIfInBounds p v) a.tmps, defers := [] } W)
    (hbody : ∀ (l : Nat) (pre : List α) (x : α) (W : World), w.heap.size ≤ l → I pre W → El pre x W → body.wpIn (F.inRound l) (n - 1 - 1) P (ownPostG w.heap.size Kp I Ix (pre ++ [x]) W) (a1 x) W)
    (hdone : ∀ (D : Nat) (xs : List α) (W : World), w.heap.size ≤ D → End xs → I xs W → W.heap[D]? = some (.deferred (some [])) → Q .normal { a with defers := { target := .collected D, args := #[] } :: a.defers } W)
    (hstop : ∀ (D : Nat) (c : Code) (pre : List α) (W : World), w.heap.size ≤ D → Ix c pre W → W.heap[D]? = some (.deferred (some [])) → c.wpIn F n P Q { a with defers := { target := .collected D, args := #[] } :: a.defers } W)
    (hpan : ∀ (D : Nat) (ch : List PanicEntry) (pre : List α) (W : World), w.heap.size ≤ D → Pan pre ch → I pre W → W.heap[D]? = some (.deferred (some [])) → Q (.panic ch) { a with defers := { target := .collected D, args := #[] } :: a.defers } W) :
    (Code.rangeFunc g ps assign body).wpIn F n P Q a w := by
  have hxy : ∀ {A B : World} {k : Nat} {o : Obj}, A.heap[k]? = some o → Ab (w.heap.size + 2) A B → k < w.heap.size + 2 → B.heap[k]? = some o := fun h hb hk => (hb.be.block _ hk).trans h
  refine wpIn_rangeFunc fun fn hfn => ?_
  rw [hro]
  let lp : LoopState → Option Code → Loop := fun st pe => { state := st, pending := pe, fn, tmps := a.tmps, params := ps, assign, body, defers := w.heap.size }
  let W1 : World := (w.alloc (.deferred (some []))).alloc (.loop (lp .ready none))
  have sz1 : W1.heap.size = w.heap.size + 2 := by show ((w.alloc _).alloc _).heap.size = _; simp
  have ab1 : Ab w.heap.size w W1 := (Ab.alloc w (Nat.le_refl _) _).trans (Ab.alloc _ (by simp) _)
  have hl1 : W1.heap[w.heap.size + 1]? = some (.loop (lp .ready none)) := by
    have := World.alloc_heap_new (w.alloc (.deferred (some []))) (.loop (lp .ready none))
    rwa [World.size_alloc] at this
  have hd1 : W1.heap[w.heap.size]? = some (.deferred (some [])) := (Below.heap_alloc (w.alloc (.deferred (some []))) _ _ (by simp)).trans (World.alloc_heap_new w _)
  refine ⟨w.heap.size + 1, [{ target := .collected w.heap.size, args := #[] }], W1, { target := .fn (.func gf) lb, args := #[.func (.yield (w.heap.size + 1)) #[] #[]] }, W1, gf, #[.func (.yield (w.heap.size + 1)) #[] #[]] ++ lb, W1, run_enterLoop_outer _ _ _ _ _, ?_, ?_, ?_, fun _ => h1, ?_⟩
  · simp only [resolve, hg]; simp [go_sem]
  · intro f' hf'
    simp [Target.leads] at hf'
    subst hf'; exact hFg
  · simp [invoke, go_sem, eg]
  -- the caller's word, and the two blocks of book-keeping
  let Bk (st : LoopState) (pe : Option Code) (W : World) : Prop := W.heap[w.heap.size + 1]? = some (.loop (lp st pe)) ∧ W.heap[w.heap.size]? = some (.deferred (some []))
  have hBk : ∀ {st pe A B}, Bk st pe A → Ab (w.heap.size + 2) A B → Bk st pe B := fun h hb => ⟨hxy h.1 hb (by omega), hxy h.2 hb (by omega)⟩
  refine (hseq (w.heap.size + 1) (fun pre W => I pre W ∧ Bk .ready none W) (fun pre W => ∃ c, Ix c pre W ∧ Bk .done (some c) W) W1 ab1.be
    (fun pre A B h hb => ⟨hI pre A B h.1 (hb.mono (by omega)), hBk h.2 (sz1 ▸ hb)⟩)
    (fun pre A B ⟨c, h, hk⟩ hb => ⟨c, hIx c pre A B h (hb.mono (by omega)), hBk hk (sz1 ▸ hb)⟩) ?_ ⟨hI [] w W1 h0 ab1, hl1, hd1⟩).mono ?_
  · rintro pre x W ⟨hi, hl, hd⟩ he hsz
    refine ⟨fn, _, assign, body, run_yield hl (hps x), roundIn_of_wpIn hfn (hassign _ x W _ ⟨_, run_beginRound hl rfl, ?_⟩)⟩
    have hlt : w.heap.size + 1 < W.heap.size := (Array.getElem?_eq_some_iff.1 hl).1
    have abb : Ab w.heap.size W (W.putObj (w.heap.size + 1) (.loop { lp .ready none with state := .busy })) := Ab.putObj (by omega) hl rfl _
    have hlb : (W.putObj (w.heap.size + 1) (.loop { lp .ready none with state := .busy })).heap[w.heap.size + 1]? = some (.loop { lp .ready none with state := .busy }) := World.putObj_heap_same hlt
    have hdb : (W.putObj (w.heap.size + 1) (.loop { lp .ready none with state := .busy })).heap[w.heap.size]? = some (.deferred (some [])) := (World.putObj_heap_other (by omega)).trans hd
    refine wpIn_mono (hbody _ pre x _ (by omega) (hI _ _ _ hi abb) (hEl _ _ _ _ he abb)) ?_
    -- how the round ends
    have ends : ∀ (jump : Option Code) (W3 : World), KeepsFrom w.heap.size (W.putObj (w.heap.size + 1) (.loop { lp .ready none with state := .busy })) W3 →
        ∃ W4, (Instr.endRound (w.heap.size + 1) jump).run P W3 = .ok (.bool jump.isNone) W4 ∧ Bk (if jump.isNone then .ready else .done) jump W4 ∧ Ab w.heap.size W3 W4 ∧ (∃ r o, W3.heap[w.heap.size + 1]? = some (.loop r) ∧ W4 = W3.putObj (w.heap.size + 1) o) := fun jump W3 hk => by
      have hl3 := hk.same _ _ (by omega) hlb rfl
      have hd3 := hk.same _ _ (Nat.le_refl _) hdb rfl
      exact ⟨_, run_endRound jump hl3, ⟨World.putObj_heap_same (Array.getElem?_eq_some_iff.1 hl3).1, (World.putObj_heap_other (by omega)).trans hd3⟩, Ab.putObj (by omega) hl3 rfl _, _, _, hl3, rfl⟩
    rintro e a3 W3 hp
    cases e with
    | normal =>
      obtain ⟨hk3, hkp3, hi3⟩ := hp
      obtain ⟨W4, hr, hb4, ab4, r, o, hl3, rfl⟩ := ends none W3 hk3
      exact ⟨_, _, hr, .inl ⟨rfl, ⟨hI _ _ _ hi3 ab4, hb4⟩, hKt (hKb _ _ _ _ (by omega) hl) (hKt hkp3 (hKb _ _ _ _ (by omega) hl3))⟩⟩
    | ret =>
      obtain ⟨W4, hr, hb4, ab4, _⟩ := ends (some .ret) W3 hp.1
      exact ⟨_, _, hr, .inr ⟨rfl, .ret, hIx _ _ _ _ hp.2 ab4, hb4⟩⟩
    | exit id =>
      obtain ⟨W4, hr, hb4, ab4, _⟩ := ends (some (.exit id)) W3 hp.1
      exact ⟨_, _, hr, .inr ⟨rfl, .exit id, hIx _ _ _ _ hp.2 ab4, hb4⟩⟩
    | goto t =>
      obtain ⟨W4, hr, hb4, ab4, _⟩ := ends (some (.goto t)) W3 hp.1
      exact ⟨_, _, hr, .inr ⟨rfl, .goto t, hIx _ _ _ _ hp.2 ab4, hb4⟩⟩
    | panic ch => exact hp.elim
    | outgrown => exact hp.elim
  · rintro e W2 (⟨⟨v, rfl⟩, (⟨xs, hS, hi, hb⟩ | ⟨pre, c, hi, hb⟩)⟩ | ⟨ch, pre, rfl, hpn, hi, hb⟩)
    · exact ⟨none, _, run_endLoop hb.1 (by intro h; cases h), hdone _ xs _ (Nat.le_refl _) hS (hI _ _ _ hi (Ab.putObj (by omega) hb.1 rfl _)) ((World.putObj_heap_other (by omega)).trans hb.2)⟩
    · exact ⟨some c, _, run_endLoop hb.1 (by intro h; cases h), hstop _ c pre _ (Nat.le_refl _) (hIx _ _ _ _ hi (Ab.putObj (by omega) hb.1 rfl _)) ((World.putObj_heap_other (by omega)).trans hb.2)⟩
    · exact hpan _ ch pre _ (Nat.le_refl _) hpn hi hb.2

end Go.Proofs.YtiohpcnnpmnjhaaGreatDoor

namespace Go.Proofs.YtiohpcnnpmnjhaaGreatDoor
open Go.RowKit Go.Shelf
set_option linter.unusedVariables false
attribute [local go_sem] Oper.semAt_some

/-- A cell as an iterator gives it out. -/
def encN (c : Cel) : Array Value := #[.agg #[.int .i64 c.1, .int .i64 c.2]]
/-- The eight cells around a cell, as they are given out: k of the nine places are through. -/
def eightTo (d : Cel) (k : Nat) : List Cel := ((around d).take k).filter fun c => !decide (c = d)
def eight (d : Cel) : List Cel := eightTo d 9

/-- What a round keeps: what lies below n, and the box b. -/
structure KpN (n b : Nat) (W W' : World) : Prop where
  be : Below n W W'
  bx : W'.heap[b]? = W.heap[b]?
theorem KpN.trans {n b : Nat} {X Y Z : World} (h : KpN n b X Y) (k : KpN n b Y Z) : KpN n b X Z := ⟨h.be.trans k.be, k.bx.trans h.bx⟩

theorem around9 (d : Cel) (k : Nat) (hk : k < 9) : (around d)[k]? = some (d.1 + ((k % 3 : Nat) : Int) - 1, d.2 + ((k / 3 : Nat) : Int) - 1) := by
  unfold around
  rw [List.getElem?_map, List.getElem?_range hk]
  rfl
theorem eightTo_succ (d : Cel) (k : Nat) (hk : k < 9) {c : Cel} (hc : c = (d.1 + ((k % 3 : Nat) : Int) - 1, d.2 + ((k / 3 : Nat) : Int) - 1)) : eightTo d (k + 1) = if c = d then eightTo d k else eightTo d k ++ [c] := by
  unfold eightTo
  rw [List.take_add_one, around9 d k hk, ← hc, List.filter_append]
  by_cases h : c = d
  · simp [h]
  · simp [h]
theorem eightTo_len (d : Cel) (k : Nat) : (eightTo d k).length ≤ k := by
  unfold eightTo
  exact Nat.le_trans (List.length_filter_le _ _) (List.length_take_le _ _)

theorem eightTo_sub {d x : Cel} {k : Nat} (hk : k ≤ 9) (h : x ∈ eightTo d k) : x ∈ eight d := by
  unfold eight eightTo at *
  rw [List.mem_filter] at h ⊢
  exact ⟨(List.take_subset_take_left _ hk) h.1, h.2⟩

theorem grown_below {W W' : World} (h : Below W.heap.size W W') : W.grownBy W' none := ⟨h.os, h.tape, h.output, h.size, fun k hk _ => h.block k hk⟩

theorem eqIn_cell2 (a b c d : Int) (w : World) : (Op.equalIn 10000 113 (.agg #[.int .i64 a, .int .i64 b]) (.agg #[.int .i64 c, .int .i64 d])).run Tryz.prog w = .ok (a == c && b == d) w := by
  have u3 := Tryz.underlying3
  have a3 := Tryz.isAgg3
  have z3 := Tryz.sizeOf3
  rw [show (10000 : Nat) = 9999 + 1 from rfl, Op.equalIn]
  simp only [Sem.run_bind, run_underlying Tryz.underlying113, Result.andThen_ok]
  simp only [Std.Legacy.Range.forIn_eq_forIn_range', Std.Legacy.Range.size, Nat.sub_zero, Nat.add_sub_cancel, Nat.div_one, List.range'_succ, List.range'_zero, List.forIn_cons, List.forIn_nil]
  go_simp
  by_cases h1 : a = c <;> by_cases h2 : b = d <;> simp [h1, h2]

set_option maxRecDepth 100000 in
set_option maxHeartbeats 1600000 in
theorem neighbours1_in (n : Nat) (hn : 2 ≤ n) (l Bs n₀ : Nat) (x y : Int) (hx : -4000000000000000000 ≤ x ∧ x ≤ 4000000000000000000) (hy : -4000000000000000000 ≤ y ∧ y ≤ 4000000000000000000)
    (J Jx : List Cel → World → Prop) (W : World) (hJ : AbidesFrom W.heap.size J)
    (hY : ∀ pre c W1, J pre W1 → c ∈ eight (x, y) → pre.length < 9 → YieldAt Fence.wide (n - 1) Tryz.prog l (encN c) W1 fun e W' => (e = .returned (.bool true) ∧ J (pre ++ [c]) W' ∧ KpN n₀ Bs W1 W') ∨ (e = .returned (.bool false) ∧ Jx (pre ++ [c]) W'))
    (hn0 : n₀ ≤ W.heap.size) (hBs : W.heap[Bs]? = some (.cells #[.int .i64 x, .int .i64 y] 113 (0, 0))) (h0 : J [] W) :
    CallsIn Fence.wide n Tryz.prog 169 #[.func (.yield l) #[] #[], .pointer (some ⟨Bs, 0, none⟩)] W fun e W' => (∃ v, e = .returned v) ∧ (J (eight (x, y)) W' ∨ (∃ pre, Jx pre W')) := by
  have h1n : 1 ≤ n := by omega
  have hnot : ∀ (x : Bool) (w : World), (Op.unary .not (.bool x)).run Tryz.prog w = .ok (.bool (!x)) w := fun _ _ => rfl
  have cB0 := cell_of hBs 0
  have cB1 := cell_of hBs 1
  have heq := fun a b c d w => eqIn_cell2 a b c d w
  refine callsIn_of_wp Tryz.func169 rfl trivial ?_ rfl
  simp only [Tryz.ntmps169, List.size_toArray, List.length_cons, List.length_nil, Nat.reduceAdd, Nat.reduceSub, Array.replicate_succ, Array.replicate_zero, List.push_toArray, List.append_toArray, List.nil_append, List.cons_append]
  gi_wp2
  gi_loopw [3] (fun i wr => ∃ r : Nat, r ≤ 3 ∧ i = .int .i64 (y - 1 + (r : Int)) ∧ J (eightTo (x, y) (3 * r)) wr ∧ KpN n₀ Bs W wr ∧ W.heap.size ≤ wr.heap.size) (fun i _ => (y + 2 - intOf i).toNat)
  case atStart => exact ⟨0, by omega, by simp, by simpa [eightTo] using h0, ⟨Below.refl _ _, rfl⟩, Nat.le_refl _⟩
  case round =>
    obtain ⟨r, hr, rfl, hJs, hkp, hsz⟩ := hrel
    have hb1 := hkp.bx.trans hBs
    have q0 := cell_of hb1 0
    have q1 := cell_of hb1 1
    obtain ⟨cy, hcy⟩ : ∃ cy, y - 1 + (r : Int) = cy := ⟨_, rfl⟩
    rw [hcy]
    have HCY : Hid (y - 1 + (r : Int) = cy) := hcy
    by_cases hlt : r < 3
    · have hle : cy ≤ y + 1 := by omega
      have hcyb : -4000000000000000001 ≤ cy ∧ cy ≤ 4000000000000000001 := by omega
      clear hcy
      gi_wp2
      gi_loopw [4] (fun i wr => ∃ k : Nat, k ≤ 3 ∧ i = .int .i64 (x - 1 + (k : Int)) ∧ J (eightTo (x, y) (3 * r + k)) wr ∧ KpN n₀ Bs W wr ∧ W.heap.size ≤ wr.heap.size) (fun i _ => (x + 2 - intOf i).toNat)
      case atStart => exact ⟨0, by omega, by simp, hJs, hkp, hsz⟩
      case round =>
        clear hJs hkp hsz hb1 q0 q1
        obtain ⟨k, hk, rfl, hJs, hkp, hsz⟩ := hrel
        have hb1 := hkp.bx.trans hBs
        have q0 := cell_of hb1 0
        have q1 := cell_of hb1 1
        have hBl := blk_lt hb1
        obtain ⟨cx, hcx⟩ : ∃ cx, x - 1 + (k : Int) = cx := ⟨_, rfl⟩
        rw [hcx]
        have HCX : Hid (x - 1 + (k : Int) = cx) := hcx
        by_cases hkt : k < 3
        · have hke : cx ≤ x + 1 := by omega
          have hcb : -4000000000000000001 ≤ cx ∧ cx ≤ 4000000000000000001 := by omega
          have hs := eightTo_succ (x, y) (3 * r + k) (by omega) (c := (cx, cy)) (by
            rw [show (3 * r + k) % 3 = k by omega, show (3 * r + k) / 3 = r by omega]
            have := HCY.out
            simp only [Prod.mk.injEq]
            omega)
          have hbz : Below wr.heap.size wr (wr.alloc (.cells #[.int .i64 cx, .int .i64 cy] 113)) := (Below.refl _ _).alloc (Nat.le_refl _) _
          have hJa := hJ _ wr _ none hJs (grown_below (W' := wr.alloc (.cells #[.int .i64 cx, .int .i64 cy] 113)) hbz) (fun r e => by cases e)
          have hln := eightTo_len (x, y) (3 * r + k)
          have kz : KpN n₀ Bs wr (wr.alloc (.cells #[.int .i64 cx, .int .i64 cy] 113)) := ⟨hbz.mono (by omega), hbz.block Bs hBl⟩
          have hr8 : 3 * r + k < 9 := by omega
          clear hcx
          by_cases he : cx = x ∧ cy = y
          · have HS : Hid (eightTo (x, y) (3 * r + (k + 1)) = eightTo (x, y) (3 * r + k)) := by
              show _ = _
              rw [show 3 * r + (k + 1) = 3 * r + k + 1 by omega, hs, if_pos (by rw [he.1, he.2])]
            clear hs
            obtain ⟨rfl, rfl⟩ := he
            gi_wp2
            refine ⟨(fun f hf => nomatch hf), ?_⟩
            gi_wp2
            go_roundw
            case rel => exact ⟨k + 1, by omega, by have := HCX.out; simp; omega, by rw [HS.out]; exact hJa, hkp.trans kz, by have := hbz.size; omega⟩
            case measure => have := HCX.out; simp [intOf]; omega
          · have hne : (cx == x && cy == y) = false := by simpa using he
            have hpe : ¬ ((cx, cy) : Cel) = (x, y) := by intro e; simp only [Prod.mk.injEq] at e; exact he e
            have HS : Hid (eightTo (x, y) (3 * r + (k + 1)) = eightTo (x, y) (3 * r + k) ++ [(cx, cy)]) := by
              show _ = _
              rw [show 3 * r + (k + 1) = 3 * r + k + 1 by omega, hs, if_neg hpe]
            obtain ⟨fn, tmps, assign, body, hy', hR⟩ := hY _ (cx, cy) _ hJa (eightTo_sub (k := 3 * r + (k + 1)) (by omega) (by rw [HS.out]; simp)) (by omega)
            dsimp only [encN] at hy'
            clear hs he hpe
            gi_wp2
            refine hR.mono ?_
            rintro e W3 (⟨rfl, hJ3, hk3⟩ | ⟨rfl, hJx3⟩)
            · gi_wp2
              go_roundw
              case rel => exact ⟨k + 1, by omega, by have := HCX.out; simp; omega, by rw [HS.out]; exact hJ3, hkp.trans (kz.trans hk3), by have := hbz.size; have := hk3.be.size; omega⟩
              case measure => have := HCX.out; simp [intOf]; omega
            · gi_wp2
              refine bodyPost_ret (results_none rfl _ _ _) rfl ?_
              exact ⟨⟨_, rfl⟩, .inr ⟨_, hJx3⟩⟩
        · have hke : ¬ cx ≤ x + 1 := by omega
          obtain rfl : k = 3 := by omega
          clear hcx
          gi_wp2
          go_roundw
          case rel => exact ⟨r + 1, by omega, by have := HCY.out; simp; omega, by rw [show 3 * (r + 1) = 3 * r + 3 by omega]; exact hJs, hkp, hsz⟩
          case measure => have := HCY.out; simp [intOf]; omega
    · have hle : ¬ cy ≤ y + 1 := by omega
      obtain rfl : r = 3 := by omega
      clear hcy
      gi_wp2
      go_end0
      exact ⟨⟨_, rfl⟩, .inl hJs⟩

end Go.Proofs.YtiohpcnnpmnjhaaGreatDoor

namespace Go.Proofs.YtiohpcnnpmnjhaaGreatDoor
open Go.RowKit Go.WideMaps Go.Maps
set_option linter.unusedVariables false

/-- What reads as a key of a type of pairs is a pair. -/
theorem keyOf_pair_inv {P : Program} {k e : TypeId} {q : IntKind} (A : ArrKey P k e 2) (he : P.underlying e = some (.int q)) (hsz : ∃ m, P.types.size = m + 1) {v : Value} {l : Lit} (h : keyOf P k v = some l) :
    ∃ a b, v = .agg #[.int q a, .int q b] ∧ (Lit.int q a).wf = true ∧ (Lit.int q b).wf = true := by
  obtain ⟨m, hm⟩ := hsz
  unfold keyOf at h
  simp only [A.hu] at h
  split at h
  · rename_i hf
    simp only [Bool.and_eq_true] at hf
    cases v <;> simp [Value.formed, A.hu] at hf
    rename_i cs
    have h2 := hf.2
    rw [A.size] at h2
    obtain ⟨x, y, rfl⟩ : ∃ x y, cs = #[x, y] := by
      obtain ⟨l⟩ := cs
      match l, h2 with
      | [x, y], _ => exact ⟨x, y, rfl⟩
    rw [hm] at h
    unfold Program.keyLits at h
    simp only [A.hu, Value.cells] at h
    rw [if_pos (by rw [A.size]; rfl), show List.range 2 = [0, 1] from rfl, List.mapM_cons, List.mapM_cons, List.mapM_nil] at h
    simp only [A.one, Nat.zero_mul, Nat.one_mul, List.drop_zero, List.take_succ_cons, List.take_zero, List.drop_succ_cons] at h
    have one : ∀ (x : Value) (r : List Lit), P.keyLits (m + 1) e [x] = some r → ∃ a, x = .int q a ∧ (Lit.int q a).wf = true := fun x r hx => by
      unfold Program.keyLits at hx
      simp only [he] at hx
      cases x <;> simp at hx
      exact ⟨_, by rw [hx.1.1], hx.1.2⟩
    cases hx : P.keyLits (m + 1) e [x] with
    | none => simp [hx] at h
    | some r =>
      cases hy : P.keyLits (m + 1) e [y] with
      | none => simp [hx, hy] at h
      | some s =>
        obtain ⟨a, rfl, wa⟩ := one x r hx
        obtain ⟨b, rfl, wb⟩ := one y s hy
        exact ⟨a, b, rfl, wa, wb⟩
  · cases h

/-- A cell as a value. -/
def kcell (c : Cel) : Value := .agg #[.int .i64 c.1, .int .i64 c.2]
theorem kcell_inj {a b : Cel} (h : kcell a = kcell b) : a = b := by
  obtain ⟨x, y⟩ := a
  obtain ⟨u, v⟩ := b
  simp [kcell] at h
  exact Prod.ext h.1 h.2

/-- The datum of a map from cells to numbers reads as f. -/
structure Reads (P : Program) (k : TypeId) (D : DataW Unit) (f : Cel → Option Int) : Prop where
  map : IsMap D
  at_ : ∀ c kl, keyOf P k (kcell c) = some kl → has D kl = (f c).isSome ∧ D.atKey kl (.lit (.int .i64 0)) = .lit (.int .i64 ((f c).getD 0))

def putF (f : Cel → Option Int) (c : Cel) (v : Int) : Cel → Option Int := fun x => if x = c then some v else f x

theorem Reads.empty (P : Program) (k : TypeId) : Reads P k (.map []) (fun _ => none) := ⟨⟨[], rfl⟩, fun c kl _ => ⟨rfl, rfl⟩⟩
theorem Reads.put {P : Program} {k : TypeId} {D : DataW Unit} {f : Cel → Option Int} (h : Reads P k D f) (K : Keyed P k) {c : Cel} {kl : Lit} (hk : keyOf P k (kcell c) = some kl) (v : Int) :
    Reads P k (D.put kl (.lit (.int .i64 v))) (putF f c v) := by
  refine ⟨?_, fun x kx hx => ?_⟩
  · obtain ⟨es, rfl⟩ := h.map; exact ⟨_, rfl⟩
  · by_cases e : x = c
    · subst e
      rw [hk] at hx; cases hx
      simp only [putF, if_true, Option.isSome_some, Option.getD_some]
      exact ⟨has_put_same h.map (K.key hk) _, atKey_put_same h.map (K.key hk) _ _⟩
    · have hne : kx ≠ kl := fun e' => e (kcell_inj (K.inj hx (e' ▸ hk)))
      simp only [putF, if_neg e]
      rw [has_put_other hne, atKey_put_other hne]
      exact h.at_ x kx hx

/-- One more at c; nothing more at c. -/
def bump (f : Cel → Option Int) (c : Cel) : Cel → Option Int := putF f c ((f c).getD 0 + 1)
def touch (f : Cel → Option Int) (c : Cel) : Cel → Option Int := putF f c ((f c).getD 0)
/-- What is counted for the cells C, one behind the other. -/
def countF (C : List Cel) : Cel → Option Int := C.foldl (fun f d => (eight d).foldl bump (touch f d)) (fun _ => none)
theorem countF_snoc (C : List Cel) (d : Cel) : countF (C ++ [d]) = (eight d).foldl bump (touch (countF C) d) := by simp [countF]

theorem bumps (x : Cel) : ∀ (q : List Cel) (f : Cel → Option Int), q.foldl bump f x = if x ∈ q then some ((f x).getD 0 + (q.count x : Int)) else f x
  | [], f => by simp
  | c :: q, f => by
    rw [List.foldl_cons, bumps x q (bump f c)]
    by_cases e : x = c
    · subst e
      simp only [bump, putF, if_true, Option.getD_some, List.mem_cons, true_or, List.count_cons_self]
      split
      · congr 1; omega
      · rename_i h; rw [List.count_eq_zero_of_not_mem h]; simp
    · have e' : ¬ c = x := fun h => e h.symm
      simp only [bump, putF, if_neg e, List.mem_cons, List.count_cons_of_ne e']
      by_cases hm : x ∈ q
      · rw [if_pos hm, if_pos (Or.inr hm)]
      · rw [if_neg hm, if_neg (fun h => h.elim e hm)]

theorem mem_eight {x d : Cel} : x ∈ eight d ↔ x ∈ around d ∧ x ≠ d := by
  unfold eight eightTo
  have : (around d).take 9 = around d := List.take_of_length_le (by simp [around])
  rw [this, List.mem_filter]
  simp
theorem nodup_around (d : Cel) : (around d).Nodup := by
  unfold around
  rw [List.nodup_iff_pairwise_ne, List.pairwise_map]
  refine List.Pairwise.imp_of_mem ?_ (List.nodup_iff_pairwise_ne.1 List.nodup_range)
  intro a b ha hb hne h
  simp only [Prod.mk.injEq] at h
  have := List.mem_range.1 ha
  have := List.mem_range.1 hb
  omega
theorem count_eight {x d : Cel} (h : x ∈ eight d) : (eight d).count x = 1 := by
  have hn : (eight d).Nodup := by
    unfold eight eightTo
    exact ((nodup_around d).sublist (List.take_sublist _ _)).sublist List.filter_sublist
  have h1 := List.nodup_iff_count.1 hn x
  have h2 := List.count_pos_iff.2 h
  omega
theorem eight_isNb {x d : Cel} : x ∈ eight d ↔ isNb x d = true := by
  rw [mem_eight, mem_around]
  unfold isNb
  simp only [Bool.and_eq_true, decide_eq_true_eq, Bool.not_eq_true', decide_eq_false_iff_not]
  constructor
  · rintro ⟨⟨a, b, c, e⟩, hne⟩; exact ⟨⟨⟨⟨by omega, by omega⟩, by omega⟩, by omega⟩, fun h => hne h.symm⟩
  · rintro ⟨⟨⟨⟨a, b⟩, c⟩, e⟩, hne⟩; exact ⟨⟨by omega, by omega, by omega, by omega⟩, fun h => hne h.symm⟩

theorem countF_is (x : Cel) : ∀ (m : Nat) (C : List Cel), C.length = m → ((countF C x).isSome = true ↔ ∃ d ∈ C, x ∈ around d) ∧ (countF C x).getD 0 = (nbC C x : Int)
  | 0, C, h => by
    have := List.eq_nil_of_length_eq_zero h
    subst this
    simp [countF, nbC]
  | m + 1, C, h => by
    obtain ⟨R, d, rfl⟩ : ∃ R d, C = R ++ [d] := by
      have hne : C ≠ [] := by intro e; simp [e] at h
      exact ⟨C.dropLast, C.getLast hne, (List.dropLast_concat_getLast hne).symm⟩
    obtain ⟨ih1, ih2⟩ := countF_is x m R (by simpa using h)
    rw [countF_snoc, bumps]
    have hself : d ∈ around d := mem_around.2 (by omega)
    have hnb : nbC (R ++ [d]) x = nbC R x + (if isNb x d then 1 else 0) := by
      unfold nbC
      rw [List.countP_append]
      rw [List.countP_cons, List.countP_nil, Nat.zero_add]
    have hex : (∃ e ∈ R ++ [d], x ∈ around e) ↔ (∃ e ∈ R, x ∈ around e) ∨ x ∈ around d := by simp [or_and_right, exists_or]
    rw [hex]
    by_cases h8 : x ∈ eight d
    · have hb := eight_isNb.1 h8
      have hne := (mem_eight.1 h8).2
      rw [if_pos h8, count_eight h8, hnb, if_pos hb]
      refine ⟨by simp [(mem_eight.1 h8).1], ?_⟩
      simp only [touch, putF, if_neg hne, Option.getD_some, ih2]
      omega
    · have hb : isNb x d = false := by
        cases hi : isNb x d
        · rfl
        · exact absurd (eight_isNb.2 hi) h8
      rw [if_neg h8, hnb, hb]
      by_cases e : x = d
      · subst e
        simp [touch, putF, ih2, hself]
      · have hna : ¬ x ∈ around d := fun h => h8 (mem_eight.2 ⟨h, e⟩)
        simp only [touch, putF, if_neg e, hna, or_false, ih2]
        exact ⟨ih1, by simp⟩

end Go.Proofs.YtiohpcnnpmnjhaaGreatDoor

namespace Go.Proofs.YtiohpcnnpmnjhaaGreatDoor
open Go.RowKit Go.WideMaps Go.Maps
open Go.ChangeMaps (setBlock heap_setBlock_same heap_setBlock_other)
open Go.ChangeShapes Go.WideShapes Go.MapKept
set_option linter.unusedVariables false

theorem key_one {l : List MapEntry} (hn : l.Pairwise (fun x y => x.key ≠ y.key)) {a b : MapEntry} (ha : a ∈ l) (hb : b ∈ l) (h : a.key = b.key) : a = b := by
  obtain ⟨i, hi, rfl⟩ := List.mem_iff_getElem.1 ha
  obtain ⟨j, hj, rfl⟩ := List.mem_iff_getElem.1 hb
  have hp := List.pairwise_iff_getElem.1 hn
  rcases Nat.lt_trichotomy i j with h1 | h1 | h1
  · exact absurd h (hp i j hi hj h1)
  · subst h1; rfl
  · exact absurd h.symm (hp j i hj hi h1)

theorem ownsMap_of_block {P : Program} {k : TypeId} {R : Value → Option (DataW Unit × List MemPlace)} {b n : Nat} {D : DataW Unit} {w w' : World} (h : w.ownsMap P k R b n D) (e : w'.heap[b]? = w.heap[b]?) : w'.ownsMap P k R b n D := by
  obtain ⟨es, clock, hb, F, hs, hD⟩ := h
  exact ⟨es, clock, e.trans hb, F, hs, hD⟩

theorem modify_at {es : Array MapEntry} {j : Nat} {e0 : MapEntry} (h : es[j]? = some e0) {f g : MapEntry → MapEntry} (e : f e0 = g e0) : es.modify j f = es.modify j g := by
  apply Array.ext'
  have h' : es.toList[j]? = some e0 := by simpa using h
  rw [Array.toList_modify, Array.toList_modify, Go.ChangeMaps.modify_eq_set _ _ _ _ h', Go.ChangeMaps.modify_eq_set _ _ _ _ h', e]
/-- To find (or make) an entry is to set it to what it holds. -/
theorem entry_update {P : Program} {t k e : TypeId} {b clock : Nat} {es : Array MapEntry} {w w1 : World} {key v0 z st : Value} {kl : Lit} {R : Value → Option (DataW Unit × List MemPlace)} (K : KeyLaw P k) (ht : P.underlying t = some (.map k e)) (hz : ∀ u : World, (zeroValue e).run P u = .ok z u)
    (hb : w.heap[b]? = some (.map es clock)) (F : Go.WideElems.Fit P k R es clock) (hkey : keyOf P k key = some kl) (h : (Instr.mapEntry t (.map (some b)) key).run P w = .ok (.tuple #[v0, st]) w1) :
    (Instr.mapUpdate t (.map (some b)) key v0).run P w = .ok () w1 := by
  rcases K.find w hkey es.toList F.keys with ⟨h1, h2⟩ | ⟨j, e0, h1, h2, h3⟩
  · simp [Instr.mapEntry, run_underlying ht, MapKept.run_getObj_map hb, K.check w false hkey, h1, hz, MapKept.run_setObj_map _ hb, Result.andThen] at h
    obtain ⟨⟨rfl, _⟩, rfl⟩ := h
    simp [Instr.mapUpdate, run_underlying ht, MapKept.run_getObj_map hb, K.check w false hkey, h1, MapKept.run_setObj_map _ hb, Result.andThen]
  · have hj : es[j]? = some e0 := by simpa using h2
    simp [Instr.mapEntry, run_underlying ht, MapKept.run_getObj_map hb, K.check w false hkey, h1, hj, h3, K.stays w hkey, MapKept.run_setObj_map _ hb, Result.andThen] at h
    obtain ⟨⟨rfl, _⟩, rfl⟩ := h
    simp [Instr.mapUpdate, run_underlying ht, MapKept.run_getObj_map hb, K.check w false hkey, h1, hj, h3, K.stays w hkey, MapKept.run_setObj_map _ hb, Result.andThen]
    rw [modify_at hj (g := fun e => { e with key := key }) rfl]

/-- An entry of a map is found (or made), and then written. -/
theorem ownsMap_entry {P : Program} {t k e : TypeId} {b n : Nat} {D : DataW Unit} {w : World} {key : Value} {kl : Lit} (K : KeyLaw P k) (ht : P.underlying t = some (.map k e)) (he : P.underlying e = some (.int .i64)) (hz : ∀ u : World, (zeroValue e).run P u = .ok (.int .i64 0) u)
    (h : w.ownsMap P k (plainElem P e) b n D) (hn : n < maxLen) (hkey : keyOf P k key = some kl) :
    ∃ (c : Int) (st : Nat) (o1 : Obj), (Instr.mapEntry t (.map (some b)) key).run P w = .ok (.tuple #[.int .i64 c, .int .i64 (st : Int)]) (setBlock w b o1) ∧ (setBlock w b o1).ownsMap P k (plainElem P e) b (n + 1) (D.put kl (.lit (.int .i64 c))) ∧ D.atKey kl (.lit (.int .i64 0)) = .lit (.int .i64 c) ∧
      ∀ (w2 : World) (v : Int), (Lit.int .i64 v).wf = true → w2.heap[b]? = some o1 → ∃ o2, (Instr.entryStore t (.map (some b)) (.int .i64 (st : Int)) (.int .i64 v)).run P w2 = .ok () (setBlock w2 b o2) ∧
        (setBlock w2 b o2).ownsMap P k (plainElem P e) b (n + 1) (D.put kl (.lit (.int .i64 v))) := by
  have h' := h
  obtain ⟨es, clock, hb, F, hs, rfl⟩ := h
  have KK := Keyed.of_law K
  obtain ⟨v0, st, es1, clock1, hrun, hv0, hst⟩ := Go.WideElems.entry_then_store K ht hz hb F hkey
  have hw0 : (Lit.int .i64 0).wf = true := by decide
  have hat : ∃ c, v0 = .int .i64 c ∧ (DataW.map ((es.toList.map (Go.WideElems.rg P k (plainElem (H := Unit) P e))).foldr DataW.insert [])).atKey kl (.lit (.int .i64 0)) = .lit (.int .i64 c) := by
    rcases fit_look false KK ht (hz w) hb F hkey with ⟨_, hno, h0⟩ | ⟨e0, y, hm, hke, _, hR, h0, _⟩
    · rcases hv0 with ⟨e1, hm1, hk1, _⟩ | ⟨_, rfl⟩
      · exact absurd hk1 (hno e1 hm1)
      · exact ⟨0, rfl, h0 _⟩
    · rcases hv0 with ⟨e1, hm1, hk1, rfl⟩ | ⟨hno, _⟩
      · have hpw : es.toList.Pairwise (fun x y => x.key ≠ y.key) := List.pairwise_map.1 (List.nodup_iff_pairwise_ne.1 F.stamped.2.2)
        have : e1 = e0 := key_one hpw hm1 hm (hk1.trans hke.symm)
        subst this
        obtain ⟨c, hc, hy, _⟩ := plainElem_int_inv he hR
        exact ⟨c, hc, by rw [h0, hy]⟩
      · exact absurd hke (hno e0 hm)
  obtain ⟨c, rfl, hat⟩ := hat
  have hwc : (Lit.int .i64 c).wf = true := by
    obtain ⟨c', _, hat', hw'⟩ := h'.lookup_int KK ht he (hz w) hkey
    rw [hat] at hat'
    cases hat'; exact hw'
  have hone : (setBlock w b (.map es1 clock1)).ownsMap P k (plainElem P e) b (n + 1) ((DataW.map ((es.toList.map (Go.WideElems.rg P k (plainElem (H := Unit) P e))).foldr DataW.insert [])).put kl (.lit (.int .i64 c))) := by
    have hu := entry_update K ht hz hb F hkey hrun
    obtain ⟨w', hrun', hown', _⟩ := h'.update KK ht hn hkey (plainElem_int he hwc)
    rw [hu] at hrun'
    cases hrun'
    exact hown'
  refine ⟨c, st, .map es1 clock1, hrun, hone, hat, fun w2 v hv hw2 => ?_⟩
  obtain ⟨es', clock', hs2, hup⟩ := hst w2 (.int .i64 v) hw2
  obtain ⟨w', hrun', hown', _⟩ := h'.update KK ht hn hkey (plainElem_int he hv)
  rw [hup] at hrun'
  cases hrun'
  refine ⟨_, hs2, ownsMap_of_block hown' ?_⟩
  rw [heap_setBlock_same hw2, heap_setBlock_same hb]

end Go.Proofs.YtiohpcnnpmnjhaaGreatDoor

namespace Go.Proofs.YtiohpcnnpmnjhaaGreatDoor
open Go.RowKit Go.Shelf
set_option linter.unusedVariables false

theorem grown_of_below {W W' : World} (h : Below W.heap.size W W') : W.grownBy W' none := ⟨h.os, h.tape, h.output, h.size, fun k hk _ => h.block k hk⟩
theorem keepc {W W' : World} {row : Option Nat} {B k : Nat} {cs : Array Value} {t : TypeId} {fz : Nat × Nat} (h : W.heap[k]? = some (.cells cs t fz)) (hg : W.grownBy W' row) (hr : ∀ r, row = some r → B ≤ r ∧ ∃ o : Obj, W.heap[r]? = some o ∧ o.isCells = false) : W'.heap[k]? = some (.cells cs t fz) := by
  refine (hg.block k (blk_lt h) (fun e => ?_)).trans h
  obtain ⟨_, o, ho, hc⟩ := hr k e.symm
  rw [h] at ho; cases ho; cases hc
theorem keepw {w W W' : World} {row : Option Nat} {B N : Nat} (h : Below N w W) (hN : N ≤ w.heap.size) (hNB : N ≤ B) (hg : W.grownBy W' row) (hr : ∀ r, row = some r → B ≤ r ∧ ∃ o : Obj, W.heap[r]? = some o ∧ o.isCells = false) : Below N w W' :=
  h.trans ⟨hg.os, hg.tape, hg.output, hg.size, fun k hk => hg.block k (by have := h.size; omega) (fun e => by have := (hr k e.symm).1; omega)⟩

end Go.Proofs.YtiohpcnnpmnjhaaGreatDoor

namespace Go.Proofs.YtiohpcnnpmnjhaaGreatDoor
open Go.RowKit Go.Shelf
set_option linter.unusedVariables false
attribute [local go_sem] Oper.semAt_some

/-- A cell as an iterator gives it out. -/
def encC (c : Cel) : Array Value := #[.agg #[.int .i64 c.1, .int .i64 c.2]]
/-- What a round keeps: what lies below n, and the boxes b and b + 1. -/
structure Kp2 (n b : Nat) (W W' : World) : Prop where
  be : Below n W W'
  bx : W'.heap[b]? = W.heap[b]?
  bz : W'.heap[b + 1]? = W.heap[b + 1]?
theorem Kp2.trans {n b : Nat} {X Y Z : World} (h : Kp2 n b X Y) (k : Kp2 n b Y Z) : Kp2 n b X Z := ⟨h.be.trans k.be, k.bx.trans h.bx, k.bz.trans h.bz⟩

set_option maxRecDepth 100000 in
set_option maxHeartbeats 1600000 in
theorem moved1_in (n : Nat) (hn : 2 ≤ n) (l Bs n₀ g cap : Nat) (dx dy : Int) (C : List Cel) (hF : Fits dx dy C) (hl : C.length ≤ 1000000) (hg : g < n₀)
    (J Jx : List Cel → World → Prop) (W : World) (hJ : AbidesFrom W.heap.size J)
    (hY : ∀ pre x W1, J pre W1 → pre.length < C.length → YieldAt Fence.wide (n - 1) Tryz.prog l (encC x) W1 fun e W' => (e = .returned (.bool true) ∧ J (pre ++ [x]) W' ∧ Kp2 n₀ Bs W1 W') ∨ (e = .returned (.bool false) ∧ Jx (pre ++ [x]) W'))
    (hn0 : n₀ ≤ W.heap.size) (hBs : W.heap[Bs]? = some (.cells #[.slice (some ⟨g, 0, none⟩) C.length cap] 71 (0, 0))) (hBy : W.heap[Bs + 1]? = some (.cells #[.int .i64 dx, .int .i64 dy] 113 (0, 0))) (hc : CellsAt W g C) (h0 : J [] W) :
    CallsIn Fence.wide n Tryz.prog 131 #[.func (.yield l) #[] #[], .pointer (some ⟨Bs, 0, none⟩), .pointer (some ⟨Bs + 1, 0, none⟩)] W fun e W' => (∃ v, e = .returned v) ∧ (J (C.map (sh dx dy)) W' ∨ (∃ pre, pre <+: C.map (sh dx dy) ∧ Jx pre W')) := by
  have h1n : 1 ≤ n := by omega
  have hnot : ∀ (x : Bool) (w : World), (Op.unary .not (.bool x)).run Tryz.prog w = .ok (.bool (!x)) w := fun _ _ => rfl
  have cB0 := cell_of hBs 0
  refine callsIn_of_wp Tryz.func131 rfl trivial ?_ rfl
  simp only [Tryz.ntmps131, List.size_toArray, List.length_cons, List.length_nil, Nat.reduceAdd, Nat.reduceSub, Array.replicate_succ, Array.replicate_zero, List.push_toArray, List.append_toArray, List.nil_append, List.cons_append]
  gi_wp2
  gi_loopw [8] (fun i wr => ∃ k : Nat, k ≤ C.length ∧ i = .int .i64 k ∧ J ((C.take k).map (sh dx dy)) wr ∧ Kp2 n₀ Bs W wr ∧ W.heap.size ≤ wr.heap.size) (fun i _ => C.length - (intOf i).toNat)
  case atStart => exact ⟨0, Nat.zero_le _, rfl, by simpa using h0, ⟨Below.refl _ _, rfl, rfl⟩, Nat.le_refl _⟩
  case round =>
    obtain ⟨k, hk, rfl, hJs, hkp, hsz⟩ := hrel
    have hb2 := hkp.bz.trans hBy
    have q0 := cell_of hb2 0
    have q1 := cell_of hb2 1
    by_cases hlt : k < C.length
    · obtain ⟨⟨x, y⟩, hs⟩ : ∃ s, C[k]? = some s := ⟨C[k], by simp [hlt]⟩
      obtain ⟨d0, d1⟩ := (hc.below hkp.be hg).get k _ hs
      simp only at d0 d1
      have hf := hF (x, y) (List.mem_of_getElem? hs)
      simp only at hf
      have hgl : g < wr.heap.size := by omega
      have hBl : Bs + 1 < wr.heap.size := blk_lt hb2
      have hbz : Below wr.heap.size wr (wr.alloc (.cells #[.int .i64 x, .int .i64 y] 113)) := (Below.refl _ _).alloc (Nat.le_refl _) _
      have HT : Hid ((C.take (k + 1)).map (sh dx dy) = (C.take k).map (sh dx dy) ++ [sh dx dy (x, y)]) := by
        show _ = _
        rw [List.take_add_one, hs]; simp
      obtain ⟨fn, tmps, assign, body, hy, hR⟩ := hY _ (sh dx dy (x, y)) _ (hJ _ wr _ none hJs (grown_of_below hbz) (fun r e => by cases e)) (by simp; omega)
      dsimp only [encC, sh] at hy
      clear hs
      gi_wp2
      refine hR.mono ?_
      rintro e W3 (⟨rfl, hJ3, hk3⟩ | ⟨rfl, hJx3⟩)
      · gi_wp2
        go_roundw
        case rel => exact ⟨k + 1, by omega, by go_num, by rw [HT.out]; exact hJ3, hkp.trans (Kp2.trans ⟨hbz.mono (by omega), hbz.block Bs (by omega), hbz.block (Bs + 1) hBl⟩ hk3), by have := hbz.size; have := hk3.be.size; omega⟩
        case measure => simp [intOf]; omega
      · gi_wp2
        refine bodyPost_ret (results_none rfl _ _ _) rfl ?_
        exact ⟨⟨_, rfl⟩, .inr ⟨_, by rw [← HT.out]; exact (List.take_prefix _ _).map _, hJx3⟩⟩
    · have hk' : k = C.length := by omega
      subst hk'
      rw [List.take_length] at hJs
      gi_wp2
      go_end0
      exact ⟨⟨_, rfl⟩, .inl hJs⟩

set_option maxRecDepth 100000 in
set_option maxHeartbeats 1000000 in
theorem moved1_nil (n : Nat) (l Bs vc : Nat) (p : Value) (a : Option Addr) {α : Type} (J : List α → World → Prop) (W : World) (hBs : W.cell? ⟨Bs, 0, none⟩ = some (.slice a 0 vc)) (h0 : J [] W) :
    CallsIn Fence.wide n Tryz.prog 131 #[.func (.yield l) #[] #[], .pointer (some ⟨Bs, 0, none⟩), p] W fun e W' => (∃ v, e = .returned v) ∧ J [] W' := by
  refine callsIn_of_wp Tryz.func131 rfl trivial ?_ rfl
  simp only [Tryz.ntmps131, List.size_toArray, List.length_cons, List.length_nil, Nat.reduceAdd, Nat.reduceSub, Array.replicate_succ, Array.replicate_zero, List.push_toArray, List.append_toArray, List.nil_append, List.cons_append]
  gi_wp2
  gi_loopw [8] (fun i wr => i = .int .i64 0 ∧ wr = W) (fun _ _ => 0)
  case atStart => exact ⟨rfl, rfl⟩
  case round =>
    obtain ⟨rfl, rfl⟩ := hrel
    gi_wp2
    go_end0
    exact ⟨⟨_, rfl⟩, h0⟩

/-- The iterator over a pattern's cells, moved, as a range over it asks. -/
theorem moved_stops_pre (n : Nat) (hn : 2 ≤ n) (a : Option Addr) (vc Bs n₀ : Nat) (dx dy : Int) (C : List Cel) (w w0 : World) (own : w.ownsRow 0 113 2 (.slice a C.length vc) C.length (flatC C)) (hl : C.length ≤ 1000000) (hF : Fits dx dy C)
    (hn' : n₀ = w.heap.size) (hb : Below w.heap.size w w0) (hBs : w0.heap[Bs]? = some (.cells #[.slice a C.length vc] 71 (0, 0))) (hBy : w0.heap[Bs + 1]? = some (.cells #[.int .i64 dx, .int .i64 dy] 113 (0, 0))) :
    SeqStopsK Fence.wide n Tryz.prog 131 #[.pointer (some ⟨Bs, 0, none⟩), .pointer (some ⟨Bs + 1, 0, none⟩)] encC (Kp2 n₀ Bs) (fun xs => xs = C.map (sh dx dy)) (fun pre => pre <+: C.map (sh dx dy)) C.length w0 := fun l J Jx W hW hJ hJx hY h0 => by
  subst hn'
  have hBs' : W.heap[Bs]? = some (.cells #[.slice a C.length vc] 71 (0, 0)) := (hW.block Bs (blk_lt hBs)).trans hBs
  have hBy' : W.heap[Bs + 1]? = some (.cells #[.int .i64 dx, .int .i64 dy] 113 (0, 0)) := (hW.block (Bs + 1) (blk_lt hBy)).trans hBy
  rcases cells_cases own with ⟨hv, rfl⟩ | ⟨g, cap, hv, hS, hg⟩
  · exact (moved1_nil n l Bs vc _ a J W (cell_of hBs' 0) h0).mono fun e W' ⟨he, hj⟩ => ⟨he, .inl ⟨[], rfl, hj⟩⟩
  · cases hv
    have hc := (hS.below hb hg).below (hW.mono hb.size) hg
    refine (moved1_in n hn l Bs w.heap.size g vc dx dy C hF hl hg J Jx W hJ hY (Nat.le_trans hb.size hW.size) hBs' hBy' hc h0).mono ?_
    rintro e W' ⟨he, hj | ⟨pre, hp, hj⟩⟩
    · exact ⟨he, .inl ⟨_, rfl, hj⟩⟩
    · exact ⟨he, .inr ⟨pre, hp, hj⟩⟩
theorem moved_stops (n : Nat) (hn : 2 ≤ n) (a : Option Addr) (vc Bs n₀ : Nat) (dx dy : Int) (C : List Cel) (w w0 : World) (own : w.ownsRow 0 113 2 (.slice a C.length vc) C.length (flatC C)) (hl : C.length ≤ 1000000) (hF : Fits dx dy C)
    (hn' : n₀ = w.heap.size) (hb : Below w.heap.size w w0) (hBs : w0.heap[Bs]? = some (.cells #[.slice a C.length vc] 71 (0, 0))) (hBy : w0.heap[Bs + 1]? = some (.cells #[.int .i64 dx, .int .i64 dy] 113 (0, 0))) :
    SeqStopsK Fence.wide n Tryz.prog 131 #[.pointer (some ⟨Bs, 0, none⟩), .pointer (some ⟨Bs + 1, 0, none⟩)] encC (Kp2 n₀ Bs) (fun xs => xs = C.map (sh dx dy)) (fun _ => True) C.length w0 := fun l J Jx W hW hJ hJx hY h0 =>
  (moved_stops_pre n hn a vc Bs n₀ dx dy C w w0 own hl hF hn' hb hBs hBy l J Jx W hW hJ hJx hY h0).mono fun e W' ⟨he, h⟩ => ⟨he, h.imp id fun ⟨pre, _, hj⟩ => ⟨pre, trivial, hj⟩⟩

set_option maxHeartbeats 400000 in
theorem moved_any (a : Option Addr) (n c : Nat) (dx dy : Int) (w : World) :
    Calls Tryz.prog 113 #[.slice a n c, .agg #[.int .i64 dx, .int .i64 dy]] w fun e w' => e = .returned (.func (.func 131) #[] #[.pointer (some ⟨w.heap.size, 0, none⟩), .pointer (some ⟨w.heap.size + 1, 0, none⟩)]) ∧ w' = (w.alloc (.cells #[.slice a n c] 71)).alloc (.cells #[.int .i64 dx, .int .i64 dy] 113) := by
  have hmf : ∀ (fn : Fn) (first cap : Array Value) (w : World), (Instr.makeFunc fn first cap).run Tryz.prog w = .ok (.func fn first cap) w := fun _ _ _ _ => rfl
  go_enter Tryz.func113, Tryz.ntmps113
  go_wp2
  go_ret
  exact ⟨rfl, rfl⟩

set_option maxHeartbeats 400000 in
theorem cells_any (a : Option Addr) (n c : Nat) (w : World) :
    Calls Tryz.prog 96 #[.slice a n c] w fun e w' => e = .returned (.func (.func 131) #[] #[.pointer (some ⟨w.heap.size, 0, none⟩), .pointer (some ⟨w.heap.size + 1, 0, none⟩)]) ∧ w' = (w.alloc (.cells #[.slice a n c] 71)).alloc (.cells #[.int .i64 0, .int .i64 0] 113) := by
  go_enter Tryz.func96, Tryz.ntmps96
  go_wp2_with (go_at_call 113; refine (moved_any a n c 0 0 _).mono ?_; rintro e w1 ⟨rfl, rfl⟩)
  go_ret
  exact ⟨rfl, rfl⟩

end Go.Proofs.YtiohpcnnpmnjhaaGreatDoor

namespace Go.Proofs.YtiohpcnnpmnjhaaGreatDoor
open Go.RowKit Go.Shelf
set_option linter.unusedVariables false
attribute [local go_sem] Oper.semAt_some

/-- What a round keeps: the row's block g, and the boxes b and b + 1. -/
structure KpG (g b : Nat) (W W' : World) : Prop where
  bg : W'.heap[g]? = W.heap[g]?
  bx : W'.heap[b]? = W.heap[b]?
  bz : W'.heap[b + 1]? = W.heap[b + 1]?
  sz : W.heap.size ≤ W'.heap.size
theorem KpG.trans {g b : Nat} {X Y Z : World} (h : KpG g b X Y) (k : KpG g b Y Z) : KpG g b X Z := ⟨k.bg.trans h.bg, k.bx.trans h.bx, k.bz.trans h.bz, Nat.le_trans h.sz k.sz⟩
theorem CellsAt.same {w w' : World} {g : Nat} {C : List Cel} (h : CellsAt w g C) (e : w'.heap[g]? = w.heap[g]?) : CellsAt w' g C :=
  ⟨fun j u hu => by
    have := h.at_ j u hu
    simp only [World.cell?] at this ⊢
    rw [e]; exact this⟩

set_option maxRecDepth 100000 in
set_option maxHeartbeats 1600000 in
theorem movedG_in (n : Nat) (hn : 2 ≤ n) (l Bs g cap : Nat) (dx dy : Int) (C : List Cel) (hF : Fits dx dy C) (hl : C.length ≤ 1000000)
    (J Jx : List Cel → World → Prop) (W : World) (hJ : AbidesFrom W.heap.size J)
    (hY : ∀ pre x W1, J pre W1 → x ∈ C.map (sh dx dy) → pre.length < C.length → YieldAt Fence.wide (n - 1) Tryz.prog l (encC x) W1 fun e W' => (e = .returned (.bool true) ∧ J (pre ++ [x]) W' ∧ KpG g Bs W1 W') ∨ (e = .returned (.bool false) ∧ Jx (pre ++ [x]) W'))
    (hgs : g < W.heap.size) (hBs : W.heap[Bs]? = some (.cells #[.slice (some ⟨g, 0, none⟩) C.length cap] 71 (0, 0))) (hBy : W.heap[Bs + 1]? = some (.cells #[.int .i64 dx, .int .i64 dy] 113 (0, 0))) (hc : CellsAt W g C) (h0 : J [] W) :
    CallsIn Fence.wide n Tryz.prog 131 #[.func (.yield l) #[] #[], .pointer (some ⟨Bs, 0, none⟩), .pointer (some ⟨Bs + 1, 0, none⟩)] W fun e W' => (∃ v, e = .returned v) ∧ (J (C.map (sh dx dy)) W' ∨ (∃ pre, pre <+: C.map (sh dx dy) ∧ Jx pre W')) := by
  have h1n : 1 ≤ n := by omega
  have hnot : ∀ (x : Bool) (w : World), (Op.unary .not (.bool x)).run Tryz.prog w = .ok (.bool (!x)) w := fun _ _ => rfl
  have cB0 := cell_of hBs 0
  refine callsIn_of_wp Tryz.func131 rfl trivial ?_ rfl
  simp only [Tryz.ntmps131, List.size_toArray, List.length_cons, List.length_nil, Nat.reduceAdd, Nat.reduceSub, Array.replicate_succ, Array.replicate_zero, List.push_toArray, List.append_toArray, List.nil_append, List.cons_append]
  gi_wp2
  gi_loopw [8] (fun i wr => ∃ k : Nat, k ≤ C.length ∧ i = .int .i64 k ∧ J ((C.take k).map (sh dx dy)) wr ∧ KpG g Bs W wr ∧ W.heap.size ≤ wr.heap.size) (fun i _ => C.length - (intOf i).toNat)
  case atStart => exact ⟨0, Nat.zero_le _, rfl, by simpa using h0, ⟨rfl, rfl, rfl, Nat.le_refl _⟩, Nat.le_refl _⟩
  case round =>
    obtain ⟨k, hk, rfl, hJs, hkp, hsz⟩ := hrel
    have hb2 := hkp.bz.trans hBy
    have q0 := cell_of hb2 0
    have q1 := cell_of hb2 1
    by_cases hlt : k < C.length
    · obtain ⟨⟨x, y⟩, hs⟩ : ∃ s, C[k]? = some s := ⟨C[k], by simp [hlt]⟩
      obtain ⟨d0, d1⟩ := (hc.same hkp.bg).get k _ hs
      simp only at d0 d1
      have hf := hF (x, y) (List.mem_of_getElem? hs)
      simp only at hf
      have hgl : g < wr.heap.size := by omega
      have hBl : Bs + 1 < wr.heap.size := blk_lt hb2
      have hbz : Below wr.heap.size wr (wr.alloc (.cells #[.int .i64 x, .int .i64 y] 113)) := (Below.refl _ _).alloc (Nat.le_refl _) _
      have HT : Hid ((C.take (k + 1)).map (sh dx dy) = (C.take k).map (sh dx dy) ++ [sh dx dy (x, y)]) := by
        show _ = _
        rw [List.take_add_one, hs]; simp
      obtain ⟨fn, tmps, assign, body, hy, hR⟩ := hY _ (sh dx dy (x, y)) _ (hJ _ wr _ none hJs (grown_of_below hbz) (fun r e => by cases e)) (List.mem_map.2 ⟨(x, y), List.mem_of_getElem? hs, rfl⟩) (by simp; omega)
      dsimp only [encC, sh] at hy
      clear hs
      gi_wp2
      refine hR.mono ?_
      rintro e W3 (⟨rfl, hJ3, hk3⟩ | ⟨rfl, hJx3⟩)
      · gi_wp2
        go_roundw
        case rel => exact ⟨k + 1, by omega, by go_num, by rw [HT.out]; exact hJ3, hkp.trans (KpG.trans ⟨hbz.block g hgl, hbz.block Bs (by omega), hbz.block (Bs + 1) hBl, hbz.size⟩ hk3), by have := hbz.size; have := hk3.sz; omega⟩
        case measure => simp [intOf]; omega
      · gi_wp2
        refine bodyPost_ret (results_none rfl _ _ _) rfl ?_
        exact ⟨⟨_, rfl⟩, .inr ⟨_, by rw [← HT.out]; exact (List.take_prefix _ _).map _, hJx3⟩⟩
    · have hk' : k = C.length := by omega
      subst hk'
      rw [List.take_length] at hJs
      gi_wp2
      go_end0
      exact ⟨⟨_, rfl⟩, .inl hJs⟩

/-- One of a pattern's cells, moved. -/
abbrev OfC (dx dy : Int) (C : List Cel) := { c : Cel // c ∈ C.map (sh dx dy) }
/-- The iterator over a pattern's cells, moved, as a range over it asks: what a round keeps is the row and the boxes alone. -/
theorem movedG_stops (n : Nat) (hn : 2 ≤ n) (a : Option Addr) (vc Bs g : Nat) (dx dy : Int) (C : List Cel) (w0 : World) (hrow : C = [] ∨ (a = some ⟨g, 0, none⟩ ∧ CellsAt w0 g C ∧ g < w0.heap.size)) (hl : C.length ≤ 1000000) (hF : Fits dx dy C)
    (hBs : w0.heap[Bs]? = some (.cells #[.slice a C.length vc] 71 (0, 0))) (hBy : w0.heap[Bs + 1]? = some (.cells #[.int .i64 dx, .int .i64 dy] 113 (0, 0))) :
    SeqStopsK Fence.wide n Tryz.prog 131 #[.pointer (some ⟨Bs, 0, none⟩), .pointer (some ⟨Bs + 1, 0, none⟩)] (fun c : OfC dx dy C => encC c.1) (KpG g Bs) (fun xs => xs.map (·.1) = C.map (sh dx dy)) (fun pre => pre.map (·.1) <+: C.map (sh dx dy)) C.length w0 := fun l J Jx W hW hJ hJx hY h0 => by
  have hBs' : W.heap[Bs]? = some (.cells #[.slice a C.length vc] 71 (0, 0)) := (hW.block Bs (blk_lt hBs)).trans hBs
  have hBy' : W.heap[Bs + 1]? = some (.cells #[.int .i64 dx, .int .i64 dy] 113 (0, 0)) := (hW.block (Bs + 1) (blk_lt hBy)).trans hBy
  rcases hrow with rfl | ⟨rfl, hS, hg⟩
  · exact (moved1_nil n l Bs vc _ a J W (cell_of hBs' 0) h0).mono fun e W' ⟨he, hj⟩ => ⟨he, .inl ⟨[], rfl, hj⟩⟩
  · have hc := hS.below hW hg
    refine (movedG_in n hn l Bs g vc dx dy C hF hl (fun pre W => ∃ q : List (OfC dx dy C), q.map (·.1) = pre ∧ J q W) (fun pre W => ∃ q : List (OfC dx dy C), q.map (·.1) = pre ∧ Jx q W) W
      (fun s A B row ⟨q, hq, hj⟩ hg hr => ⟨q, hq, hJ q A B row hj hg hr⟩) ?_ (Nat.lt_of_lt_of_le hg hW.size) hBs' hBy' hc ⟨[], rfl, h0⟩).mono ?_
    · rintro pre c W1 ⟨q, hq, hj⟩ hc hlen
      refine (hY q ⟨c, hc⟩ W1 hj (by rw [← hq] at hlen; simpa using hlen)).mono ?_
      rintro e W' (⟨he, hj', hk⟩ | ⟨he, hj'⟩)
      · exact .inl ⟨he, ⟨q ++ [⟨c, hc⟩], by simp [hq], hj'⟩, hk⟩
      · exact .inr ⟨he, q ++ [⟨c, hc⟩], by simp [hq], hj'⟩
    rintro e W' ⟨he, ⟨q, hq, hj⟩ | ⟨pre, hp, q, hq, hj⟩⟩
    · exact ⟨he, .inl ⟨q, hq, hj⟩⟩
    · exact ⟨he, .inr ⟨q, by subst hq; exact hp, hj⟩⟩

end Go.Proofs.YtiohpcnnpmnjhaaGreatDoor

namespace Go.Proofs.YtiohpcnnpmnjhaaGreatDoor
open Go.RowKit Go.Shelf
set_option linter.unusedVariables false
attribute [local go_sem] Oper.semAt_some

/-- One of the eight cells around a cell. -/
abbrev NearC (d : Cel) := { c : Cel // c ∈ eight d }
/-- The iterator over the eight cells around a cell, as a range over it asks. -/
theorem neighbours_stops (n : Nat) (hn : 2 ≤ n) (Bs n₀ : Nat) (x y : Int) (hx : -4000000000000000000 ≤ x ∧ x ≤ 4000000000000000000) (hy : -4000000000000000000 ≤ y ∧ y ≤ 4000000000000000000) (w0 : World)
    (hn0 : n₀ ≤ w0.heap.size) (hBs : w0.heap[Bs]? = some (.cells #[.int .i64 x, .int .i64 y] 113 (0, 0))) :
    SeqStopsK Fence.wide n Tryz.prog 169 #[.pointer (some ⟨Bs, 0, none⟩)] (fun c : NearC (x, y) => encN c.1) (KpN n₀ Bs) (fun xs => xs.map (·.1) = eight (x, y)) (fun _ => True) 9 w0 := fun l J Jx W hW hJ hJx hY h0 => by
  have hBs' : W.heap[Bs]? = some (.cells #[.int .i64 x, .int .i64 y] 113 (0, 0)) := (hW.block Bs (blk_lt hBs)).trans hBs
  refine (neighbours1_in n hn l Bs n₀ x y hx hy (fun pre W => ∃ q : List (NearC (x, y)), q.map (·.1) = pre ∧ J q W) (fun pre W => ∃ q : List (NearC (x, y)), q.map (·.1) = pre ∧ Jx q W) W
    (fun s A B row ⟨q, hq, hj⟩ hg hr => ⟨q, hq, hJ q A B row hj hg hr⟩) ?_ (Nat.le_trans hn0 hW.size) hBs' ⟨[], rfl, h0⟩).mono ?_
  · rintro pre c W1 ⟨q, hq, hj⟩ hc hlen
    refine (hY q ⟨c, hc⟩ W1 hj (by rw [← hq] at hlen; simpa using hlen)).mono ?_
    rintro e W' (⟨he, hj', hk⟩ | ⟨he, hj'⟩)
    · exact .inl ⟨he, ⟨q ++ [⟨c, hc⟩], by simp [hq], hj'⟩, hk⟩
    · exact .inr ⟨he, q ++ [⟨c, hc⟩], by simp [hq], hj'⟩
  rintro e W' ⟨he, ⟨q, hq, hj⟩ | ⟨pre, q, hq, hj⟩⟩
  · exact ⟨he, .inl ⟨q, hq, hj⟩⟩
  · exact ⟨he, .inr ⟨q, trivial, hj⟩⟩

set_option maxHeartbeats 400000 in
theorem neighbours_any (x y : Int) (w : World) :
    Calls Tryz.prog 159 #[.agg #[.int .i64 x, .int .i64 y]] w fun e w' => e = .returned (.func (.func 169) #[] #[.pointer (some ⟨w.heap.size, 0, none⟩)]) ∧ w' = w.alloc (.cells #[.int .i64 x, .int .i64 y] 113) := by
  have hmf : ∀ (fn : Fn) (first cap : Array Value) (w : World), (Instr.makeFunc fn first cap).run Tryz.prog w = .ok (.func fn first cap) w := fun _ _ _ _ => rfl
  go_enter Tryz.func159, Tryz.ntmps159
  go_wp2
  go_ret
  exact ⟨rfl, rfl⟩

end Go.Proofs.YtiohpcnnpmnjhaaGreatDoor

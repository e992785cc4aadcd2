import Derived.RangeFuncNested
import Derived.RangeFuncCalls
import Derived.RangeFuncBox
import Derived.Test.YtiohpcnnpmnjhaaLifeSpec
import Derived.RangeFuncBound
import Derived.RangeFuncLeaves
import Derived.Shelf.Abstract
import Derived.Shelf.RegionOpen
import Derived.OwnWalkIn
import Derived.TacticsInMore
import Derived.LoopNIn
import Derived.LoopIn
import Derived.Stop.RegionWithIn
import Derived.Sort.QuietIn
import Derived.Sort.BigQuietIn
namespace Go.Proofs.Ytiohpcnnpmnjhaa
open Go.RowKit
set_option linter.unusedVariables false

/-- What an iterator's own work leaves of a world: all that lies below n, and every block of cells. -/
structure Ab (n : Nat) (A B : World) : Prop where
  be : Below n A B
  cells : ∀ (k : Nat) (o : Obj), A.heap[k]? = some o → o.isCells = true → B.heap[k]? = some o
theorem Ab.refl (n : Nat) (A : World) : Ab n A A := ⟨Below.refl _ _, fun _ _ h _ => h⟩
theorem Ab.trans {n : Nat} {A B C : World} (h : Ab n A B) (k : Ab n B C) : Ab n A C := ⟨h.be.trans k.be, fun j o hj hc => k.cells j o (h.cells j o hj hc) hc⟩
theorem Ab.mono {n m : Nat} {A B : World} (h : Ab n A B) (hm : m ≤ n) : Ab m A B := ⟨h.be.mono hm, h.cells⟩
theorem Ab.alloc {n : Nat} (A : World) (hn : n ≤ A.heap.size) (o : Obj) : Ab n A (A.alloc o) :=
  ⟨(Below.refl _ A).alloc hn o, fun k o' hk _ => (Below.heap_alloc A o k (Array.getElem?_eq_some_iff.1 hk).1).trans hk⟩
theorem Ab.putObj {n : Nat} {A : World} {l : Nat} {o : Obj} (hn : n ≤ l) (hl : A.heap[l]? = some o) (ho : o.isCells = false) (o' : Obj) : Ab n A (A.putObj l o') := by
  refine ⟨⟨rfl, rfl, rfl, by simp, fun k hk => World.putObj_heap_other (by omega)⟩, fun k x hk hc => ?_⟩
  by_cases e : k = l
  · subst e; rw [hl] at hk; cases hk; rw [ho] at hc; cases hc
  · exact (World.putObj_heap_other e).trans hk

/-- An iterator that gives out elements of which it says something (El), and which may panic. -/
def SeqP {α : Type} (F : Fence) (n : Nat) (P : Program) (g : Nat) (lb : Array Value) (encs : α → Array Value) (El : List α → α → World → Prop) (Kp : World → World → Prop) (End : List α → Prop) (Pan : List α → List PanicEntry → Prop) (w : World) : Prop :=
  ∀ (l : Nat) (J Jx : List α → World → Prop) (W : World), Below w.heap.size w W → (∀ pre A B, J pre A → Ab W.heap.size A B → J pre B) → (∀ pre A B, Jx pre A → Ab W.heap.size A B → Jx pre B) →
    (∀ pre x W1, J pre W1 → El pre x W1 → W.heap.size ≤ W1.heap.size → YieldAt F (n - 1) P l (encs x) W1 fun e W' => (e = .returned (.bool true) ∧ J (pre ++ [x]) W' ∧ Kp W1 W') ∨ (e = .returned (.bool false) ∧ Jx (pre ++ [x]) W')) →
    J [] W →
    CallsIn F n P g (#[.func (.yield l) #[] #[]] ++ lb) W fun e W' =>
      ((∃ v, e = .returned v) ∧ ((∃ xs, End xs ∧ J xs W') ∨ (∃ pre, Jx pre W'))) ∨ (∃ ch pre, e = .panicked ch ∧ Pan pre ch ∧ J pre W')

/-- A range over such an iterator. -/
theorem wpIn_rangeP {F : Fence} {n : Nat} {P : Program} {α : Type} {g : Operand} {ps : Array Tmp} {assign body : Code} {Q : Exit → Act → World → Prop} {a : Act} {w : World}
    (hro : F.round = none) (h1 : 1 ≤ n) {gf : Nat} {lb : Array Value} (hg : a.eval g = .func (.func gf) #[] lb) (hFg : F.fn gf) (eg : ∀ args w, (callFunc gf args).run P w = .ok (.enter gf args) w)
    {encs : α → Array Value} {El : List α → α → World → Prop} {Kp : World → World → Prop} {End : List α → Prop} {Pan : List α → List PanicEntry → Prop} (hseq : SeqP F (n - 1) P gf lb encs El Kp End Pan w)
    (hKt : ∀ {A B C : World}, Kp A B → Kp B C → Kp A C) (hKb : ∀ (W : World) (l : Nat) (r : Loop) (o : Obj), w.heap.size ≤ l → W.heap[l]? = some (.loop r) → Kp W (W.putObj l o)) (hps : ∀ x, (encs x).size = ps.size)
    (I : List α → World → Prop) (Ix : Code → List α → World → Prop) (hI : ∀ pre A B, I pre A → Ab w.heap.size A B → I pre B) (hIx : ∀ c pre A B, Ix c pre A → Ab w.heap.size A B → Ix c pre B) (hEl : ∀ pre x A B, El pre x A → Ab w.heap.size A B → El pre x B) (h0 : I [] w) (a1 : α → Act)
    (hassign : ∀ (l : Nat) (x : α) (W : World) (K : Act → World → Prop), K (a1 x) W → assign.wpIn (F.inRound l) (n - 1 - 1) P (Exit.then K (fun _ _ _ => False)) { tmps := (ps.zip (encs x)).foldl (fun t (p, v) => t.setIfInBounds p v) a.tmps, defers := [] } W)
    (hbody : ∀ (l : Nat) (pre : List α) (x : α) (W : World), w.heap.size ≤ l → I pre W → El pre x W → body.wpIn (F.inRound l) (n - 1 - 1) P (ownPostG w.heap.size Kp I Ix (pre ++ [x]) W) (a1 x) W)
    (hdone : ∀ (D : Nat) (xs : List α) (W : World), w.heap.size ≤ D → End xs → I xs W → W.heap[D]? = some (.deferred (some [])) → Q .normal { a with defers := { target := .collected D, args := #[] } :: a.defers } W)
    (hstop : ∀ (D : Nat) (c : Code) (pre : List α) (W : World), w.heap.size ≤ D → Ix c pre W → W.heap[D]? = some (.deferred (some [])) → c.wpIn F n P Q { a with defers := { target := .collected D, args := #[] } :: a.defers } W)
    (hpan : ∀ (D : Nat) (ch : List PanicEntry) (pre : List α) (W : World), w.heap.size ≤ D → Pan pre ch → I pre W → W.heap[D]? = some (.deferred (some [])) → Q (.panic ch) { a with defers := { target := .collected D, args := #[] } :: a.defers } W) :
    (Code.rangeFunc g ps assign body).wpIn F n P Q a w := by
  have hxy : ∀ {A B : World} {k : Nat} {o : Obj}, A.heap[k]? = some o → Ab (w.heap.size + 2) A B → k < w.heap.size + 2 → B.heap[k]? = some o := fun h hb hk => (hb.be.block _ hk).trans h
  refine wpIn_rangeFunc fun fn hfn => ?_
  rw [hro]
  let lp : LoopState → Option Code → Loop := fun st pe => { state := st, pending := pe, fn, tmps := a.tmps, params := ps, assign, body, defers := w.heap.size }
  let W1 : World := (w.alloc (.deferred (some []))).alloc (.loop (lp .ready none))
  have sz1 : W1.heap.size = w.heap.size + 2 := by show ((w.alloc _).alloc _).heap.size = _; simp
  have ab1 : Ab w.heap.size w W1 := (Ab.alloc w (Nat.le_refl _) _).trans (Ab.alloc _ (by simp) _)
  have hl1 : W1.heap[w.heap.size + 1]? = some (.loop (lp .ready none)) := by
    have := World.alloc_heap_new (w.alloc (.deferred (some []))) (.loop (lp .ready none))
    rwa [World.size_alloc] at this
  have hd1 : W1.heap[w.heap.size]? = some (.deferred (some [])) := (Below.heap_alloc (w.alloc (.deferred (some []))) _ _ (by simp)).trans (World.alloc_heap_new w _)
  refine ⟨w.heap.size + 1, [{ target := .collected w.heap.size, args := #[] }], W1, { target := .fn (.func gf) lb, args := #[.func (.yield (w.heap.size + 1)) #[] #[]] }, W1, gf, #[.func (.yield (w.heap.size + 1)) #[] #[]] ++ lb, W1, run_enterLoop_outer _ _ _ _ _, ?_, ?_, ?_, fun _ => h1, ?_⟩
  · simp only [resolve, hg]; simp [go_sem]
  · intro f' hf'
    simp [Target.leads] at hf'
    subst hf'; exact hFg
  · simp [invoke, go_sem, eg]
  -- the caller's word, and the two blocks of book-keeping
  let Bk (st : LoopState) (pe : Option Code) (W : World) : Prop := W.heap[w.heap.size + 1]? = some (.loop (lp st pe)) ∧ W.heap[w.heap.size]? = some (.deferred (some []))
  have hBk : ∀ {st pe A B}, Bk st pe A → Ab (w.heap.size + 2) A B → Bk st pe B := fun h hb => ⟨hxy h.1 hb (by omega), hxy h.2 hb (by omega)⟩
  refine (hseq (w.heap.size + 1) (fun pre W => I pre W ∧ Bk .ready none W) (fun pre W => ∃ c, Ix c pre W ∧ Bk .done (some c) W) W1 ab1.be
    (fun pre A B h hb => ⟨hI pre A B h.1 (hb.mono (by omega)), hBk h.2 (sz1 ▸ hb)⟩)
    (fun pre A B ⟨c, h, hk⟩ hb => ⟨c, hIx c pre A B h (hb.mono (by omega)), hBk hk (sz1 ▸ hb)⟩) ?_ ⟨hI [] w W1 h0 ab1, hl1, hd1⟩).mono ?_
  · rintro pre x W ⟨hi, hl, hd⟩ he hsz
    refine ⟨fn, _, assign, body, run_yield hl (hps x), roundIn_of_wpIn hfn (hassign _ x W _ ⟨_, run_beginRound hl rfl, ?_⟩)⟩
    have hlt : w.heap.size + 1 < W.heap.size := (Array.getElem?_eq_some_iff.1 hl).1
    have abb : Ab w.heap.size W (W.putObj (w.heap.size + 1) (.loop { lp .ready none with state := .busy })) := Ab.putObj (by omega) hl rfl _
    have hlb : (W.putObj (w.heap.size + 1) (.loop { lp .ready none with state := .busy })).heap[w.heap.size + 1]? = some (.loop { lp .ready none with state := .busy }) := World.putObj_heap_same hlt
    have hdb : (W.putObj (w.heap.size + 1) (.loop { lp .ready none with state := .busy })).heap[w.heap.size]? = some (.deferred (some [])) := (World.putObj_heap_other (by omega)).trans hd
    refine wpIn_mono (hbody _ pre x _ (by omega) (hI _ _ _ hi abb) (hEl _ _ _ _ he abb)) ?_
    -- how the round ends
    have ends : ∀ (jump : Option Code) (W3 : World), KeepsFrom w.heap.size (W.putObj (w.heap.size + 1) (.loop { lp .ready none with state := .busy })) W3 →
        ∃ W4, (Instr.endRound (w.heap.size + 1) jump).run P W3 = .ok (.bool jump.isNone) W4 ∧ Bk (if jump.isNone then .ready else .done) jump W4 ∧ Ab w.heap.size W3 W4 ∧ (∃ r o, W3.heap[w.heap.size + 1]? = some (.loop r) ∧ W4 = W3.putObj (w.heap.size + 1) o) := fun jump W3 hk => by
      have hl3 := hk.same _ _ (by omega) hlb rfl
      have hd3 := hk.same _ _ (Nat.le_refl _) hdb rfl
      exact ⟨_, run_endRound jump hl3, ⟨World.putObj_heap_same (Array.getElem?_eq_some_iff.1 hl3).1, (World.putObj_heap_other (by omega)).trans hd3⟩, Ab.putObj (by omega) hl3 rfl _, _, _, hl3, rfl⟩
    rintro e a3 W3 hp
    cases e with
    | normal =>
      obtain ⟨hk3, hkp3, hi3⟩ := hp
      obtain ⟨W4, hr, hb4, ab4, r, o, hl3, rfl⟩ := ends none W3 hk3
      exact ⟨_, _, hr, .inl ⟨rfl, ⟨hI _ _ _ hi3 ab4, hb4⟩, hKt (hKb _ _ _ _ (by omega) hl) (hKt hkp3 (hKb _ _ _ _ (by omega) hl3))⟩⟩
    | ret =>
      obtain ⟨W4, hr, hb4, ab4, _⟩ := ends (some .ret) W3 hp.1
      exact ⟨_, _, hr, .inr ⟨rfl, .ret, hIx _ _ _ _ hp.2 ab4, hb4⟩⟩
    | exit id =>
      obtain ⟨W4, hr, hb4, ab4, _⟩ := ends (some (.exit id)) W3 hp.1
      exact ⟨_, _, hr, .inr ⟨rfl, .exit id, hIx _ _ _ _ hp.2 ab4, hb4⟩⟩
    | goto t =>
      obtain ⟨W4, hr, hb4, ab4, _⟩ := ends (some (.goto t)) W3 hp.1
      exact ⟨_, _, hr, .inr ⟨rfl, .goto t, hIx _ _ _ _ hp.2 ab4, hb4⟩⟩
    | panic ch => exact hp.elim
    | outgrown => exact hp.elim
  · rintro e W2 (⟨⟨v, rfl⟩, (⟨xs, hS, hi, hb⟩ | ⟨pre, c, hi, hb⟩)⟩ | ⟨ch, pre, rfl, hpn, hi, hb⟩)
    · exact ⟨none, _, run_endLoop hb.1 (by intro h; cases h), hdone _ xs _ (Nat.le_refl _) hS (hI _ _ _ hi (Ab.putObj (by omega) hb.1 rfl _)) ((World.putObj_heap_other (by omega)).trans hb.2)⟩
    · exact ⟨some c, _, run_endLoop hb.1 (by intro h; cases h), hstop _ c pre _ (Nat.le_refl _) (hIx _ _ _ _ hi (Ab.putObj (by omega) hb.1 rfl _)) ((World.putObj_heap_other (by omega)).trans hb.2)⟩
    · exact hpan _ ch pre _ (Nat.le_refl _) hpn hi hb.2

end Go.Proofs.Ytiohpcnnpmnjhaa

namespace Go.Proofs.Ytiohpcnnpmnjhaa
open Go.RowKit Go.Shelf
set_option linter.unusedVariables false
attribute [local go_sem] Oper.semAt_some

/-- A cell as an iterator gives it out. -/
def encN (c : Cel) : Array Value := #[.agg #[.int .i64 c.1, .int .i64 c.2]]
/-- The eight cells around a cell, as they are given out: k of the nine places are through. -/
def eightTo (d : Cel) (k : Nat) : List Cel := ((around d).take k).filter fun c => !decide (c = d)
def eight (d : Cel) : List Cel := eightTo d 9

/-- What a round keeps: what lies below n, and the box b. -/
structure KpN (n b : Nat) (W W' : World) : Prop where
  be : Below n W W'
  bx : W'.heap[b]? = W.heap[b]?
theorem KpN.trans {n b : Nat} {X Y Z : World} (h : KpN n b X Y) (k : KpN n b Y Z) : KpN n b X Z := ⟨h.be.trans k.be, k.bx.trans h.bx⟩

theorem around9 (d : Cel) (k : Nat) (hk : k < 9) : (around d)[k]? = some (d.1 + ((k % 3 : Nat) : Int) - 1, d.2 + ((k / 3 : Nat) : Int) - 1) := by
  unfold around
  rw [List.getElem?_map, List.getElem?_range hk]
  rfl
theorem eightTo_succ (d : Cel) (k : Nat) (hk : k < 9) {c : Cel} (hc : c = (d.1 + ((k % 3 : Nat) : Int) - 1, d.2 + ((k / 3 : Nat) : Int) - 1)) : eightTo d (k + 1) = if c = d then eightTo d k else eightTo d k ++ [c] := by
  unfold eightTo
  rw [List.take_add_one, around9 d k hk, ← hc, List.filter_append]
  by_cases h : c = d
  · simp [h]
  · simp [h]
theorem eightTo_len (d : Cel) (k : Nat) : (eightTo d k).length ≤ k := by
  unfold eightTo
  exact Nat.le_trans (List.length_filter_le _ _) (List.length_take_le _ _)

theorem eightTo_sub {d x : Cel} {k : Nat} (hk : k ≤ 9) (h : x ∈ eightTo d k) : x ∈ eight d := by
  unfold eight eightTo at *
  rw [List.mem_filter] at h ⊢
  exact ⟨(List.take_subset_take_left _ hk) h.1, h.2⟩

theorem grown_below {W W' : World} (h : Below W.heap.size W W') : W.grownBy W' none := ⟨h.os, h.tape, h.output, h.size, fun k hk _ => h.block k hk⟩

theorem eqIn_cell2 (a b c d : Int) (w : World) : (Op.equalIn 10000 99 (.agg #[.int .i64 a, .int .i64 b]) (.agg #[.int .i64 c, .int .i64 d])).run Try.prog w = .ok (a == c && b == d) w := by
  have u3 := Try.underlying3
  have a3 := Try.isAgg3
  have z3 := Try.sizeOf3
  rw [show (10000 : Nat) = 9999 + 1 from rfl, Op.equalIn]
  simp only [Sem.run_bind, run_underlying Try.underlying99, Result.andThen_ok]
  simp only [Std.Legacy.Range.forIn_eq_forIn_range', Std.Legacy.Range.size, Nat.sub_zero, Nat.add_sub_cancel, Nat.div_one, List.range'_succ, List.range'_zero, List.forIn_cons, List.forIn_nil]
  go_simp
  by_cases h1 : a = c <;> by_cases h2 : b = d <;> simp [h1, h2]

set_option maxRecDepth 100000 in
set_option maxHeartbeats 1600000 in
theorem neighbours1_in (n : Nat) (hn : 2 ≤ n) (l Bs n₀ : Nat) (x y : Int) (hx : -4000000000000000000 ≤ x ∧ x ≤ 4000000000000000000) (hy : -4000000000000000000 ≤ y ∧ y ≤ 4000000000000000000)
    (J Jx : List Cel → World → Prop) (W : World) (hJ : AbidesFrom W.heap.size J)
    (hY : ∀ pre c W1, J pre W1 → c ∈ eight (x, y) → pre.length < 9 → YieldAt Fence.wide (n - 1) Try.prog l (encN c) W1 fun e W' => (e = .returned (.bool true) ∧ J (pre ++ [c]) W' ∧ KpN n₀ Bs W1 W') ∨ (e = .returned (.bool false) ∧ Jx (pre ++ [c]) W'))
    (hn0 : n₀ ≤ W.heap.size) (hBs : W.heap[Bs]? = some (.cells #[.int .i64 x, .int .i64 y] 99 (0, 0))) (h0 : J [] W) :
    CallsIn Fence.wide n Try.prog 82 #[.func (.yield l) #[] #[], .pointer (some ⟨Bs, 0, none⟩)] W fun e W' => (∃ v, e = .returned v) ∧ (J (eight (x, y)) W' ∨ (∃ pre, Jx pre W')) := by
  have h1n : 1 ≤ n := by omega
  have hnot : ∀ (x : Bool) (w : World), (Op.unary .not (.bool x)).run Try.prog w = .ok (.bool (!x)) w := fun _ _ => rfl
  have cB0 := cell_of hBs 0
  have cB1 := cell_of hBs 1
  have heq := fun a b c d w => eqIn_cell2 a b c d w
  refine callsIn_of_wp Try.func82 rfl trivial ?_ rfl
  simp only [Try.ntmps82, List.size_toArray, List.length_cons, List.length_nil, Nat.reduceAdd, Nat.reduceSub, Array.replicate_succ, Array.replicate_zero, List.push_toArray, List.append_toArray, List.nil_append, List.cons_append]
  gi_wp2
  gi_loopw [3] (fun i wr => ∃ r : Nat, r ≤ 3 ∧ i = .int .i64 (y - 1 + (r : Int)) ∧ J (eightTo (x, y) (3 * r)) wr ∧ KpN n₀ Bs W wr ∧ W.heap.size ≤ wr.heap.size) (fun i _ => (y + 2 - intOf i).toNat)
  case atStart => exact ⟨0, by omega, by simp, by simpa [eightTo] using h0, ⟨Below.refl _ _, rfl⟩, Nat.le_refl _⟩
  case round =>
    obtain ⟨r, hr, rfl, hJs, hkp, hsz⟩ := hrel
    have hb1 := hkp.bx.trans hBs
    have q0 := cell_of hb1 0
    have q1 := cell_of hb1 1
    obtain ⟨cy, hcy⟩ : ∃ cy, y - 1 + (r : Int) = cy := ⟨_, rfl⟩
    rw [hcy]
    have HCY : Hid (y - 1 + (r : Int) = cy) := hcy
    by_cases hlt : r < 3
    · have hle : cy ≤ y + 1 := by omega
      have hcyb : -4000000000000000001 ≤ cy ∧ cy ≤ 4000000000000000001 := by omega
      clear hcy
      gi_wp2
      gi_loopw [4] (fun i wr => ∃ k : Nat, k ≤ 3 ∧ i = .int .i64 (x - 1 + (k : Int)) ∧ J (eightTo (x, y) (3 * r + k)) wr ∧ KpN n₀ Bs W wr ∧ W.heap.size ≤ wr.heap.size) (fun i _ => (x + 2 - intOf i).toNat)
      case atStart => exact ⟨0, by omega, by simp, hJs, hkp, hsz⟩
      case round =>
        clear hJs hkp hsz hb1 q0 q1
        obtain ⟨k, hk, rfl, hJs, hkp, hsz⟩ := hrel
        have hb1 := hkp.bx.trans hBs
        have q0 := cell_of hb1 0
        have q1 := cell_of hb1 1
        have hBl := blk_lt hb1
        obtain ⟨cx, hcx⟩ : ∃ cx, x - 1 + (k : Int) = cx := ⟨_, rfl⟩
        rw [hcx]
        have HCX : Hid (x - 1 + (k : Int) = cx) := hcx
        by_cases hkt : k < 3
        · have hke : cx ≤ x + 1 := by omega
          have hcb : -4000000000000000001 ≤ cx ∧ cx ≤ 4000000000000000001 := by omega
          have hs := eightTo_succ (x, y) (3 * r + k) (by omega) (c := (cx, cy)) (by
            rw [show (3 * r + k) % 3 = k by omega, show (3 * r + k) / 3 = r by omega]
            have := HCY.out
            simp only [Prod.mk.injEq]
            omega)
          have hbz : Below wr.heap.size wr (wr.alloc (.cells #[.int .i64 cx, .int .i64 cy] 99)) := (Below.refl _ _).alloc (Nat.le_refl _) _
          have hJa := hJ _ wr _ none hJs (grown_below (W' := wr.alloc (.cells #[.int .i64 cx, .int .i64 cy] 99)) hbz) (fun r e => by cases e)
          have hln := eightTo_len (x, y) (3 * r + k)
          have kz : KpN n₀ Bs wr (wr.alloc (.cells #[.int .i64 cx, .int .i64 cy] 99)) := ⟨hbz.mono (by omega), hbz.block Bs hBl⟩
          have hr8 : 3 * r + k < 9 := by omega
          clear hcx
          by_cases he : cx = x ∧ cy = y
          · have HS : Hid (eightTo (x, y) (3 * r + (k + 1)) = eightTo (x, y) (3 * r + k)) := by
              show _ = _
              rw [show 3 * r + (k + 1) = 3 * r + k + 1 by omega, hs, if_pos (by rw [he.1, he.2])]
            clear hs
            obtain ⟨rfl, rfl⟩ := he
            gi_wp2
            refine ⟨(fun f hf => nomatch hf), ?_⟩
            gi_wp2
            go_roundw
            case rel => exact ⟨k + 1, by omega, by have := HCX.out; simp; omega, by rw [HS.out]; exact hJa, hkp.trans kz, by have := hbz.size; omega⟩
            case measure => have := HCX.out; simp [intOf]; omega
          · have hne : (cx == x && cy == y) = false := by simpa using he
            have hpe : ¬ ((cx, cy) : Cel) = (x, y) := by intro e; simp only [Prod.mk.injEq] at e; exact he e
            have HS : Hid (eightTo (x, y) (3 * r + (k + 1)) = eightTo (x, y) (3 * r + k) ++ [(cx, cy)]) := by
              show _ = _
              rw [show 3 * r + (k + 1) = 3 * r + k + 1 by omega, hs, if_neg hpe]
            obtain ⟨fn, tmps, assign, body, hy', hR⟩ := hY _ (cx, cy) _ hJa (eightTo_sub (k := 3 * r + (k + 1)) (by omega) (by rw [HS.out]; simp)) (by omega)
            dsimp only [encN] at hy'
            clear hs he hpe
            gi_wp2
            refine hR.mono ?_
            rintro e W3 (⟨rfl, hJ3, hk3⟩ | ⟨rfl, hJx3⟩)
            · gi_wp2
              go_roundw
              case rel => exact ⟨k + 1, by omega, by have := HCX.out; simp; omega, by rw [HS.out]; exact hJ3, hkp.trans (kz.trans hk3), by have := hbz.size; have := hk3.be.size; omega⟩
              case measure => have := HCX.out; simp [intOf]; omega
            · gi_wp2
              refine bodyPost_ret (results_none rfl _ _ _) rfl ?_
              exact ⟨⟨_, rfl⟩, .inr ⟨_, hJx3⟩⟩
        · have hke : ¬ cx ≤ x + 1 := by omega
          obtain rfl : k = 3 := by omega
          clear hcx
          gi_wp2
          go_roundw
          case rel => exact ⟨r + 1, by omega, by have := HCY.out; simp; omega, by rw [show 3 * (r + 1) = 3 * r + 3 by omega]; exact hJs, hkp, hsz⟩
          case measure => have := HCY.out; simp [intOf]; omega
    · have hle : ¬ cy ≤ y + 1 := by omega
      obtain rfl : r = 3 := by omega
      clear hcy
      gi_wp2
      go_end0
      exact ⟨⟨_, rfl⟩, .inl hJs⟩

end Go.Proofs.Ytiohpcnnpmnjhaa

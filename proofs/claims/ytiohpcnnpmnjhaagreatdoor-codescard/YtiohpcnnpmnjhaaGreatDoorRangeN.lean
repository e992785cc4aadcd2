import Derived.Test.YtiohpcnnpmnjhaaGreatDoorArnM
namespace Go.Proofs.YtiohpcnnpmnjhaaGreatDoor
open Go.RowKit
set_option linter.unusedVariables false

/-- An iterator that gives out elements of which it says something (El), to one who never stops early. -/
def SeqN {α : Type} (F : Fence) (n : Nat) (P : Program) (g : Nat) (lb : Array Value) (encs : α → Array Value) (El : List α → α → World → Prop) (Kp : World → World → Prop) (End : List α → Prop) (w : World) : Prop :=
  ∀ (l : Nat) (J : List α → World → Prop) (W : World), Below w.heap.size w W → (∀ pre A B, J pre A → Ab W.heap.size A B → J pre B) →
    (∀ pre x W1, J pre W1 → El pre x W1 → W.heap.size ≤ W1.heap.size → YieldAt F (n - 1) P l (encs x) W1 fun e W' => e = .returned (.bool true) ∧ J (pre ++ [x]) W' ∧ Kp W1 W') →
    J [] W →
    CallsIn F n P g (#[.func (.yield l) #[] #[]] ++ lb) W fun e W' => (∃ v, e = .returned v) ∧ ∃ xs, End xs ∧ J xs W'

/-- A range over such an iterator. -/
theorem wpIn_rangeN {F : Fence} {n : Nat} {P : Program} {α : Type} {g : Operand} {ps : Array Tmp} {assign body : Code} {Q : Exit → Act → World → Prop} {a : Act} {w : World}
    (hro : F.round = none) (h1 : 1 ≤ n) {gf : Nat} {lb : Array Value} (hg : a.eval g = .func (.func gf) #[] lb) (hFg : F.fn gf) (eg : ∀ args w, (callFunc gf args).run P w = .ok (.enter gf args) w)
    {encs : α → Array Value} {El : List α → α → World → Prop} {Kp : World → World → Prop} {End : List α → Prop} (hseq : SeqN F (n - 1) P gf lb encs El Kp End w)
    (hKt : ∀ {A B C : World}, Kp A B → Kp B C → Kp A C) (hKb : ∀ (W : World) (l : Nat) (r : Loop) (o : Obj), w.heap.size ≤ l → W.heap[l]? = some (.loop r) → Kp W (W.putObj l o)) (hps : ∀ x, (encs x).size = ps.size)
    (I : List α → World → Prop) (hI : ∀ pre A B, I pre A → Ab w.heap.size A B → I pre B) (hEl : ∀ pre x A B, El pre x A → Ab w.heap.size A B → El pre x B) (h0 : I [] w) (a1 : α → Act)
    (hassign : ∀ (l : Nat) (x : α) (W : World) (K : Act → World → Prop), K (a1 x) W → assign.wpIn (F.inRound l) (n - 1 - 1) P (Exit.then K (fun _ _ _ => False)) { tmps := (ps.zip (encs x)).foldl (fun t (p, v) => t.setIfInBounds p v) a.tmps, defers := [] } W)
    (hbody : ∀ (l : Nat) (pre : List α) (x : α) (W : World), w.heap.size ≤ l → I pre W → El pre x W → body.wpIn (F.inRound l) (n - 1 - 1) P (ownPostG w.heap.size Kp I (fun _ _ _ => False) (pre ++ [x]) W) (a1 x) W)
    (hdone : ∀ (D : Nat) (xs : List α) (W : World), w.heap.size ≤ D → End xs → I xs W → W.heap[D]? = some (.deferred (some [])) → Q .normal { a with defers := { target := .collected D, args := #[] } :: a.defers } W) :
    (Code.rangeFunc g ps assign body).wpIn F n P Q a w := by
  have hxy : ∀ {A B : World} {k : Nat} {o : Obj}, A.heap[k]? = some o → Ab (w.heap.size + 2) A B → k < w.heap.size + 2 → B.heap[k]? = some o := fun h hb hk => (hb.be.block _ hk).trans h
  refine wpIn_rangeFunc fun fn hfn => ?_
  rw [hro]
  let lp : LoopState → Option Code → Loop := fun st pe => { state := st, pending := pe, fn, tmps := a.tmps, params := ps, assign, body, defers := w.heap.size }
  let W1 : World := (w.alloc (.deferred (some []))).alloc (.loop (lp .ready none))
  have sz1 : W1.heap.size = w.heap.size + 2 := by show ((w.alloc _).alloc _).heap.size = _; simp
  have ab1 : Ab w.heap.size w W1 := (Ab.alloc w (Nat.le_refl _) _).trans (Ab.alloc _ (by simp) _)
  have hl1 : W1.heap[w.heap.size + 1]? = some (.loop (lp .ready none)) := by
    have := World.alloc_heap_new (w.alloc (.deferred (some []))) (.loop (lp .ready none))
    rwa [World.size_alloc] at this
  have hd1 : W1.heap[w.heap.size]? = some (.deferred (some [])) := (Below.heap_alloc (w.alloc (.deferred (some []))) _ _ (by simp)).trans (World.alloc_heap_new w _)
  refine ⟨w.heap.size + 1, [{ target := .collected w.heap.size, args := #[] }], W1, { target := .fn (.func gf) lb, args := #[.func (.yield (w.heap.size + 1)) #[] #[]] }, W1, gf, #[.func (.yield (w.heap.size + 1)) #[] #[]] ++ lb, W1, run_enterLoop_outer _ _ _ _ _, ?_, ?_, ?_, fun _ => h1, ?_⟩
  · simp only [resolve, hg]; simp [go_sem]
  · intro f' hf'
    simp [Target.leads] at hf'
    subst hf'; exact hFg
  · simp [invoke, go_sem, eg]
  -- the caller's word, and the two blocks of book-keeping
  let Bk (st : LoopState) (pe : Option Code) (W : World) : Prop := W.heap[w.heap.size + 1]? = some (.loop (lp st pe)) ∧ W.heap[w.heap.size]? = some (.deferred (some []))
  have hBk : ∀ {st pe A B}, Bk st pe A → Ab (w.heap.size + 2) A B → Bk st pe B := fun h hb => ⟨hxy h.1 hb (by omega), hxy h.2 hb (by omega)⟩
  refine (hseq (w.heap.size + 1) (fun pre W => I pre W ∧ Bk .ready none W) W1 ab1.be
    (fun pre A B h hb => ⟨hI pre A B h.1 (hb.mono (by omega)), hBk h.2 (sz1 ▸ hb)⟩)
    ?_ ⟨hI [] w W1 h0 ab1, hl1, hd1⟩).mono ?_
  · rintro pre x W ⟨hi, hl, hd⟩ he hsz
    refine ⟨fn, _, assign, body, run_yield hl (hps x), roundIn_of_wpIn hfn (hassign _ x W _ ⟨_, run_beginRound hl rfl, ?_⟩)⟩
    have hlt : w.heap.size + 1 < W.heap.size := (Array.getElem?_eq_some_iff.1 hl).1
    have abb : Ab w.heap.size W (W.putObj (w.heap.size + 1) (.loop { lp .ready none with state := .busy })) := Ab.putObj (by omega) hl rfl _
    have hlb : (W.putObj (w.heap.size + 1) (.loop { lp .ready none with state := .busy })).heap[w.heap.size + 1]? = some (.loop { lp .ready none with state := .busy }) := World.putObj_heap_same hlt
    have hdb : (W.putObj (w.heap.size + 1) (.loop { lp .ready none with state := .busy })).heap[w.heap.size]? = some (.deferred (some [])) := (World.putObj_heap_other (by omega)).trans hd
    refine wpIn_mono (hbody _ pre x _ (by omega) (hI _ _ _ hi abb) (hEl _ _ _ _ he abb)) ?_
    -- how the round ends
    have ends : ∀ (jump : Option Code) (W3 : World), KeepsFrom w.heap.size (W.putObj (w.heap.size + 1) (.loop { lp .ready none with state := .busy })) W3 →
        ∃ W4, (Instr.endRound (w.heap.size + 1) jump).run P W3 = .ok (.bool jump.isNone) W4 ∧ Bk (if jump.isNone then .ready else .done) jump W4 ∧ Ab w.heap.size W3 W4 ∧ (∃ r o, W3.heap[w.heap.size + 1]? = some (.loop r) ∧ W4 = W3.putObj (w.heap.size + 1) o) := fun jump W3 hk => by
      have hl3 := hk.same _ _ (by omega) hlb rfl
      have hd3 := hk.same _ _ (Nat.le_refl _) hdb rfl
      exact ⟨_, run_endRound jump hl3, ⟨World.putObj_heap_same (Array.getElem?_eq_some_iff.1 hl3).1, (World.putObj_heap_other (by omega)).trans hd3⟩, Ab.putObj (by omega) hl3 rfl _, _, _, hl3, rfl⟩
    rintro e a3 W3 hp
    cases e with
    | normal =>
      obtain ⟨hk3, hkp3, hi3⟩ := hp
      obtain ⟨W4, hr, hb4, ab4, r, o, hl3, rfl⟩ := ends none W3 hk3
      exact ⟨_, _, hr, ⟨rfl, ⟨hI _ _ _ hi3 ab4, hb4⟩, hKt (hKb _ _ _ _ (by omega) hl) (hKt hkp3 (hKb _ _ _ _ (by omega) hl3))⟩⟩
    | ret => exact hp.2.elim
    | exit id => exact hp.2.elim
    | goto t => exact hp.2.elim
    | panic ch => exact hp.elim
    | outgrown => exact hp.elim
  · rintro e W2 ⟨⟨v, rfl⟩, xs, hS, hi, hb⟩
    exact ⟨none, _, run_endLoop hb.1 (by intro h; cases h), hdone _ xs _ (Nat.le_refl _) hS (hI _ _ _ hi (Ab.putObj (by omega) hb.1 rfl _)) ((World.putObj_heap_other (by omega)).trans hb.2)⟩

end Go.Proofs.YtiohpcnnpmnjhaaGreatDoor

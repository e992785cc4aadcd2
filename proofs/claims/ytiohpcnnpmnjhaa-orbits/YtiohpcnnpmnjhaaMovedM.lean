import Derived.Test.YtiohpcnnpmnjhaaAroundM
import Derived.Maps.OwnIn
import Derived.WideKeyPair
import Derived.WideKeyEntry
import Derived.Test.YtiohpcnnpmnjhaaBlk
import Derived.Test.YtiohpcnnpmnjhaaCellRow
import Derived.RangeFuncNested
import Derived.RangeFuncBound
import Derived.RangeFuncCalls
import Derived.RangeFuncLeaves
import Derived.RangeFuncBox
import Derived.Shelf.Abstract
import Derived.Shelf.RegionOpen
import Derived.OwnWalkIn
import Derived.TacticsInMore
import Derived.LoopNIn
import Derived.LoopIn
import Derived.Stop.RegionWithIn
import Derived.Sort.QuietIn
import Derived.Sort.BigQuietIn
namespace Go.Proofs.Ytiohpcnnpmnjhaa
open Go.RowKit Go.WideMaps Go.Maps
set_option linter.unusedVariables false

/-- What reads as a key of a type of pairs is a pair. -/
theorem keyOf_pair_inv {P : Program} {k e : TypeId} {q : IntKind} (A : ArrKey P k e 2) (he : P.underlying e = some (.int q)) (hsz : ∃ m, P.types.size = m + 1) {v : Value} {l : Lit} (h : keyOf P k v = some l) :
    ∃ a b, v = .agg #[.int q a, .int q b] ∧ (Lit.int q a).wf = true ∧ (Lit.int q b).wf = true := by
  obtain ⟨m, hm⟩ := hsz
  unfold keyOf at h
  simp only [A.hu] at h
  split at h
  · rename_i hf
    simp only [Bool.and_eq_true] at hf
    cases v <;> simp [Value.formed, A.hu] at hf
    rename_i cs
    have h2 := hf.2
    rw [A.size] at h2
    obtain ⟨x, y, rfl⟩ : ∃ x y, cs = #[x, y] := by
      obtain ⟨l⟩ := cs
      match l, h2 with
      | [x, y], _ => exact ⟨x, y, rfl⟩
    rw [hm] at h
    unfold Program.keyLits at h
    simp only [A.hu, Value.cells] at h
    rw [if_pos (by rw [A.size]; rfl), show List.range 2 = [0, 1] from rfl, List.mapM_cons, List.mapM_cons, List.mapM_nil] at h
    simp only [A.one, Nat.zero_mul, Nat.one_mul, List.drop_zero, List.take_succ_cons, List.take_zero, List.drop_succ_cons] at h
    have one : ∀ (x : Value) (r : List Lit), P.keyLits (m + 1) e [x] = some r → ∃ a, x = .int q a ∧ (Lit.int q a).wf = true := fun x r hx => by
      unfold Program.keyLits at hx
      simp only [he] at hx
      cases x <;> simp at hx
      exact ⟨_, by rw [hx.1.1], hx.1.2⟩
    cases hx : P.keyLits (m + 1) e [x] with
    | none => simp [hx] at h
    | some r =>
      cases hy : P.keyLits (m + 1) e [y] with
      | none => simp [hx, hy] at h
      | some s =>
        obtain ⟨a, rfl, wa⟩ := one x r hx
        obtain ⟨b, rfl, wb⟩ := one y s hy
        exact ⟨a, b, rfl, wa, wb⟩
  · cases h

/-- A cell as a value. -/
def kcell (c : Cel) : Value := .agg #[.int .i64 c.1, .int .i64 c.2]
theorem kcell_inj {a b : Cel} (h : kcell a = kcell b) : a = b := by
  obtain ⟨x, y⟩ := a
  obtain ⟨u, v⟩ := b
  simp [kcell] at h
  exact Prod.ext h.1 h.2

/-- The datum of a map from cells to numbers reads as f. -/
structure Reads (P : Program) (k : TypeId) (D : DataW Unit) (f : Cel → Option Int) : Prop where
  map : IsMap D
  at_ : ∀ c kl, keyOf P k (kcell c) = some kl → has D kl = (f c).isSome ∧ D.atKey kl (.lit (.int .i64 0)) = .lit (.int .i64 ((f c).getD 0))

def putF (f : Cel → Option Int) (c : Cel) (v : Int) : Cel → Option Int := fun x => if x = c then some v else f x

theorem Reads.empty (P : Program) (k : TypeId) : Reads P k (.map []) (fun _ => none) := ⟨⟨[], rfl⟩, fun c kl _ => ⟨rfl, rfl⟩⟩
theorem Reads.put {P : Program} {k : TypeId} {D : DataW Unit} {f : Cel → Option Int} (h : Reads P k D f) (K : Keyed P k) {c : Cel} {kl : Lit} (hk : keyOf P k (kcell c) = some kl) (v : Int) :
    Reads P k (D.put kl (.lit (.int .i64 v))) (putF f c v) := by
  refine ⟨?_, fun x kx hx => ?_⟩
  · obtain ⟨es, rfl⟩ := h.map; exact ⟨_, rfl⟩
  · by_cases e : x = c
    · subst e
      rw [hk] at hx; cases hx
      simp only [putF, if_true, Option.isSome_some, Option.getD_some]
      exact ⟨has_put_same h.map (K.key hk) _, atKey_put_same h.map (K.key hk) _ _⟩
    · have hne : kx ≠ kl := fun e' => e (kcell_inj (K.inj hx (e' ▸ hk)))
      simp only [putF, if_neg e]
      rw [has_put_other hne, atKey_put_other hne]
      exact h.at_ x kx hx

/-- One more at c; nothing more at c. -/
def bump (f : Cel → Option Int) (c : Cel) : Cel → Option Int := putF f c ((f c).getD 0 + 1)
def touch (f : Cel → Option Int) (c : Cel) : Cel → Option Int := putF f c ((f c).getD 0)
/-- What is counted for the cells C, one behind the other. -/
def countF (C : List Cel) : Cel → Option Int := C.foldl (fun f d => (eight d).foldl bump (touch f d)) (fun _ => none)
theorem countF_snoc (C : List Cel) (d : Cel) : countF (C ++ [d]) = (eight d).foldl bump (touch (countF C) d) := by simp [countF]

theorem bumps (x : Cel) : ∀ (q : List Cel) (f : Cel → Option Int), q.foldl bump f x = if x ∈ q then some ((f x).getD 0 + (q.count x : Int)) else f x
  | [], f => by simp
  | c :: q, f => by
    rw [List.foldl_cons, bumps x q (bump f c)]
    by_cases e : x = c
    · subst e
      simp only [bump, putF, if_true, Option.getD_some, List.mem_cons, true_or, List.count_cons_self]
      split
      · congr 1; omega
      · rename_i h; rw [List.count_eq_zero_of_not_mem h]; simp
    · have e' : ¬ c = x := fun h => e h.symm
      simp only [bump, putF, if_neg e, List.mem_cons, List.count_cons_of_ne e']
      by_cases hm : x ∈ q
      · rw [if_pos hm, if_pos (Or.inr hm)]
      · rw [if_neg hm, if_neg (fun h => h.elim e hm)]

theorem mem_eight {x d : Cel} : x ∈ eight d ↔ x ∈ around d ∧ x ≠ d := by
  unfold eight eightTo
  have : (around d).take 9 = around d := List.take_of_length_le (by simp [around])
  rw [this, List.mem_filter]
  simp
theorem nodup_around (d : Cel) : (around d).Nodup := by
  unfold around
  rw [List.nodup_iff_pairwise_ne, List.pairwise_map]
  refine List.Pairwise.imp_of_mem ?_ (List.nodup_iff_pairwise_ne.1 List.nodup_range)
  intro a b ha hb hne h
  simp only [Prod.mk.injEq] at h
  have := List.mem_range.1 ha
  have := List.mem_range.1 hb
  omega
theorem count_eight {x d : Cel} (h : x ∈ eight d) : (eight d).count x = 1 := by
  have hn : (eight d).Nodup := by
    unfold eight eightTo
    exact ((nodup_around d).sublist (List.take_sublist _ _)).sublist List.filter_sublist
  have h1 := List.nodup_iff_count.1 hn x
  have h2 := List.count_pos_iff.2 h
  omega
theorem eight_isNb {x d : Cel} : x ∈ eight d ↔ isNb x d = true := by
  rw [mem_eight, mem_around]
  unfold isNb
  simp only [Bool.and_eq_true, decide_eq_true_eq, Bool.not_eq_true', decide_eq_false_iff_not]
  constructor
  · rintro ⟨⟨a, b, c, e⟩, hne⟩; exact ⟨⟨⟨⟨by omega, by omega⟩, by omega⟩, by omega⟩, fun h => hne h.symm⟩
  · rintro ⟨⟨⟨⟨a, b⟩, c⟩, e⟩, hne⟩; exact ⟨⟨by omega, by omega, by omega, by omega⟩, fun h => hne h.symm⟩

theorem countF_is (x : Cel) : ∀ (m : Nat) (C : List Cel), C.length = m → ((countF C x).isSome = true ↔ ∃ d ∈ C, x ∈ around d) ∧ (countF C x).getD 0 = (nbC C x : Int)
  | 0, C, h => by
    have := List.eq_nil_of_length_eq_zero h
    subst this
    simp [countF, nbC]
  | m + 1, C, h => by
    obtain ⟨R, d, rfl⟩ : ∃ R d, C = R ++ [d] := by
      have hne : C ≠ [] := by intro e; simp [e] at h
      exact ⟨C.dropLast, C.getLast hne, (List.dropLast_concat_getLast hne).symm⟩
    obtain ⟨ih1, ih2⟩ := countF_is x m R (by simpa using h)
    rw [countF_snoc, bumps]
    have hself : d ∈ around d := mem_around.2 (by omega)
    have hnb : nbC (R ++ [d]) x = nbC R x + (if isNb x d then 1 else 0) := by
      unfold nbC
      rw [List.countP_append]
      rw [List.countP_cons, List.countP_nil, Nat.zero_add]
    have hex : (∃ e ∈ R ++ [d], x ∈ around e) ↔ (∃ e ∈ R, x ∈ around e) ∨ x ∈ around d := by simp [or_and_right, exists_or]
    rw [hex]
    by_cases h8 : x ∈ eight d
    · have hb := eight_isNb.1 h8
      have hne := (mem_eight.1 h8).2
      rw [if_pos h8, count_eight h8, hnb, if_pos hb]
      refine ⟨by simp [(mem_eight.1 h8).1], ?_⟩
      simp only [touch, putF, if_neg hne, Option.getD_some, ih2]
      omega
    · have hb : isNb x d = false := by
        cases hi : isNb x d
        · rfl
        · exact absurd (eight_isNb.2 hi) h8
      rw [if_neg h8, hnb, hb]
      by_cases e : x = d
      · subst e
        simp [touch, putF, ih2, hself]
      · have hna : ¬ x ∈ around d := fun h => h8 (mem_eight.2 ⟨h, e⟩)
        simp only [touch, putF, if_neg e, hna, or_false, ih2]
        exact ⟨ih1, by simp⟩

end Go.Proofs.Ytiohpcnnpmnjhaa

namespace Go.Proofs.Ytiohpcnnpmnjhaa
open Go.RowKit Go.WideMaps Go.Maps
open Go.ChangeMaps (setBlock heap_setBlock_same heap_setBlock_other)
open Go.ChangeShapes Go.WideShapes Go.MapKept
set_option linter.unusedVariables false

theorem key_one {l : List MapEntry} (hn : l.Pairwise (fun x y => x.key ≠ y.key)) {a b : MapEntry} (ha : a ∈ l) (hb : b ∈ l) (h : a.key = b.key) : a = b := by
  obtain ⟨i, hi, rfl⟩ := List.mem_iff_getElem.1 ha
  obtain ⟨j, hj, rfl⟩ := List.mem_iff_getElem.1 hb
  have hp := List.pairwise_iff_getElem.1 hn
  rcases Nat.lt_trichotomy i j with h1 | h1 | h1
  · exact absurd h (hp i j hi hj h1)
  · subst h1; rfl
  · exact absurd h.symm (hp j i hj hi h1)

theorem ownsMap_of_block {P : Program} {k : TypeId} {R : Value → Option (DataW Unit × List MemPlace)} {b n : Nat} {D : DataW Unit} {w w' : World} (h : w.ownsMap P k R b n D) (e : w'.heap[b]? = w.heap[b]?) : w'.ownsMap P k R b n D := by
  obtain ⟨es, clock, hb, F, hs, hD⟩ := h
  exact ⟨es, clock, e.trans hb, F, hs, hD⟩

theorem modify_at {es : Array MapEntry} {j : Nat} {e0 : MapEntry} (h : es[j]? = some e0) {f g : MapEntry → MapEntry} (e : f e0 = g e0) : es.modify j f = es.modify j g := by
  apply Array.ext'
  have h' : es.toList[j]? = some e0 := by simpa using h
  rw [Array.toList_modify, Array.toList_modify, Go.ChangeMaps.modify_eq_set _ _ _ _ h', Go.ChangeMaps.modify_eq_set _ _ _ _ h', e]
/-- To find (or make) an entry is to set it to what it holds. -/
theorem entry_update {P : Program} {t k e : TypeId} {b clock : Nat} {es : Array MapEntry} {w w1 : World} {key v0 z st : Value} {kl : Lit} {R : Value → Option (DataW Unit × List MemPlace)} (K : KeyLaw P k) (ht : P.underlying t = some (.map k e)) (hz : ∀ u : World, (zeroValue e).run P u = .ok z u)
    (hb : w.heap[b]? = some (.map es clock)) (F : Go.WideElems.Fit P k R es clock) (hkey : keyOf P k key = some kl) (h : (Instr.mapEntry t (.map (some b)) key).run P w = .ok (.tuple #[v0, st]) w1) :
    (Instr.mapUpdate t (.map (some b)) key v0).run P w = .ok () w1 := by
  rcases K.find w hkey es.toList F.keys with ⟨h1, h2⟩ | ⟨j, e0, h1, h2, h3⟩
  · simp [Instr.mapEntry, run_underlying ht, MapKept.run_getObj_map hb, K.check w false hkey, h1, hz, MapKept.run_setObj_map _ hb, Result.andThen] at h
    obtain ⟨⟨rfl, _⟩, rfl⟩ := h
    simp [Instr.mapUpdate, run_underlying ht, MapKept.run_getObj_map hb, K.check w false hkey, h1, MapKept.run_setObj_map _ hb, Result.andThen]
  · have hj : es[j]? = some e0 := by simpa using h2
    simp [Instr.mapEntry, run_underlying ht, MapKept.run_getObj_map hb, K.check w false hkey, h1, hj, h3, K.stays w hkey, MapKept.run_setObj_map _ hb, Result.andThen] at h
    obtain ⟨⟨rfl, _⟩, rfl⟩ := h
    simp [Instr.mapUpdate, run_underlying ht, MapKept.run_getObj_map hb, K.check w false hkey, h1, hj, h3, K.stays w hkey, MapKept.run_setObj_map _ hb, Result.andThen]
    rw [modify_at hj (g := fun e => { e with key := key }) rfl]

/-- An entry of a map is found (or made), and then written. -/
theorem ownsMap_entry {P : Program} {t k e : TypeId} {b n : Nat} {D : DataW Unit} {w : World} {key : Value} {kl : Lit} (K : KeyLaw P k) (ht : P.underlying t = some (.map k e)) (he : P.underlying e = some (.int .i64)) (hz : ∀ u : World, (zeroValue e).run P u = .ok (.int .i64 0) u)
    (h : w.ownsMap P k (plainElem P e) b n D) (hn : n < maxLen) (hkey : keyOf P k key = some kl) :
    ∃ (c : Int) (st : Nat) (o1 : Obj), (Instr.mapEntry t (.map (some b)) key).run P w = .ok (.tuple #[.int .i64 c, .int .i64 (st : Int)]) (setBlock w b o1) ∧ (setBlock w b o1).ownsMap P k (plainElem P e) b (n + 1) (D.put kl (.lit (.int .i64 c))) ∧ D.atKey kl (.lit (.int .i64 0)) = .lit (.int .i64 c) ∧
      ∀ (w2 : World) (v : Int), (Lit.int .i64 v).wf = true → w2.heap[b]? = some o1 → ∃ o2, (Instr.entryStore t (.map (some b)) (.int .i64 (st : Int)) (.int .i64 v)).run P w2 = .ok () (setBlock w2 b o2) ∧
        (setBlock w2 b o2).ownsMap P k (plainElem P e) b (n + 1) (D.put kl (.lit (.int .i64 v))) := by
  have h' := h
  obtain ⟨es, clock, hb, F, hs, rfl⟩ := h
  have KK := Keyed.of_law K
  obtain ⟨v0, st, es1, clock1, hrun, hv0, hst⟩ := Go.WideElems.entry_then_store K ht hz hb F hkey
  have hw0 : (Lit.int .i64 0).wf = true := by decide
  have hat : ∃ c, v0 = .int .i64 c ∧ (DataW.map ((es.toList.map (Go.WideElems.rg P k (plainElem (H := Unit) P e))).foldr DataW.insert [])).atKey kl (.lit (.int .i64 0)) = .lit (.int .i64 c) := by
    rcases fit_look false KK ht (hz w) hb F hkey with ⟨_, hno, h0⟩ | ⟨e0, y, hm, hke, _, hR, h0, _⟩
    · rcases hv0 with ⟨e1, hm1, hk1, _⟩ | ⟨_, rfl⟩
      · exact absurd hk1 (hno e1 hm1)
      · exact ⟨0, rfl, h0 _⟩
    · rcases hv0 with ⟨e1, hm1, hk1, rfl⟩ | ⟨hno, _⟩
      · have hpw : es.toList.Pairwise (fun x y => x.key ≠ y.key) := List.pairwise_map.1 (List.nodup_iff_pairwise_ne.1 F.stamped.2.2)
        have : e1 = e0 := key_one hpw hm1 hm (hk1.trans hke.symm)
        subst this
        obtain ⟨c, hc, hy, _⟩ := plainElem_int_inv he hR
        exact ⟨c, hc, by rw [h0, hy]⟩
      · exact absurd hke (hno e0 hm)
  obtain ⟨c, rfl, hat⟩ := hat
  have hwc : (Lit.int .i64 c).wf = true := by
    obtain ⟨c', _, hat', hw'⟩ := h'.lookup_int KK ht he (hz w) hkey
    rw [hat] at hat'
    cases hat'; exact hw'
  have hone : (setBlock w b (.map es1 clock1)).ownsMap P k (plainElem P e) b (n + 1) ((DataW.map ((es.toList.map (Go.WideElems.rg P k (plainElem (H := Unit) P e))).foldr DataW.insert [])).put kl (.lit (.int .i64 c))) := by
    have hu := entry_update K ht hz hb F hkey hrun
    obtain ⟨w', hrun', hown', _⟩ := h'.update KK ht hn hkey (plainElem_int he hwc)
    rw [hu] at hrun'
    cases hrun'
    exact hown'
  refine ⟨c, st, .map es1 clock1, hrun, hone, hat, fun w2 v hv hw2 => ?_⟩
  obtain ⟨es', clock', hs2, hup⟩ := hst w2 (.int .i64 v) hw2
  obtain ⟨w', hrun', hown', _⟩ := h'.update KK ht hn hkey (plainElem_int he hv)
  rw [hup] at hrun'
  cases hrun'
  refine ⟨_, hs2, ownsMap_of_block hown' ?_⟩
  rw [heap_setBlock_same hw2, heap_setBlock_same hb]

end Go.Proofs.Ytiohpcnnpmnjhaa

namespace Go.Proofs.Ytiohpcnnpmnjhaa
open Go.RowKit Go.Shelf
set_option linter.unusedVariables false

theorem grown_of_below {W W' : World} (h : Below W.heap.size W W') : W.grownBy W' none := ⟨h.os, h.tape, h.output, h.size, fun k hk _ => h.block k hk⟩
theorem keepc {W W' : World} {row : Option Nat} {B k : Nat} {cs : Array Value} {t : TypeId} {fz : Nat × Nat} (h : W.heap[k]? = some (.cells cs t fz)) (hg : W.grownBy W' row) (hr : ∀ r, row = some r → B ≤ r ∧ ∃ o : Obj, W.heap[r]? = some o ∧ o.isCells = false) : W'.heap[k]? = some (.cells cs t fz) := by
  refine (hg.block k (blk_lt h) (fun e => ?_)).trans h
  obtain ⟨_, o, ho, hc⟩ := hr k e.symm
  rw [h] at ho; cases ho; cases hc
theorem keepw {w W W' : World} {row : Option Nat} {B N : Nat} (h : Below N w W) (hN : N ≤ w.heap.size) (hNB : N ≤ B) (hg : W.grownBy W' row) (hr : ∀ r, row = some r → B ≤ r ∧ ∃ o : Obj, W.heap[r]? = some o ∧ o.isCells = false) : Below N w W' :=
  h.trans ⟨hg.os, hg.tape, hg.output, hg.size, fun k hk => hg.block k (by have := h.size; omega) (fun e => by have := (hr k e.symm).1; omega)⟩

end Go.Proofs.Ytiohpcnnpmnjhaa

namespace Go.Proofs.Ytiohpcnnpmnjhaa
open Go.RowKit Go.Shelf
set_option linter.unusedVariables false
attribute [local go_sem] Oper.semAt_some

/-- A cell as an iterator gives it out. -/
def encC (c : Cel) : Array Value := #[.agg #[.int .i64 c.1, .int .i64 c.2]]
/-- What a round keeps: what lies below n, and the boxes b and b + 1. -/
structure Kp2 (n b : Nat) (W W' : World) : Prop where
  be : Below n W W'
  bx : W'.heap[b]? = W.heap[b]?
  bz : W'.heap[b + 1]? = W.heap[b + 1]?
theorem Kp2.trans {n b : Nat} {X Y Z : World} (h : Kp2 n b X Y) (k : Kp2 n b Y Z) : Kp2 n b X Z := ⟨h.be.trans k.be, k.bx.trans h.bx, k.bz.trans h.bz⟩

set_option maxRecDepth 100000 in
set_option maxHeartbeats 1600000 in
theorem moved1_in (n : Nat) (hn : 2 ≤ n) (l Bs n₀ g cap : Nat) (dx dy : Int) (C : List Cel) (hF : Fits dx dy C) (hl : C.length ≤ 1000000) (hg : g < n₀)
    (J Jx : List Cel → World → Prop) (W : World) (hJ : AbidesFrom W.heap.size J)
    (hY : ∀ pre x W1, J pre W1 → pre.length < C.length → YieldAt Fence.wide (n - 1) Try.prog l (encC x) W1 fun e W' => (e = .returned (.bool true) ∧ J (pre ++ [x]) W' ∧ Kp2 n₀ Bs W1 W') ∨ (e = .returned (.bool false) ∧ Jx (pre ++ [x]) W'))
    (hn0 : n₀ ≤ W.heap.size) (hBs : W.heap[Bs]? = some (.cells #[.slice (some ⟨g, 0, none⟩) C.length cap] 65 (0, 0))) (hBy : W.heap[Bs + 1]? = some (.cells #[.int .i64 dx, .int .i64 dy] 99 (0, 0))) (hc : CellsAt W g C) (h0 : J [] W) :
    CallsIn Fence.wide n Try.prog 81 #[.func (.yield l) #[] #[], .pointer (some ⟨Bs, 0, none⟩), .pointer (some ⟨Bs + 1, 0, none⟩)] W fun e W' => (∃ v, e = .returned v) ∧ (J (C.map (sh dx dy)) W' ∨ (∃ pre, pre <+: C.map (sh dx dy) ∧ Jx pre W')) := by
  have h1n : 1 ≤ n := by omega
  have hnot : ∀ (x : Bool) (w : World), (Op.unary .not (.bool x)).run Try.prog w = .ok (.bool (!x)) w := fun _ _ => rfl
  have cB0 := cell_of hBs 0
  refine callsIn_of_wp Try.func81 rfl trivial ?_ rfl
  simp only [Try.ntmps81, List.size_toArray, List.length_cons, List.length_nil, Nat.reduceAdd, Nat.reduceSub, Array.replicate_succ, Array.replicate_zero, List.push_toArray, List.append_toArray, List.nil_append, List.cons_append]
  gi_wp2
  gi_loopw [8] (fun i wr => ∃ k : Nat, k ≤ C.length ∧ i = .int .i64 k ∧ J ((C.take k).map (sh dx dy)) wr ∧ Kp2 n₀ Bs W wr ∧ W.heap.size ≤ wr.heap.size) (fun i _ => C.length - (intOf i).toNat)
  case atStart => exact ⟨0, Nat.zero_le _, rfl, by simpa using h0, ⟨Below.refl _ _, rfl, rfl⟩, Nat.le_refl _⟩
  case round =>
    obtain ⟨k, hk, rfl, hJs, hkp, hsz⟩ := hrel
    have hb2 := hkp.bz.trans hBy
    have q0 := cell_of hb2 0
    have q1 := cell_of hb2 1
    by_cases hlt : k < C.length
    · obtain ⟨⟨x, y⟩, hs⟩ : ∃ s, C[k]? = some s := ⟨C[k], by simp [hlt]⟩
      obtain ⟨d0, d1⟩ := (hc.below hkp.be hg).get k _ hs
      simp only at d0 d1
      have hf := hF (x, y) (List.mem_of_getElem? hs)
      simp only at hf
      have hgl : g < wr.heap.size := by omega
      have hBl : Bs + 1 < wr.heap.size := blk_lt hb2
      have hbz : Below wr.heap.size wr (wr.alloc (.cells #[.int .i64 x, .int .i64 y] 99)) := (Below.refl _ _).alloc (Nat.le_refl _) _
      have HT : Hid ((C.take (k + 1)).map (sh dx dy) = (C.take k).map (sh dx dy) ++ [sh dx dy (x, y)]) := by
        show _ = _
        rw [List.take_add_one, hs]; simp
      obtain ⟨fn, tmps, assign, body, hy, hR⟩ := hY _ (sh dx dy (x, y)) _ (hJ _ wr _ none hJs (grown_of_below hbz) (fun r e => by cases e)) (by simp; omega)
      dsimp only [encC, sh] at hy
      clear hs
      gi_wp2
      refine hR.mono ?_
      rintro e W3 (⟨rfl, hJ3, hk3⟩ | ⟨rfl, hJx3⟩)
      · gi_wp2
        go_roundw
        case rel => exact ⟨k + 1, by omega, by go_num, by rw [HT.out]; exact hJ3, hkp.trans (Kp2.trans ⟨hbz.mono (by omega), hbz.block Bs (by omega), hbz.block (Bs + 1) hBl⟩ hk3), by have := hbz.size; have := hk3.be.size; omega⟩
        case measure => simp [intOf]; omega
      · gi_wp2
        refine bodyPost_ret (results_none rfl _ _ _) rfl ?_
        exact ⟨⟨_, rfl⟩, .inr ⟨_, by rw [← HT.out]; exact (List.take_prefix _ _).map _, hJx3⟩⟩
    · have hk' : k = C.length := by omega
      subst hk'
      rw [List.take_length] at hJs
      gi_wp2
      go_end0
      exact ⟨⟨_, rfl⟩, .inl hJs⟩

set_option maxRecDepth 100000 in
set_option maxHeartbeats 1000000 in
theorem moved1_nil (n : Nat) (l Bs vc : Nat) (p : Value) (a : Option Addr) {α : Type} (J : List α → World → Prop) (W : World) (hBs : W.cell? ⟨Bs, 0, none⟩ = some (.slice a 0 vc)) (h0 : J [] W) :
    CallsIn Fence.wide n Try.prog 81 #[.func (.yield l) #[] #[], .pointer (some ⟨Bs, 0, none⟩), p] W fun e W' => (∃ v, e = .returned v) ∧ J [] W' := by
  refine callsIn_of_wp Try.func81 rfl trivial ?_ rfl
  simp only [Try.ntmps81, List.size_toArray, List.length_cons, List.length_nil, Nat.reduceAdd, Nat.reduceSub, Array.replicate_succ, Array.replicate_zero, List.push_toArray, List.append_toArray, List.nil_append, List.cons_append]
  gi_wp2
  gi_loopw [8] (fun i wr => i = .int .i64 0 ∧ wr = W) (fun _ _ => 0)
  case atStart => exact ⟨rfl, rfl⟩
  case round =>
    obtain ⟨rfl, rfl⟩ := hrel
    gi_wp2
    go_end0
    exact ⟨⟨_, rfl⟩, h0⟩

/-- The iterator over a pattern's cells, moved, as a range over it asks. -/
theorem moved_stops_pre (n : Nat) (hn : 2 ≤ n) (a : Option Addr) (vc Bs n₀ : Nat) (dx dy : Int) (C : List Cel) (w w0 : World) (own : w.ownsRow 0 99 2 (.slice a C.length vc) C.length (flatC C)) (hl : C.length ≤ 1000000) (hF : Fits dx dy C)
    (hn' : n₀ = w.heap.size) (hb : Below w.heap.size w w0) (hBs : w0.heap[Bs]? = some (.cells #[.slice a C.length vc] 65 (0, 0))) (hBy : w0.heap[Bs + 1]? = some (.cells #[.int .i64 dx, .int .i64 dy] 99 (0, 0))) :
    SeqStopsK Fence.wide n Try.prog 81 #[.pointer (some ⟨Bs, 0, none⟩), .pointer (some ⟨Bs + 1, 0, none⟩)] encC (Kp2 n₀ Bs) (fun xs => xs = C.map (sh dx dy)) (fun pre => pre <+: C.map (sh dx dy)) C.length w0 := fun l J Jx W hW hJ hJx hY h0 => by
  subst hn'
  have hBs' : W.heap[Bs]? = some (.cells #[.slice a C.length vc] 65 (0, 0)) := (hW.block Bs (blk_lt hBs)).trans hBs
  have hBy' : W.heap[Bs + 1]? = some (.cells #[.int .i64 dx, .int .i64 dy] 99 (0, 0)) := (hW.block (Bs + 1) (blk_lt hBy)).trans hBy
  rcases cells_cases own with ⟨hv, rfl⟩ | ⟨g, cap, hv, hS, hg⟩
  · exact (moved1_nil n l Bs vc _ a J W (cell_of hBs' 0) h0).mono fun e W' ⟨he, hj⟩ => ⟨he, .inl ⟨[], rfl, hj⟩⟩
  · cases hv
    have hc := (hS.below hb hg).below (hW.mono hb.size) hg
    refine (moved1_in n hn l Bs w.heap.size g vc dx dy C hF hl hg J Jx W hJ hY (Nat.le_trans hb.size hW.size) hBs' hBy' hc h0).mono ?_
    rintro e W' ⟨he, hj | ⟨pre, hp, hj⟩⟩
    · exact ⟨he, .inl ⟨_, rfl, hj⟩⟩
    · exact ⟨he, .inr ⟨pre, hp, hj⟩⟩
theorem moved_stops (n : Nat) (hn : 2 ≤ n) (a : Option Addr) (vc Bs n₀ : Nat) (dx dy : Int) (C : List Cel) (w w0 : World) (own : w.ownsRow 0 99 2 (.slice a C.length vc) C.length (flatC C)) (hl : C.length ≤ 1000000) (hF : Fits dx dy C)
    (hn' : n₀ = w.heap.size) (hb : Below w.heap.size w w0) (hBs : w0.heap[Bs]? = some (.cells #[.slice a C.length vc] 65 (0, 0))) (hBy : w0.heap[Bs + 1]? = some (.cells #[.int .i64 dx, .int .i64 dy] 99 (0, 0))) :
    SeqStopsK Fence.wide n Try.prog 81 #[.pointer (some ⟨Bs, 0, none⟩), .pointer (some ⟨Bs + 1, 0, none⟩)] encC (Kp2 n₀ Bs) (fun xs => xs = C.map (sh dx dy)) (fun _ => True) C.length w0 := fun l J Jx W hW hJ hJx hY h0 =>
  (moved_stops_pre n hn a vc Bs n₀ dx dy C w w0 own hl hF hn' hb hBs hBy l J Jx W hW hJ hJx hY h0).mono fun e W' ⟨he, h⟩ => ⟨he, h.imp id fun ⟨pre, _, hj⟩ => ⟨pre, trivial, hj⟩⟩

set_option maxHeartbeats 400000 in
theorem moved_any (a : Option Addr) (n c : Nat) (dx dy : Int) (w : World) :
    Calls Try.prog 65 #[.slice a n c, .agg #[.int .i64 dx, .int .i64 dy]] w fun e w' => e = .returned (.func (.func 81) #[] #[.pointer (some ⟨w.heap.size, 0, none⟩), .pointer (some ⟨w.heap.size + 1, 0, none⟩)]) ∧ w' = (w.alloc (.cells #[.slice a n c] 65)).alloc (.cells #[.int .i64 dx, .int .i64 dy] 99) := by
  have hmf : ∀ (fn : Fn) (first cap : Array Value) (w : World), (Instr.makeFunc fn first cap).run Try.prog w = .ok (.func fn first cap) w := fun _ _ _ _ => rfl
  go_enter Try.func65, Try.ntmps65
  go_wp2
  go_ret
  exact ⟨rfl, rfl⟩

set_option maxHeartbeats 400000 in
theorem cells_any (a : Option Addr) (n c : Nat) (w : World) :
    Calls Try.prog 74 #[.slice a n c] w fun e w' => e = .returned (.func (.func 81) #[] #[.pointer (some ⟨w.heap.size, 0, none⟩), .pointer (some ⟨w.heap.size + 1, 0, none⟩)]) ∧ w' = (w.alloc (.cells #[.slice a n c] 65)).alloc (.cells #[.int .i64 0, .int .i64 0] 99) := by
  go_enter Try.func74, Try.ntmps74
  go_wp2_with (go_at_call 65; refine (moved_any a n c 0 0 _).mono ?_; rintro e w1 ⟨rfl, rfl⟩)
  go_ret
  exact ⟨rfl, rfl⟩

end Go.Proofs.Ytiohpcnnpmnjhaa

import Derived.Test.YtiohpcnnpmnjhaaGreatDoorRunB
import Derived.Test.YtiohpcnnpmnjhaaGreatDoorShelf
import Derived.Lib.AppendIntMem
import Derived.Lib.ItoaLen
import Derived.Lib.OthersKept
import Derived.Lib.Slices
import Derived.Lib.Hide
import Derived.Laws.IdiomStrings
import Derived.BigCall
import Derived.Laws.Rows
namespace Go.Proofs.YtiohpcnnpmnjhaaGreatDoor
open Go.RowKit
set_option linter.unusedVariables false

theorem infoByte : (Tryz.prog.info? 5).map (fun i => (i.zero, i.size, i.bytes)) = some (some (.int .u8 0), 1, 1) := by kernel_rfl

/-- The table of the powers of ten lies as it was laid, whatever is done from block B on. -/
abbrev Tab (B : Nat) (w : World) : Prop := Lib.TabBelow Tryz.prog B w "internal/strconv.uint64pow10" .u64 Lib.pow10Tab

/-- v is a slice of bytes of the call's own (from block B on): the bytes l. -/
def Buf (w : World) (B : Nat) (v : Value) (l : List UInt8) : Prop := w.ownsRow B 5 1 v l.length (Lib.byteCells l)

/-- Nothing below block B, and no block of another kind than rows of bytes, has turned. -/
structure Kept (B : Nat) (w w' : World) : Prop where
  be : Below B w w'
  ok : Lib.OthersKept 5 none w w'
theorem Kept.refl (B : Nat) (w : World) : Kept B w w := ⟨Below.refl _ _, Lib.OthersKept.refl _ _ _⟩
theorem Kept.trans {B : Nat} {a b c : World} (h : Kept B a b) (k : Kept B b c) : Kept B a c := ⟨h.be.trans k.be, h.ok.trans k.ok⟩
theorem Kept.alloc {B : Nat} {a w : World} (h : Kept B a w) (hB : B ≤ w.heap.size) (o : Obj) : Kept B a (w.alloc o) := ⟨h.be.alloc hB o, h.ok.alloc o⟩
theorem Kept.block {B : Nat} {w w' : World} (h : Kept B w w') {k : Nat} {cs : Array Value} {t : TypeId} {fz : Nat × Nat} (hk : w.heap[k]? = some (.cells cs t fz)) (ht : t ≠ 5) : w'.heap[k]? = some (.cells cs t fz) :=
  h.ok k _ hk (by simp) (fun c f e => by cases e; exact ht rfl)

theorem grown_row {w w1 : World} {B n : Nat} {v : Value} {xs : List Value} {o : Obj} (own : w.ownsRow B 5 1 v n xs) (hg : World.grownBy (w.alloc o) w1 v.ownBlock) (hB : B ≤ w.heap.size) : Kept B w w1 := by
  refine ⟨((Below.refl B w).alloc hB o).grown hg (by simp; omega) (fun k hk => (own.lt k hk).1), ((Lib.OthersKept.refl _ _ _).alloc o).grown hg ?_⟩
  intro g hgv
  rcases own.2 with ⟨rfl, _⟩ | ⟨g', cap, cur, rfl, _, hh, _⟩
  · cases hgv
  · simp [Value.ownBlock] at hgv
    subst hgv
    exact ⟨cur, (0, 0), by rw [Below.heap_alloc _ _ _ (Array.getElem?_eq_some_iff.1 hh).1]; exact hh⟩

set_option maxHeartbeats 800000 in
theorem appendNumber_any (B : Nat) (v : Value) (l : List UInt8) (i : Int) (w : World) (hb : Buf w B v l) (hB : B ≤ w.heap.size) (ht : Tab B w) (h0 : -9223372036854775808 ≤ i) (h1 : i ≤ 9223372036854775807) (hl : l.length ≤ 1000000000) :
    Calls Tryz.prog 67 #[v, .int .i64 i] w fun e w' => (∃ v', e = .returned v' ∧ Buf w' B v' (l ++ Lib.itoa i ++ [32])) ∧ Kept B w w' := by
  obtain ⟨i0, hi, hz0, hz1, hz2⟩ := info_parts infoByte
  have li := Lib.itoa_length_le i h0 h1
  have hA := Tryz.strconv_AppendInt_10 B l.length i h0 h1 v (Lib.byteCells l) w hb hB (by omega) ht
  obtain ⟨li', hli⟩ : ∃ n, (Lib.itoa i).length = n := ⟨_, rfl⟩
  rw [hli] at li
  go_enter Tryz.func67, Tryz.ntmps67
  go_wp2_with (first
    | (go_at_call 97; refine hA.mono ?_; rintro e w1 ⟨v1, rfl, own1, b1, k1⟩; rw [hli] at own1; have s1 := b1.size)
    | (at_builtin; refine wpList_append_own _ rfl _ _ 115 rfl B 5 i0 (.int .u8 0) 1 1 Tryz.underlying115 hi hz0 hz1 hz2 rfl (by decide) _ _ _ rfl (own1.alloc _) ⟨w1.heap.size, 0, none⟩ 1 1 [Value.int .u8 32] rfl rfl (cell_one_new _ _ _) (by simp [Value.oneCell']) (by unfold maxLen; omega) (by omega) (by simp; omega) ?_; intro v2 w2 own2 hg2 _))
  go_ret
  refine ⟨⟨_, rfl, ?_⟩, (Kept.mk b1 k1).trans (grown_row own1 hg2 (by omega))⟩
  unfold Buf
  have e1 : (l ++ Lib.itoa i ++ [32]).length = l.length + li' + 1 := by simp [hli]; omega
  have e2 : Lib.byteCells (l ++ Lib.itoa i ++ [32]) = Lib.byteCells l ++ Lib.byteCells (Lib.itoa i) ++ [.int .u8 32] := by simp [Lib.byteCells]
  rw [e1, e2]
  exact own2

theorem buf_snoc {w : World} {B n : Nat} {v : Value} {l : List UInt8} {c : UInt8} (h : w.ownsRow B 5 1 v (n + 1) (Lib.byteCells l ++ [.int .u8 (c.toNat : Int)])) (hn : n = l.length) : Buf w B v (l ++ [c]) := by
  subst hn
  unfold Buf
  rw [show (l ++ [c]).length = l.length + 1 by simp, show Lib.byteCells (l ++ [c]) = Lib.byteCells l ++ [.int .u8 (c.toNat : Int)] by simp [Lib.byteCells]]
  exact h
theorem buf_itoa {w : World} {B : Nat} {v : Value} {l : List UInt8} {i : Int} (h : w.ownsRow B 5 1 v (l.length + (Lib.itoa i).length) (Lib.byteCells l ++ Lib.byteCells (Lib.itoa i))) : Buf w B v (l ++ Lib.itoa i) := by
  unfold Buf
  rw [List.length_append, show Lib.byteCells (l ++ Lib.itoa i) = Lib.byteCells l ++ Lib.byteCells (Lib.itoa i) by simp [Lib.byteCells]]
  exact h

set_option maxRecDepth 100000 in
set_option maxHeartbeats 800000 in
theorem appendRun_nat (B : Nat) (v : Value) (l : List UInt8) (n : Nat) (c : UInt8) (w : World) (hb : Buf w B v l) (hB : B ≤ w.heap.size) (ht : Tab B w) (hl : l.length + 5 * n ≤ 100000000000000) :
    Calls Tryz.prog 69 #[v, .int .i64 (n : Int), .int .u8 (c.toNat : Int)] w fun e w' => (∃ v', e = .returned v' ∧ Buf w' B v' (l ++ runB n c)) ∧ Kept B w w' := by
  obtain ⟨i0, hi, hz0, hz1, hz2⟩ := info_parts infoByte
  go_enter Tryz.func69, Tryz.ntmps69
  go_wp2
  go_loopg [0, 1] n (fun g vo vc wr => ∃ acc : List UInt8, vc = .int .i64 (g : Int) ∧ Buf wr B vo acc ∧ acc.length + 5 * g ≤ 100000000000000 ∧ Kept B w wr ∧ Hid (acc ++ runB g c = l ++ runB n c))
  case atStart => exact ⟨l, rfl, hb, hl, Kept.refl _ _, rfl⟩
  case round =>
    obtain ⟨acc, rfl, hbr, hlr, hk, hr⟩ := hrel
    have hsz := hk.be.size
    have htr := ht.on hk.be
    by_cases h0 : gk = 0
    · subst h0
      rw [runB_zero, List.append_nil] at hr
      go_wp2
      go_ret
      exact ⟨⟨_, rfl, by rw [← hr.out]; exact hbr⟩, hk⟩
    by_cases h1 : gk = 1
    · subst h1
      rw [runB_one] at hr
      have own := hbr
      unfold Buf at own
      have hm1 : min (1 : Int) 9999 = 1 := by decide
      go_wp2_with (at_builtin; refine wpList_append_own _ rfl _ _ 115 rfl B 5 i0 (.int .u8 0) 1 1 Tryz.underlying115 hi hz0 hz1 hz2 rfl (by decide) _ _ _ rfl (own.alloc _) ⟨wr.heap.size, 0, none⟩ 1 1 [Value.int .u8 (c.toNat : Int)] rfl rfl (cell_one_new _ _ _) (by simp [Value.oneCell']) (by unfold maxLen; omega) (by omega) (by simp; omega) ?_; intro v2 w2 own2 hg2 _)
      go_roundg 0
      case measure => omega
      case rel =>
        refine ⟨acc ++ [c], rfl, buf_snoc own2 rfl, by simp; omega, hk.trans (grown_row own hg2 (by omega)), ?_⟩
        show _ = _
        rw [runB_zero, List.append_nil]; exact hr.out
    by_cases h2 : gk ≤ 9999
    · rw [runB_small c (by omega) h2] at hr
      have h4 := itoa_len4 h2
      have hA := Tryz.strconv_AppendInt_10 B acc.length (gk : Int) (by omega) (by omega) _ (Lib.byteCells acc) wr hbr (by omega) (by omega) htr
      have hp1 : 0 < (gk : Int) := by omega
      have hp2 : 1 < (gk : Int) := by omega
      have hmin : min (gk : Int) 9999 = (gk : Int) := by omega
      go_wp2_with (first
        | (go_at_call 97; refine hA.mono ?_; rintro e w1 ⟨v1, rfl, own1, b1, k1⟩; have s1 := b1.size; have own := buf_itoa own1; unfold Buf at own; clear own1; have hll : (acc ++ Lib.itoa (gk : Int)).length ≤ acc.length + 4 := by (simp; omega))
        | (at_builtin; refine wpList_append_own _ rfl _ _ 115 rfl B 5 i0 (.int .u8 0) 1 1 Tryz.underlying115 hi hz0 hz1 hz2 rfl (by decide) _ _ _ rfl (own.alloc _) ⟨w1.heap.size, 0, none⟩ 1 1 [Value.int .u8 (c.toNat : Int)] rfl rfl (cell_one_new _ _ _) (by simp [Value.oneCell']) (by unfold maxLen; omega) (by omega) (by simp; omega) ?_; intro v2 w2 own2 hg2 _))
      go_roundg 0
      case measure => omega
      case rel =>
        refine ⟨acc ++ Lib.itoa (gk : Int) ++ [c], by simp, buf_snoc own2 rfl, by simp at hll ⊢; omega, hk.trans ((Kept.mk b1 k1).trans (grown_row own hg2 (by omega))), ?_⟩
        show _ = _
        rw [runB_zero, List.append_nil, List.append_assoc]; exact hr.out
    · rw [runB_big c (by omega)] at hr
      have h4 := itoa_len4 (n := 9999) (by omega)
      have hA := Tryz.strconv_AppendInt_10 B acc.length 9999 (by omega) (by omega) _ (Lib.byteCells acc) wr hbr (by omega) (by omega) htr
      have hp1 : 0 < (gk : Int) := by omega
      have hmin : min (gk : Int) 9999 = 9999 := by omega
      go_wp2_with (first
        | (go_at_call 97; refine hA.mono ?_; rintro e w1 ⟨v1, rfl, own1, b1, k1⟩; have s1 := b1.size; have own := buf_itoa own1; unfold Buf at own; clear own1; have hll : (acc ++ Lib.itoa 9999).length ≤ acc.length + 4 := by (have := h4; simp at this ⊢; omega))
        | (at_builtin; refine wpList_append_own _ rfl _ _ 115 rfl B 5 i0 (.int .u8 0) 1 1 Tryz.underlying115 hi hz0 hz1 hz2 rfl (by decide) _ _ _ rfl (own.alloc _) ⟨w1.heap.size, 0, none⟩ 1 1 [Value.int .u8 (c.toNat : Int)] rfl rfl (cell_one_new _ _ _) (by simp [Value.oneCell']) (by unfold maxLen; omega) (by omega) (by simp; omega) ?_; intro v2 w2 own2 hg2 _))
      go_roundg (gk - 9999)
      case measure => omega
      case rel =>
        refine ⟨acc ++ Lib.itoa 9999 ++ [c], by simp; omega, buf_snoc own2 rfl, by simp at hll ⊢; omega, hk.trans ((Kept.mk b1 k1).trans (grown_row own hg2 (by omega))), ?_⟩
        show _ = _
        rw [List.append_assoc, List.append_assoc, List.singleton_append]; exact hr.out

end Go.Proofs.YtiohpcnnpmnjhaaGreatDoor

namespace Go.Proofs.YtiohpcnnpmnjhaaGreatDoor
open Go.RowKit
set_option linter.unusedVariables false

/-- The longest spans of cells that are given in order. -/
def segs : List Cel → List Span
  | [] => []
  | (x, y) :: r =>
    match segs r with
    | [] => [(x, y, 1)]
    | (x', y', n) :: q => if x' = x + 1 ∧ y' = y then (x, y, n + 1) :: q else (x, y, 1) :: (x', y', n) :: q

theorem segs_head : ∀ (l : List Cel) (x y : Int), l[0]? = some (x, y) → ∃ n q, segs l = (x, y, n) :: q
  | [], x, y, h => by simp at h
  | (a, b) :: r, x, y, h => by
    simp at h
    obtain ⟨rfl, rfl⟩ := h
    unfold segs
    split
    · exact ⟨_, _, rfl⟩
    · split
      · exact ⟨_, _, rfl⟩
      · exact ⟨_, _, rfl⟩

/-- A run from the left: as far as the cells go on, and no farther. -/
theorem segs_run : ∀ (n : Nat) (l : List Cel) (x y : Int), (∀ t : Nat, t < n + 1 → l[t]? = some (x + (t : Int), y)) → l[n + 1]? ≠ some (x + ((n + 1 : Nat) : Int), y) → segs l = (x, y, ((n + 1 : Nat) : Int)) :: segs (l.drop (n + 1))
  | n, [], x, y, h, _ => by have := h 0 (by omega); simp at this
  | 0, (a, b) :: r, x, y, h, h2 => by
    have h0 := h 0 (by omega)
    simp at h0
    obtain ⟨rfl, rfl⟩ := h0
    rw [segs]
    simp only [List.drop_succ_cons, List.drop_zero]
    cases r with
    | nil => simp [segs]
    | cons c r =>
      obtain ⟨x', y'⟩ := c
      obtain ⟨m, q, hq⟩ := segs_head ((x', y') :: r) x' y' (by simp)
      rw [hq]
      simp only
      rw [if_neg]
      · rfl
      · rintro ⟨rfl, rfl⟩
        exact h2 (by simp)
  | n + 1, (a, b) :: r, x, y, h, h2 => by
    have h0 := h 0 (by omega)
    simp at h0
    obtain ⟨rfl, rfl⟩ := h0
    have hr := segs_run n r (a + 1) b (fun t ht => by
      have := h (t + 1) (by omega)
      simp at this
      rw [this]
      simp; omega) (by
      intro e
      apply h2
      simp
      simp at e
      rw [e]
      simp; omega)
    rw [segs, hr]
    simp only
    rw [if_pos ⟨trivial, trivial⟩]
    simp

set_option maxHeartbeats 800000 in
theorem behind_any (x y n : Int) (w : World) (h1 : -4000000000000000000 ≤ x) (h2 : x ≤ 4000000000000000000) (h3 : 0 ≤ n) (h4 : n ≤ 100000000) :
    Calls Tryz.prog 70 #[.agg #[.int .i64 x, .int .i64 y, .int .i64 n]] w fun e w' => e = .returned (.agg #[.int .i64 (x + n), .int .i64 y]) ∧ w' = (w.alloc (.cells #[.int .i64 x, .int .i64 y, .int .i64 n] 121)).alloc (.cells #[.int .i64 (x + n), .int .i64 y] 113) := by
  go_enter Tryz.func70, Tryz.ntmps70
  go_wp2
  exact bodyPost_ret (v := .agg #[.int .i64 (x + n), .int .i64 y]) (by simp [results, Tryz.results70, go_sem]) rfl ⟨rfl, rfl⟩

end Go.Proofs.YtiohpcnnpmnjhaaGreatDoor

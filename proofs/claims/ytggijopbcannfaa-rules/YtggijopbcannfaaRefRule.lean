import Derived.Test.YtggijopbcannfaaRef
import Derived.Deep.Cut
namespace Go.Proofs.Ytggijopbcannfaa
set_option linter.unusedVariables false
open Go.RowKit

/-- What the reference's Rule answers: some row of 18 cells, the error, the place. -/
def RefOut (w : World) (k : Int) (i : Nat) (e : Ending) (w' : World) : Prop :=
  ∃ L : Array Value, e = .returned (.tuple #[.agg L, .int .i64 k, .int .i64 i]) ∧ L.size = 18 ∧ L.all (·.oneCell') = true ∧ Below w.heap.size w w'

theorem info27 : (Try.prog.info? 27).map (·.size) = some 18 := by kernel_rfl
theorem info25 : (Try.prog.info? 25).map (·.size) = some 9 := by kernel_rfl

/-- Eighteen bools, all false. -/
abbrev Z18 : Array Value := #[.bool false, .bool false, .bool false, .bool false, .bool false, .bool false, .bool false, .bool false, .bool false, .bool false, .bool false, .bool false, .bool false, .bool false, .bool false, .bool false, .bool false, .bool false]
theorem z18_one : Array.all Z18 (·.oneCell') = true := by simp [Value.oneCell']

theorem life_new (w : World) : HasRow ((w.alloc (.cells Z18 27)).alloc (.cells Z18 27)) w.heap.size 18 ∧ HasRow ((w.alloc (.cells Z18 27)).alloc (.cells Z18 27)) (w.heap.size + 1) 18 :=
  ⟨(HasRow.new w Z18 27 18 rfl z18_one).old _, by have := HasRow.new (w.alloc (.cells Z18 27)) Z18 27 18 rfl z18_one; simpa using this⟩

theorem ref_ret {w w2 : World} {fn : Func} {k : Int} {i : Nat} {a : Act} (hf : fn = Try.f5) (hd : a.defers = []) (h2 : a.tmps.getD 2 undef = .pointer (some ⟨w.heap.size, 0, none⟩)) (h3 : a.tmps.getD 3 undef = .int .i64 k) (h4 : a.tmps.getD 4 undef = .int .i64 i)
    (hr : HasRow w2 w.heap.size 18) (hb : Below w.heap.size w w2) : bodyPost Try.prog fn (RefOut w k i) Exit.ret a w2 := by
  subst hf
  obtain ⟨cs, t, e1, e2, e3⟩ := hr
  refine ⟨hd, .tuple #[.agg cs, .int .i64 k, .int .i64 i], ?_, cs, rfl, e2, e3, hb⟩
  have hl := run_loadVar_row (P := Try.prog) w2 w.heap.size t 27 cs (0, 0) _ e1 Try.underlying27 rfl (by rw [e2]; exact info27)
  have h2' : a.tmps[2]?.getD undef = .pointer (some ⟨w.heap.size, 0, none⟩) := by simpa using h2
  have h3' : a.tmps[3]?.getD undef = .int .i64 k := by simpa using h3
  have h4' : a.tmps[4]?.getD undef = .int .i64 i := by simpa using h4
  simp [results, Try.results5, h2', h3', h4', asAddr, hl]

/-- The two rows that the call lays first; nothing older has turned. -/
structure Inv (w W : World) : Prop where
  r0 : HasRow W w.heap.size 18
  r1 : HasRow W (w.heap.size + 1) 18
  be : Below w.heap.size w W

theorem inv_new {w w1 : World} (r : HasRow w1 (w.heap.size + 1) 18) (o : Only (w.heap.size + 1) ((w.alloc (.cells Z18 27)).alloc (.cells Z18 27)) w1) : Inv w w1 :=
  ⟨(life_new w).1.other o (by simp), r, (((Below.refl w.heap.size w).alloc (Nat.le_refl _) _).alloc (by simp) _).trans (o.below (by omega))⟩
theorem Inv.below {w W W' : World} (h : Inv w W) (hb : Below W.heap.size W W') : Inv w W' :=
  ⟨h.r0.below hb h.r0.lt, h.r1.below hb h.r1.lt, h.be.trans (hb.mono (Nat.le_of_lt h.r0.lt))⟩
theorem Inv.alloc {w W : World} (h : Inv w W) (o : Obj) : Inv w (W.alloc o) :=
  ⟨h.r0.old o, h.r1.old o, h.be.alloc (Nat.le_of_lt h.r0.lt) o⟩
theorem Inv.far {w W W' : World} {g : Nat} (h : Inv w W) (o : Only g W W') (hg : w.heap.size + 1 < g) : Inv w W' :=
  ⟨h.r0.other o (by omega), h.r1.other o (by omega), h.be.trans (o.below (by omega))⟩
theorem Inv.at0 {w W W' : World} (h : Inv w W) (r : HasRow W' w.heap.size 18) (o : Only w.heap.size W W') : Inv w W' :=
  ⟨r, h.r1.other o (by omega), h.be.trans (o.below (Nat.le_refl _))⟩
theorem Inv.at1 {w W W' : World} (h : Inv w W) (r : HasRow W' (w.heap.size + 1) 18) (o : Only (w.heap.size + 1) W W') : Inv w W' :=
  ⟨h.r0.other o (by omega), r, h.be.trans (o.below (by omega))⟩

/-- Nine bools, all false. -/
abbrev Z9 : Array Value := #[.bool false, .bool false, .bool false, .bool false, .bool false, .bool false, .bool false, .bool false, .bool false]
theorem z9_new (w : World) : HasRow (w.alloc (.cells Z9 25)) w.heap.size 9 := HasRow.new w Z9 25 9 rfl (by simp [Value.oneCell'])

set_option maxHeartbeats 800000 in
theorem refRule_long (s : ByteArray) (w : World) (hm : s.size ≤ 2 ^ 63 - 1) (hs : 24 < s.size) :
    Calls Try.prog 5 #[.string s] w (RefOut w 1 0) := by
  have hn := life_new w
  go_enter Try.func5, Try.ntmps5
  go_wp2_with (first
    | (refine wpList_store_has (P := Try.prog) rfl 27 (Operand.tmp 5) (Operand.tmp 10) rfl (w.heap.size + 1) 0 18 18 _ rfl rfl ?hr ?hm (by omega) info27 ?h1 ?_; (case hr => exact hn.2); (case hm => rfl); (case h1 => exact z18_one); intro w1 r1 o1; have i1 := inv_new r1 o1; clear r1 o1)
    | (refine wpList_load_has (P := Try.prog) rfl 27 (Operand.tmp 5) rfl (w.heap.size + 1) 18 rfl _ i1.r1 Try.underlying27 rfl info27 ?_; intro cs1 n1 c1)
    | (refine wpList_store_has (P := Try.prog) rfl 27 (Operand.tmp 2) _ rfl w.heap.size 0 18 18 cs1 rfl rfl i1.r0 n1 (by omega) info27 c1 ?_; intro w2 r2 o2; have i2 := i1.at0 r2 o2; clear r2 o2))
  exact ref_ret rfl rfl rfl rfl rfl i2.r0 i2.be

set_option maxHeartbeats 800000 in
theorem refRule_none (s : ByteArray) (w : World) (hs : s.size ≤ 24) (h0 : s.size = 0) :
    Calls Try.prog 5 #[.string s] w (RefOut w 3 0) := by
  have hn := life_new w
  go_enter Try.func5, Try.ntmps5
  go_wp2_with (first
    | (refine wpList_store_has (P := Try.prog) rfl 27 (Operand.tmp 5) (Operand.tmp 10) rfl (w.heap.size + 1) 0 18 18 _ rfl rfl ?hr ?hm (by omega) info27 ?h1 ?_; (case hr => exact hn.2); (case hm => rfl); (case h1 => exact z18_one); intro w1 r1 o1; have i1 := inv_new r1 o1; clear r1 o1)
    | (refine wpList_load_has (P := Try.prog) rfl 27 (Operand.tmp 5) rfl (w.heap.size + 1) 18 rfl _ i1.r1 Try.underlying27 rfl info27 ?_; intro cs1 n1 c1)
    | (refine wpList_store_has (P := Try.prog) rfl 27 (Operand.tmp 2) _ rfl w.heap.size 0 18 18 cs1 rfl rfl i1.r0 n1 (by omega) info27 c1 ?_; intro w2 r2 o2; have i2 := i1.at0 r2 o2; clear r2 o2))
  exact ref_ret rfl rfl rfl rfl rfl i2.r0 i2.be

set_option maxHeartbeats 800000 in
theorem refRule_B (s : ByteArray) (w : World) (hs : s.size ≤ 24) (h0 : 0 < s.size) (hz : ((s.size : Int) == 0) = false) (hB : ((s[0].toNat : Int) != 66) = true) :
    Calls Try.prog 5 #[.string s] w (RefOut w 3 0) := by
  have hn := life_new w
  go_enter Try.func5, Try.ntmps5
  go_wp2_with (first
    | (refine wpList_store_has (P := Try.prog) rfl 27 (Operand.tmp 5) (Operand.tmp 10) rfl (w.heap.size + 1) 0 18 18 _ rfl rfl ?hr ?hm (by omega) info27 ?h1 ?_; (case hr => exact hn.2); (case hm => rfl); (case h1 => exact z18_one); intro w1 r1 o1; have i1 := inv_new r1 o1; clear r1 o1)
    | (refine wpList_load_has (P := Try.prog) rfl 27 (Operand.tmp 5) rfl (w.heap.size + 1) 18 rfl _ i1.r1 Try.underlying27 rfl info27 ?_; intro cs1 n1 c1)
    | (refine wpList_store_has (P := Try.prog) rfl 27 (Operand.tmp 2) _ rfl w.heap.size 0 18 18 cs1 rfl rfl i1.r0 n1 (by omega) info27 c1 ?_; intro w2 r2 o2; have i2 := i1.at0 r2 o2; clear r2 o2))
  exact ref_ret rfl rfl rfl rfl rfl i2.r0 i2.be

set_option maxHeartbeats 800000 in
theorem refRule_S1 (s : ByteArray) (w : World) (hs : s.size ≤ 24) (h0 : 0 < s.size) (hz : ((s.size : Int) == 0) = false) (hB : ((s[0].toNat : Int) != 66) = false) (i : Nat) (hi : riseEnd s 1 49 = i) (hl : s.size ≤ i) (hi' : i ≤ s.size) :
    Calls Try.prog 5 #[.string s] w (RefOut w 3 i) := by
  have hn := life_new w
  go_enter Try.func5, Try.ntmps5
  go_wp2_with (first
    | (refine wpList_store_has (P := Try.prog) rfl 27 (Operand.tmp 5) (Operand.tmp 10) rfl (w.heap.size + 1) 0 18 18 _ rfl rfl ?hr ?hm (by omega) info27 ?h1 ?_; (case hr => exact hn.2); (case hm => rfl); (case h1 => exact z18_one); intro w1 r1 o1; have i1 := inv_new r1 o1; clear r1 o1)
    | (refine wpList_load_has (P := Try.prog) rfl 27 (Operand.tmp 5) rfl (w.heap.size + 1) 18 rfl _ i3.r1 Try.underlying27 rfl info27 ?_; intro cs1 n1 c1)
    | (refine wpList_store_has (P := Try.prog) rfl 27 (Operand.tmp 2) _ rfl w.heap.size 0 18 18 cs1 rfl rfl i3.r0 n1 (by omega) info27 c1 ?_; intro w2 r2 o2; have i2 := i3.at0 r2 o2; clear r2 o2)
    | (go_at_call_of 10 (Value.int IntKind.u8 49); refine (digits_any s 1 49 _ (by omega) (by omega) (by omega) (by omega)).mono ?_; rintro e wd ⟨⟨f, rfl⟩, bd⟩; rw [hi]; have id := i1.below bd; clear bd)
    | (refine wpList_store_has (P := Try.prog) rfl 25 (Operand.tmp 6) _ rfl wd.heap.size 0 9 9 (nine f) rfl rfl (z9_new wd) rfl (by omega) info25 (nine_one f) ?_; intro w3 r3 o3; have i3 := (id.alloc _).far o3 id.r1.lt; clear o3))
  exact ref_ret rfl rfl rfl rfl rfl i2.r0 i2.be

set_option maxHeartbeats 800000 in
theorem refRule_S2 (s : ByteArray) (w : World) (hs : s.size ≤ 24) (h0 : 0 < s.size) (hz : ((s.size : Int) == 0) = false) (hB : ((s[0].toNat : Int) != 66) = false) (i : Nat) (hi : riseEnd s 1 49 = i) (hl : i < s.size) (hS : ((s[i].toNat : Int) != 47) = true) :
    Calls Try.prog 5 #[.string s] w (RefOut w 3 i) := by
  have hn := life_new w
  go_enter Try.func5, Try.ntmps5
  go_wp2_with (first
    | (refine wpList_store_has (P := Try.prog) rfl 27 (Operand.tmp 5) (Operand.tmp 10) rfl (w.heap.size + 1) 0 18 18 _ rfl rfl ?hr ?hm (by omega) info27 ?h1 ?_; (case hr => exact hn.2); (case hm => rfl); (case h1 => exact z18_one); intro w1 r1 o1; have i1 := inv_new r1 o1; clear r1 o1)
    | (refine wpList_load_has (P := Try.prog) rfl 27 (Operand.tmp 5) rfl (w.heap.size + 1) 18 rfl _ i3.r1 Try.underlying27 rfl info27 ?_; intro cs1 n1 c1)
    | (refine wpList_store_has (P := Try.prog) rfl 27 (Operand.tmp 2) _ rfl w.heap.size 0 18 18 cs1 rfl rfl i3.r0 n1 (by omega) info27 c1 ?_; intro w2 r2 o2; have i2 := i3.at0 r2 o2; clear r2 o2)
    | (go_at_call_of 10 (Value.int IntKind.u8 49); refine (digits_any s 1 49 _ (by omega) (by omega) (by omega) (by omega)).mono ?_; rintro e wd ⟨⟨f, rfl⟩, bd⟩; rw [hi]; have id := i1.below bd; clear bd)
    | (refine wpList_store_has (P := Try.prog) rfl 25 (Operand.tmp 6) _ rfl wd.heap.size 0 9 9 (nine f) rfl rfl (z9_new wd) rfl (by omega) info25 (nine_one f) ?_; intro w3 r3 o3; have i3 := (id.alloc _).far o3 id.r1.lt; clear o3))
  exact ref_ret rfl rfl rfl rfl rfl i2.r0 i2.be

set_option maxHeartbeats 800000 in
theorem refRule_T1 (s : ByteArray) (w : World) (hs : s.size ≤ 24) (h0 : 0 < s.size) (hz : ((s.size : Int) == 0) = false) (hB : ((s[0].toNat : Int) != 66) = false) (i : Nat) (hi : riseEnd s 1 49 = i) (hl : i < s.size) (hS : ((s[i].toNat : Int) != 47) = false) (hl2 : s.size ≤ i + 1) :
    Calls Try.prog 5 #[.string s] w (RefOut w 3 (i + 1)) := by
  have hn := life_new w
  go_enter Try.func5, Try.ntmps5
  go_wp2_with (first
    | (refine wpList_store_has (P := Try.prog) rfl 27 (Operand.tmp 5) (Operand.tmp 10) rfl (w.heap.size + 1) 0 18 18 _ rfl rfl ?hr ?hm (by omega) info27 ?h1 ?_; (case hr => exact hn.2); (case hm => rfl); (case h1 => exact z18_one); intro w1 r1 o1; have i1 := inv_new r1 o1; clear r1 o1)
    | (refine wpList_load_has (P := Try.prog) rfl 27 (Operand.tmp 5) rfl (w.heap.size + 1) 18 rfl _ i3.r1 Try.underlying27 rfl info27 ?_; intro cs1 n1 c1)
    | (refine wpList_store_has (P := Try.prog) rfl 27 (Operand.tmp 2) _ rfl w.heap.size 0 18 18 cs1 rfl rfl i3.r0 n1 (by omega) info27 c1 ?_; intro w2 r2 o2; have i2 := i3.at0 r2 o2; clear r2 o2)
    | (go_at_call_of 10 (Value.int IntKind.u8 49); refine (digits_any s 1 49 _ (by omega) (by omega) (by omega) (by omega)).mono ?_; rintro e wd ⟨⟨f, rfl⟩, bd⟩; rw [hi]; have id := i1.below bd; clear bd)
    | (refine wpList_store_has (P := Try.prog) rfl 25 (Operand.tmp 6) _ rfl wd.heap.size 0 9 9 (nine f) rfl rfl (z9_new wd) rfl (by omega) info25 (nine_one f) ?_; intro w3 r3 o3; have i3 := (id.alloc _).far o3 id.r1.lt; clear o3))
  exact ref_ret rfl rfl rfl rfl rfl i2.r0 i2.be

set_option maxHeartbeats 800000 in
theorem refRule_T2 (s : ByteArray) (w : World) (hs : s.size ≤ 24) (h0 : 0 < s.size) (hz : ((s.size : Int) == 0) = false) (hB : ((s[0].toNat : Int) != 66) = false) (i : Nat) (hi : riseEnd s 1 49 = i) (hl : i < s.size) (hS : ((s[i].toNat : Int) != 47) = false) (hl2 : i + 1 < s.size) (hT : ((s[i + 1].toNat : Int) != 83) = true) :
    Calls Try.prog 5 #[.string s] w (RefOut w 3 (i + 1)) := by
  have hn := life_new w
  go_enter Try.func5, Try.ntmps5
  go_wp2_with (first
    | (refine wpList_store_has (P := Try.prog) rfl 27 (Operand.tmp 5) (Operand.tmp 10) rfl (w.heap.size + 1) 0 18 18 _ rfl rfl ?hr ?hm (by omega) info27 ?h1 ?_; (case hr => exact hn.2); (case hm => rfl); (case h1 => exact z18_one); intro w1 r1 o1; have i1 := inv_new r1 o1; clear r1 o1)
    | (refine wpList_load_has (P := Try.prog) rfl 27 (Operand.tmp 5) rfl (w.heap.size + 1) 18 rfl _ i3.r1 Try.underlying27 rfl info27 ?_; intro cs1 n1 c1)
    | (refine wpList_store_has (P := Try.prog) rfl 27 (Operand.tmp 2) _ rfl w.heap.size 0 18 18 cs1 rfl rfl i3.r0 n1 (by omega) info27 c1 ?_; intro w2 r2 o2; have i2 := i3.at0 r2 o2; clear r2 o2)
    | (go_at_call_of 10 (Value.int IntKind.u8 49); refine (digits_any s 1 49 _ (by omega) (by omega) (by omega) (by omega)).mono ?_; rintro e wd ⟨⟨f, rfl⟩, bd⟩; rw [hi]; have id := i1.below bd; clear bd)
    | (refine wpList_store_has (P := Try.prog) rfl 25 (Operand.tmp 6) _ rfl wd.heap.size 0 9 9 (nine f) rfl rfl (z9_new wd) rfl (by omega) info25 (nine_one f) ?_; intro w3 r3 o3; have i3 := (id.alloc _).far o3 id.r1.lt; clear o3))
  exact ref_ret rfl rfl rfl rfl rfl i2.r0 i2.be

set_option maxHeartbeats 800000 in
theorem refRule_E (s : ByteArray) (w : World) (hs : s.size ≤ 24) (h0 : 0 < s.size) (hz : ((s.size : Int) == 0) = false) (hB : ((s[0].toNat : Int) != 66) = false) (i : Nat) (hi : riseEnd s 1 49 = i) (hl : i < s.size) (hS : ((s[i].toNat : Int) != 47) = false) (hl2 : i + 1 < s.size) (hT : ((s[i + 1].toNat : Int) != 83) = false) (j : Nat) (hj : riseEnd s (i + 2) 48 = j) (hl3 : j < s.size) :
    Calls Try.prog 5 #[.string s] w (RefOut w 3 j) := by
  have hn := life_new w
  go_enter Try.func5, Try.ntmps5
  go_wp2_with (first
    | (refine wpList_store_has (P := Try.prog) rfl 27 (Operand.tmp 5) (Operand.tmp 10) rfl (w.heap.size + 1) 0 18 18 _ rfl rfl ?hr ?hm (by omega) info27 ?h1 ?_; (case hr => exact hn.2); (case hm => rfl); (case h1 => exact z18_one); intro w1 r1 o1; have i1 := inv_new r1 o1; clear r1 o1)
    | (refine wpList_load_has (P := Try.prog) rfl 27 (Operand.tmp 5) rfl (w.heap.size + 1) 18 rfl _ i4.r1 Try.underlying27 rfl info27 ?_; intro cs1 n1 c1)
    | (refine wpList_store_has (P := Try.prog) rfl 27 (Operand.tmp 2) _ rfl w.heap.size 0 18 18 cs1 rfl rfl i4.r0 n1 (by omega) info27 c1 ?_; intro w2 r2 o2; have i2 := i4.at0 r2 o2; clear r2 o2)
    | (go_at_call_of 10 (Value.int IntKind.u8 49); refine (digits_any s 1 49 _ (by omega) (by omega) (by omega) (by omega)).mono ?_; rintro e wd ⟨⟨f, rfl⟩, bd⟩; rw [hi]; have id := i1.below bd; clear bd)
    | (refine wpList_store_has (P := Try.prog) rfl 25 (Operand.tmp 6) _ rfl wd.heap.size 0 9 9 (nine f) rfl rfl (z9_new wd) rfl (by omega) info25 (nine_one f) ?_; intro w3 r3 o3; have i3 := (id.alloc _).far o3 id.r1.lt; clear o3)
    | (go_at_call_of 10 (Value.int IntKind.u8 48); refine (digits_any s (i + 2) 48 _ (by omega) (by omega) (by omega) (by omega)).mono ?_; rintro e wf ⟨⟨g, rfl⟩, bf⟩; rw [hj]; have if_ := i3.below bf; have r3' := r3.below bf r3.lt; clear bf)
    | (refine wpList_store_has (P := Try.prog) rfl 25 (Operand.tmp 8) _ rfl wf.heap.size 0 9 9 (nine g) rfl rfl (z9_new wf) rfl (by omega) info25 (nine_one g) ?_; intro w4 r4 o4; have i4 := (if_.alloc _).far o4 if_.r1.lt; have r3'' := (r3'.old _).other o4 (Nat.ne_of_lt r3'.lt); clear o4))
  exact ref_ret rfl rfl rfl rfl rfl i2.r0 i2.be

set_option maxHeartbeats 800000 in
theorem refRule_OK (s : ByteArray) (w : World) (hs : s.size ≤ 24) (h0 : 0 < s.size) (hz : ((s.size : Int) == 0) = false) (hB : ((s[0].toNat : Int) != 66) = false) (i : Nat) (hi : riseEnd s 1 49 = i) (hl : i < s.size) (hS : ((s[i].toNat : Int) != 47) = false) (hl2 : i + 1 < s.size) (hT : ((s[i + 1].toNat : Int) != 83) = false) (j : Nat) (hj : riseEnd s (i + 2) 48 = j) (hl3 : s.size ≤ j) (hj' : j ≤ s.size) :
    Calls Try.prog 5 #[.string s] w (RefOut w 0 0) := by
  have hn := life_new w
  go_enter Try.func5, Try.ntmps5
  go_wp2_with (first
    | (refine wpList_store_has (P := Try.prog) rfl 27 (Operand.tmp 5) (Operand.tmp 10) rfl (w.heap.size + 1) 0 18 18 _ rfl rfl ?hr ?hm (by omega) info27 ?h1 ?_; (case hr => exact hn.2); (case hm => rfl); (case h1 => exact z18_one); intro w1 r1 o1; have i1 := inv_new r1 o1; clear r1 o1)
    | (refine wpList_load_has (P := Try.prog) rfl 27 (Operand.tmp 5) rfl (w.heap.size + 1) 18 rfl _ i6.r1 Try.underlying27 rfl info27 ?_; intro cs1 n1 c1)
    | (refine wpList_store_has (P := Try.prog) rfl 27 (Operand.tmp 2) _ rfl w.heap.size 0 18 18 cs1 rfl rfl i6.r0 n1 (by omega) info27 c1 ?_; intro w2 r2 o2; have i2 := i6.at0 r2 o2; clear r2 o2)
    | (go_at_call_of 10 (Value.int IntKind.u8 49); refine (digits_any s 1 49 _ (by omega) (by omega) (by omega) (by omega)).mono ?_; rintro e wd ⟨⟨f, rfl⟩, bd⟩; rw [hi]; have id := i1.below bd; clear bd)
    | (refine wpList_store_has (P := Try.prog) rfl 25 (Operand.tmp 6) _ rfl wd.heap.size 0 9 9 (nine f) rfl rfl (z9_new wd) rfl (by omega) info25 (nine_one f) ?_; intro w3 r3 o3; have i3 := (id.alloc _).far o3 id.r1.lt; clear o3)
    | (go_at_call_of 10 (Value.int IntKind.u8 48); refine (digits_any s (i + 2) 48 _ (by omega) (by omega) (by omega) (by omega)).mono ?_; rintro e wf ⟨⟨g, rfl⟩, bf⟩; rw [hj]; have if_ := i3.below bf; have r3' := r3.below bf r3.lt; clear bf)
    | (refine wpList_store_has (P := Try.prog) rfl 25 (Operand.tmp 8) _ rfl wf.heap.size 0 9 9 (nine g) rfl rfl (z9_new wf) rfl (by omega) info25 (nine_one g) ?_; intro w4 r4 o4; have i4 := (if_.alloc _).far o4 if_.r1.lt; have r3'' := (r3'.old _).other o4 (Nat.ne_of_lt r3'.lt); clear o4)
    | (refine wpList_load_has (P := Try.prog) rfl 25 (Operand.tmp 6) rfl wd.heap.size 9 rfl _ r3'' Try.underlying25 rfl info25 ?_; intro cs6 n6 c6)
    | (refine wpList_store_has (P := Try.prog) rfl 25 (Operand.tmp 70) _ rfl (w.heap.size + 1) 0 9 18 cs6 rfl rfl i4.r1 n6 (by omega) info25 c6 ?_; intro w5 r5 o5; have i5 := i4.at1 r5 o5; have r8 := r4.other o5 (Nat.ne_of_gt if_.r1.lt); clear o5 r5)
    | (refine wpList_load_has (P := Try.prog) rfl 25 (Operand.tmp 8) rfl wf.heap.size 9 rfl _ r8 Try.underlying25 rfl info25 ?_; intro cs8 n8 c8)
    | (refine wpList_store_has (P := Try.prog) rfl 25 (Operand.tmp 72) _ rfl (w.heap.size + 1) 9 9 18 cs8 rfl rfl i5.r1 n8 (by omega) info25 c8 ?_; intro w6 r6 o6; have i6 := i5.at1 r6 o6; clear o6 r6))
  exact ref_ret rfl rfl rfl rfl rfl i2.r0 i2.be

end Go.Proofs.Ytggijopbcannfaa

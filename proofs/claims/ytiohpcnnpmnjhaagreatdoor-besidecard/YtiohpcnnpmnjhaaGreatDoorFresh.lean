import Derived.Test.YtiohpcnnpmnjhaaGreatDoorNamed
namespace Go.Proofs.YtiohpcnnpmnjhaaGreatDoor
open Go.RowKit Go.Shelf
set_option linter.unusedVariables false

/-- Texts in a block. -/
def StrsAt (W : World) (L : Nat) (ts : List ByteArray) : Prop := ∃ cur, W.heap[L]? = some (.cells cur 9 (0, 0)) ∧ ∀ (i : Nat) (x : ByteArray), ts[i]? = some x → cur[i]? = some (Value.string x)
theorem StrsAt.cell {W : World} {L : Nat} {ts : List ByteArray} (h : StrsAt W L ts) {i : Nat} {x : ByteArray} (hi : ts[i]? = some x) : W.cell? ⟨L, i, none⟩ = some (.string x) := by
  obtain ⟨cur, h1, h2⟩ := h
  simp [World.cell?, h1, h2 i x hi]
theorem StrsAt.frz {W : World} {L : Nat} {ts : List ByteArray} (h : StrsAt W L ts) (i : Nat) : W.frozen? ⟨L, i, none⟩ = false := by
  obtain ⟨cur, h1, _⟩ := h
  exact frz_of h1 i
theorem StrsAt.lt {W : World} {L : Nat} {ts : List ByteArray} (h : StrsAt W L ts) : L < W.heap.size := by obtain ⟨cur, h1, _⟩ := h; exact blk_lt h1
theorem StrsAt.keep {W W' : World} {L : Nat} {ts : List ByteArray} (h : StrsAt W L ts) (hb : W'.heap[L]? = W.heap[L]?) : StrsAt W' L ts := by
  obtain ⟨cur, h1, h2⟩ := h
  exact ⟨cur, hb.trans h1, h2⟩
theorem StrsAt.set {W : World} {L : Nat} {ts : List ByteArray} (h : StrsAt W L ts) {i : Nat} (hi : i < ts.length) (y : ByteArray) : StrsAt (W.setCell ⟨L, i, none⟩ (.string y)) L (ts.set i y) := by
  obtain ⟨cur, h1, h2⟩ := h
  have := blk_put (j := i) h1 (.string y)
  refine ⟨_, this, fun j x hj => ?_⟩
  have hci : i < cur.size := by
    have := h2 i ts[i] (by simp [hi])
    exact (Array.getElem?_eq_some_iff.1 this).1
  by_cases e : i = j
  · subst e
    simp [hi] at hj
    subst hj
    simp [hci]
  · rw [List.getElem?_set_ne e] at hj
    simp [e, h2 j x hj]
theorem TextsAt.block {W : World} {B : Nat} {v : Value} {ts : List ByteArray} (h : TextsAt W B v ts) : (v = .slice none 0 0 ∧ ts = []) ∨ ∃ L cap, v = .slice (some ⟨L, 0, none⟩) ts.length cap ∧ B ≤ L ∧ StrsAt W L ts := by
  by_cases hts : ts = []
  · exact .inl ⟨h.2 hts, hts⟩
  · refine .inr ?_
    rcases h.1.2 with ⟨rfl, h0⟩ | ⟨L, cap, cur, rfl, hb, hblk, hc, hm, hsz, hpre⟩
    · exact absurd (List.length_eq_zero_iff.1 h0) hts
    · refine ⟨L, cap, rfl, hb, cur, hblk, fun i x hi => ?_⟩
      have hil := (List.getElem?_eq_some_iff.1 hi).1
      have h1 : (cur.toList.take (ts.length * 1))[i]? = some (.string x) := by rw [hpre]; simp [hi]
      rw [List.getElem?_take_of_lt (by omega)] at h1
      simpa using h1
theorem plain_turned (P : List Cel) : (⟨(plainB P).toArray⟩ : ByteArray).toList ≠ [116, 117, 114, 110, 101, 100] := by
  rw [Lib.toList_data]
  unfold plainB
  intro h
  have := congrArg List.getLast? h
  simp at this

theorem partsA_len (rule text : ByteArray) : (partsA rule text).1.length ≤ 100 := by
  unfold partsA
  cases hr : ruleR rule with
  | inl x => exact Nat.zero_le _
  | inr x =>
    obtain ⟨f, g⟩ := x
    simp only
    cases hp : patR text with
    | inl x => exact Nat.zero_le _
    | inr C =>
      simp only
      cases hc : course f g C with
      | inl k => exact Nat.zero_le _
      | inr x =>
        obtain ⟨t, s⟩ := x
        simp only
        by_cases hf : farL (gen f g C s) = true
        · rw [if_pos hf]; exact Nat.zero_le _
        · rw [if_neg hf]
          simp only [partsT, List.length_map]
          exact Nat.le_trans (partsTo_len _ _ _) (gen_len hc s)

set_option maxRecDepth 100000 in
set_option maxHeartbeats 1600000 in
theorem fresh_any (rule text : ByteArray) (w : World) (h1 : rule.size ≤ maxLen) (h2 : text.size ≤ maxLen) (ht : Tab w.heap.size w) :
    Calls Tryz.prog 37 #[.string rule, .string text] w fun e w' => e = .returned (.bool true) ∧ Below w.heap.size w w' := by
  have hP := fun w ht => parts_any rule text w h1 h2 ht
  have hpl : ∀ x ∈ (partsA rule text).1, x.toList ≠ [116, 117, 114, 110, 101, 100] ∧ True := fun x hx => by
    refine ⟨?_, trivial⟩
    unfold partsA at hx
    split at hx
    · simp at hx
    · split at hx
      · simp at hx
      · split at hx
        · simp at hx
        · split at hx
          · simp at hx
          · unfold partsT at hx
            obtain ⟨P, _, rfl⟩ := List.mem_map.1 hx
            exact plain_turned P
  obtain ⟨⟨Ts, k, i⟩, hA⟩ : ∃ A, partsA rule text = A := ⟨_, rfl⟩
  simp only [hA] at hP hpl
  have hTl : Ts.length ≤ 1000000 := by
    have := partsA_len rule text
    rw [hA] at this
    exact Nat.le_trans this (by decide)
  clear hA
  go_enter Tryz.func37, Tryz.ntmps37
  go_wp2_with (go_at_call 26; refine (hP _ ht).mono ?_; rintro e w1 ⟨⟨v1, rfl, hT1⟩, b1⟩; obtain ⟨a1, c1, rfl⟩ := row_slice hT1.1)
  go_loopw [8] (fun vi wr => ∃ (k : Nat) (ts : List ByteArray), k ≤ Ts.length ∧ vi = .int .i64 (k : Int) ∧ ts.length = Ts.length ∧ (∀ i, i < k → ts[i]? = some ⟨#[116, 117, 114, 110, 101, 100]⟩) ∧ (Ts = [] ∨ ∃ L, a1 = some ⟨L, 0, none⟩ ∧ w.heap.size ≤ L ∧ StrsAt wr L ts) ∧ Below w.heap.size w wr) (fun vi _ => Ts.length - (intOf vi).toNat)
  case atStart =>
    refine ⟨0, Ts, Nat.zero_le _, rfl, rfl, fun i h => by omega, ?_, b1⟩
    rcases hT1.block with ⟨_, h⟩ | ⟨L, cp, h, hB, hS⟩
    · exact .inl h
    · cases h; exact .inr ⟨L, rfl, hB, hS⟩
  case round =>
    obtain ⟨k, ts, hk, rfl, hl, hset, hL, hb⟩ := hrel
    by_cases hlt : k < Ts.length
    · have hki : (k : Int) < (Ts.length : Int) := by omega
      rcases hL with h | ⟨L, rfl, hB, hS⟩
      · rw [h] at hlt; simp at hlt
      obtain ⟨x, hx⟩ : ∃ x, ts[k]? = some x := ⟨ts[k]'(by omega), by simp [show k < ts.length by omega]⟩
      have c0 := hS.cell hx
      have f0 := hS.frz k
      have HS := hS.set (i := k) (by omega) ⟨#[116, 117, 114, 110, 101, 100]⟩
      have Hl : Hid (ts.length = Ts.length) := hl
      clear hl
      go_wp2
      go_roundw
      case rel =>
        refine ⟨k + 1, ts.set k _, by omega, by go_num, by rw [List.length_set]; exact Hl.out, fun i hi => ?_, .inr ⟨L, rfl, hB, HS⟩, hb.setCell (p := ⟨L, k, none⟩) hB _⟩
        by_cases e : i = k
        · subst e
          have := Hl.out
          simp [show i < ts.length by omega]
        · rw [List.getElem?_set_ne (fun h => e h.symm)]
          exact hset i (by omega)
      case measure => simp [intOf]; omega
    · obtain rfl : k = Ts.length := by omega
      have hP2 := hP wr (tab_up ht hb hb.size)
      go_wp2_with (go_at_call 26; refine hP2.mono ?_; rintro e w2 ⟨⟨v2, rfl, hT2⟩, c2⟩; obtain ⟨a2, cp2, rfl⟩ := row_slice hT2.1)
      go_loopw [12] (fun vi wq => ∃ (k : Nat), k ≤ Ts.length ∧ vi = .int .i64 (k : Int) ∧ Below w2.heap.size w2 wq) (fun vi _ => Ts.length - (intOf vi).toNat)
      case atStart => exact ⟨0, Nat.zero_le _, rfl, Below.refl _ _⟩
      case round =>
        rename_i wq _ _
        obtain ⟨k, hk', rfl, hq⟩ := hrel
        have Hl : Hid (ts.length = Ts.length) := hl
        clear hl
        have b2 : Below w.heap.size w w2 := hb.trans (c2.mono hb.size)
        by_cases hlt : k < Ts.length
        · have hki : (k : Int) < (Ts.length : Int) := by omega
          have hki2 : decide ((k : Int) ≥ (Ts.length : Int)) = false := decide_eq_false (by omega)
          rcases hL with h | ⟨L, rfl, hB, hS⟩
          · rw [h] at hlt; simp at hlt
          rcases hT2.block with ⟨_, h⟩ | ⟨L2, cp', h, hB2, hS2⟩
          · rw [h] at hlt; simp at hlt
          cases h
          obtain ⟨x, hx⟩ : ∃ x, Ts[k]? = some x := ⟨Ts[k], by simp [hlt]⟩
          have hxn := (hpl x (List.mem_of_getElem? hx)).1
          have hxb : (x.toList == [116, 117, 114, 110, 101, 100]) = false := by simpa using hxn
          have hSw := (hS.keep (c2.block _ hS.lt)).keep (hq.block _ (Nat.lt_of_lt_of_le hS.lt c2.size))
          have d0 := hSw.cell (hset k hlt)
          have d1 := (hS2.keep (hq.block _ hS2.lt)).cell hx
          go_wp2
          exact ⟨⟨k + 1, by omega, by go_num, hq⟩, by simp [intOf]; omega⟩
        · obtain rfl : k = Ts.length := by omega
          go_wp2
          go_ret
          exact ⟨rfl, b2.trans (hq.mono b2.size)⟩

end Go.Proofs.YtiohpcnnpmnjhaaGreatDoor

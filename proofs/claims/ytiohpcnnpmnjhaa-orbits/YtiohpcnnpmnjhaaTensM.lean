import Derived.Test.YtiohpcnnpmnjhaaPatternM
namespace Go.Proofs.Ytiohpcnnpmnjhaa
open Go.RowKit
set_option linter.unusedVariables false

/-- The reference's reader: the text, the place, whether it is wrong there. -/
structure RAt (w : World) (b : Nat) (s : ByteArray) (i : Nat) (bad : Bool) : Prop where
  c0 : w.cell? ⟨b, 0, none⟩ = some (.string s)
  c1 : w.cell? ⟨b, 1, none⟩ = some (.int .i64 (i : Int))
  c2 : w.cell? ⟨b, 2, none⟩ = some (.bool bad)
  f1 : w.frozen? ⟨b, 1, none⟩ = false
  f2 : w.frozen? ⟨b, 2, none⟩ = false
theorem RAt.drewN {w : World} {b : Nat} {s : ByteArray} {i : Nat} {bad : Bool} (h : RAt w b s i bad) (n : Nat) : RAt (w.drewN n) b s i bad := ⟨h.c0, h.c1, h.c2, h.f1, h.f2⟩
theorem RAt.setI {w : World} {b : Nat} {s : ByteArray} {i : Nat} {bad : Bool} (h : RAt w b s i bad) (j : Nat) {v : Int} (hv : v = (j : Int)) : RAt (w.setCell ⟨b, 1, none⟩ (.int .i64 v)) b s j bad := by
  subst hv
  exact ⟨by rw [World.cell?_setCell_other _ _ _ _ (by simp)]; exact h.c0, World.cell?_setCell_same _ _ _ h.c1, by rw [World.cell?_setCell_other _ _ _ _ (by simp)]; exact h.c2, by simpa using h.f1, by simpa using h.f2⟩
theorem RAt.setBad {w : World} {b : Nat} {s : ByteArray} {i : Nat} {bad : Bool} (h : RAt w b s i bad) (x : Bool) : RAt (w.setCell ⟨b, 2, none⟩ (.bool x)) b s i x :=
  ⟨by rw [World.cell?_setCell_other _ _ _ _ (by simp)]; exact h.c0, by rw [World.cell?_setCell_other _ _ _ _ (by simp)]; exact h.c1, World.cell?_setCell_same _ _ _ h.c2, by simpa using h.f1, by simpa using h.f2⟩
theorem RAt.lt {w : World} {b : Nat} {s : ByteArray} {i : Nat} {bad : Bool} (h : RAt w b s i bad) : b < w.heap.size := World.block_lt_of_cell? w _ h.c0

theorem rdigit_any (c : Int) (hc0 : 0 ≤ c) (hc1 : c ≤ 255) (w : World) :
    Calls Try.prog 67 #[.int .u8 c] w fun e w' => e = .returned (.bool (isDg c)) ∧ w' = w := by
  by_cases h1 : 48 ≤ c
  · by_cases h2 : c ≤ 57
    · go_enter Try.func67, Try.ntmps67
      go_wp2
      go_ret
      exact ⟨ret_bool (by simp [isDg, h1, h2]), rfl⟩
    · go_enter Try.func67, Try.ntmps67
      go_wp2
      go_ret
      exact ⟨ret_bool (by simp [isDg, h1, h2]), rfl⟩
  · go_enter Try.func67, Try.ntmps67
    go_wp2
    go_ret
    exact ⟨ret_bool (by simp [isDg]; omega), rfl⟩

set_option maxHeartbeats 1600000 in
theorem rblanks_any (b : Nat) (s : ByteArray) (i0 : Nat) (bad : Bool) (w : World) (h : RAt w b s i0 bad) (hi0 : i0 ≤ s.size) (hs : s.size ≤ 1500) :
    Calls Try.prog 52 #[.pointer (some ⟨b, 0, none⟩)] w fun e w' => e = .returned (.bool (decide (i0 < bl s i0))) ∧ RAt w' b s (bl s i0) bad ∧ Near b w w' := by
  have ⟨c0, c1, c2, f1, f2⟩ := h
  go_enter Try.func52, Try.ntmps52
  go_wp2
  go_loopg [] (s.size - i0) (fun g wr => ∃ i : Nat, i0 ≤ i ∧ i ≤ s.size ∧ g = s.size - i ∧ RAt wr b s i bad ∧ Near b w wr ∧ Hid (bl s i = bl s i0))
  case atStart => exact ⟨i0, Nat.le_refl _, hi0, rfl, h, Near.refl _ _, rfl⟩
  case round =>
    obtain ⟨i, hi, hi', rfl, ha, hb, hr⟩ := hrel
    have ⟨d0, d1, d2, d3, d4⟩ := ha
    by_cases hlt : i < s.size
    · have hdc : decide ((i : Int) < (s.size : Int)) = true := by simp; omega
      have hpk := pk_in hlt
      by_cases h1 : pk s i = 32
      · have e1 : ((s[i].toNat : Int) == 32) = true := by rw [← hpk]; simpa using h1
        have hg := bl_go hlt (by unfold isBl; simp [h1])
        have HG : Hid (bl s (i + 1) = bl s i0) := hg.symm.trans hr.out
        clear hg hpk h1
        go_wp2
        go_quiet (fail)
        go_wp2
        go_roundg (s.size - (i + 1))
        case measure => omega
        case rel => exact ⟨i + 1, by omega, by omega, rfl, (ha.drewN _).setI (i + 1) (by simp), (hb.drewN _).setCell _ _, HG.out⟩
      · have e1 : ((s[i].toNat : Int) == 32) = false := by rw [← hpk]; simpa using h1
        by_cases h2 : pk s i = 10
        · have e2 : ((s[i].toNat : Int) == 10) = true := by rw [← hpk]; simpa using h2
          have hg := bl_go hlt (by unfold isBl; simp [h2])
          have HG : Hid (bl s (i + 1) = bl s i0) := hg.symm.trans hr.out
          clear hg hpk h1 h2
          go_wp2
          go_quiet (fail)
          go_wp2
          go_roundg (s.size - (i + 1))
          case measure => omega
          case rel => exact ⟨i + 1, by omega, by omega, rfl, (ha.drewN _).setI (i + 1) (by simp), (hb.drewN _).setCell _ _, HG.out⟩
        · have e2 : ((s[i].toNat : Int) == 10) = false := by rw [← hpk]; simpa using h2
          have hst := bl_stop (s := s) (i := i) (by unfold isBl; simp [h1, h2])
          have HS : Hid (i = bl s i0) := hst.symm.trans hr.out
          clear hst hr hpk h1 h2
          go_wp2
          go_quiet (fail)
          go_wp2
          go_ret
          refine ⟨ret_bool ?_, ?_, hb.drewN _⟩
          · rw [← HS.out]
          · rw [← HS.out]; exact ha.drewN _
    · have hdc : decide ((i : Int) < (s.size : Int)) = false := by simp; omega
      have hst : bl s i = i := skip_end (by omega)
      have HS : Hid (i = bl s i0) := hst.symm.trans hr.out
      clear hst hr
      go_wp2
      go_quiet (fail)
      go_wp2
      go_ret
      refine ⟨ret_bool ?_, ?_, hb.drewN _⟩
      · rw [← HS.out]
      · rw [← HS.out]; exact ha.drewN _

end Go.Proofs.Ytiohpcnnpmnjhaa

namespace Go.Proofs.Ytiohpcnnpmnjhaa
open Go.RowKit
set_option linter.unusedVariables false

/-- The reference's number of k digits from place i on. -/
def tenV (s : ByteArray) (i : Nat) : Nat → Nat
  | 0 => 0
  | k + 1 => if 200000000000000000 < tenV s i k then 2000000000000000001 else 10 * tenV s i k + (pk s (i + k) - 48).toNat

theorem tenV_le (s : ByteArray) (i : Nat) : ∀ k, (∀ j, j < k → isDg (pk s (i + j)) = true) → tenV s i k ≤ 2000000000000000009
  | 0, _ => by simp [tenV]
  | k + 1, h => by
    have ih := tenV_le s i k (fun j hj => h j (by omega))
    have hd := isDg_iff.1 (h k (by omega))
    simp only [tenV]
    split <;> omega
theorem tenV_dv (s : ByteArray) (i : Nat) : ∀ k, (∀ j, j < k → isDg (pk s (i + j)) = true) → (tenV s i k = dv s i k ∨ (2000000000000000000 < tenV s i k ∧ 2000000000000000000 < dv s i k))
  | 0, _ => by simp [tenV, dv]
  | k + 1, h => by
    have ih := tenV_dv s i k (fun j hj => h j (by omega))
    have hd := isDg_iff.1 (h k (by omega))
    simp only [tenV, dv]
    split
    · right; omega
    · left; omega

theorem ret_two {a b c d : Int} (h : a = b) (k : c = d) : Ending.returned (.tuple #[.int .i64 a, .int .i64 c]) = .returned (.tuple #[.int .i64 b, .int .i64 d]) := by rw [h, k]

set_option maxHeartbeats 1600000 in
theorem tens_any (b : Nat) (s : ByteArray) (i0 : Nat) (bad : Bool) (i1 : Nat) (w : World) (h : RAt w b s i1 bad) (hi0 : i0 ≤ s.size) (hs : s.size ≤ 1500) :
    Calls Try.prog 66 #[.pointer (some ⟨b, 0, none⟩), .int .i64 (i0 : Int)] w fun e w' => e = .returned (.tuple #[.int .i64 (tenV s i0 (dg s i0 - i0) : Nat), .int .i64 (dg s i0 : Nat)]) ∧ RAt w' b s i1 bad ∧ Near b w w' := by
  have ⟨c0, c1, c2, f1, f2⟩ := h
  go_enter Try.func66, Try.ntmps66
  go_wp2
  go_loopg [1, 6] (s.size - i0) (fun g vi vv wr => ∃ i T : Nat, i0 ≤ i ∧ i ≤ dg s i0 ∧ vi = .int .i64 (i : Int) ∧ vv = .int .i64 (T : Int) ∧ g = s.size - i ∧ RAt wr b s i1 bad ∧ Near b w wr ∧ Hid (T = tenV s i0 (i - i0)))
  case atStart => exact ⟨i0, 0, Nat.le_refl _, dg_ge s i0, rfl, rfl, rfl, h, Near.refl _ _, by simp [Hid, tenV]⟩
  case round =>
    obtain ⟨i, T, hi, hi', rfl, rfl, rfl, ha, hb, hT⟩ := hrel
    have ⟨d0, d1, d2, d3, d4⟩ := ha
    have hds := dg_le s i0 hi0
    by_cases hlt : i < dg s i0
    · have hls : i < s.size := by omega
      have hdc : decide ((i : Int) < (s.size : Int)) = true := by simp; omega
      have hdg : isDg (pk s i) = true := skip_all hi0 hi hlt
      have hpk := pk_in hls
      have hTb := tenV_le s i0 (i - i0) (fun j hj => skip_all hi0 (by omega) (by show i0 + j < dg s i0; omega))
      have hTn : Hid (tenV s i0 (i + 1 - i0) = if 200000000000000000 < T then 2000000000000000001 else 10 * T + (pk s i - 48).toNat) := by
        show _ = _
        rw [show i + 1 - i0 = (i - i0) + 1 by omega, tenV, ← hT.out, show i0 + (i - i0) = i by omega]
      rw [← hT.out] at hTb
      have hdv := isDg_iff.1 hdg
      rw [hpk] at hdv
      have hD : ∀ w, Calls Try.prog 67 #[.int .u8 (s[i].toNat : Int)] w fun e w' => e = .returned (.bool true) ∧ w' = w := fun w => by
        have := rdigit_any (s[i].toNat : Int) (by omega) (by omega) w
        rw [← hpk, hdg] at this
        rw [← hpk]; exact this
      rw [hpk] at hTn
      clear hpk hdg hT
      by_cases hbig : 200000000000000000 < T
      · have hbi : 200000000000000000 < (T : Int) := by omega
        go_wp2_with (go_at_call 67; refine (hD _).mono ?_; rintro e w1 ⟨rfl, rfl⟩)
        go_roundg (s.size - (i + 1))
        case measure => omega
        case rel => exact ⟨i + 1, 2000000000000000001, by omega, by omega, by simp, rfl, rfl, ha, hb, by show _ = _; rw [hTn.out, if_pos hbig]⟩
      · have hbi : ¬ 200000000000000000 < (T : Int) := by omega
        go_wp2_with (go_at_call 67; refine (hD _).mono ?_; rintro e w1 ⟨rfl, rfl⟩)
        go_roundg (s.size - (i + 1))
        case measure => omega
        case rel => exact ⟨i + 1, 10 * T + ((s[i].toNat : Int) - 48).toNat, by omega, by omega, by simp, by simp; omega, rfl, ha, hb, by show _ = _; rw [hTn.out, if_neg hbig]⟩
    · have hie : Hid (i = dg s i0) := by show _ = _; omega
      by_cases hls : i < s.size
      · have hdc : decide ((i : Int) < (s.size : Int)) = true := by simp; omega
        have hpk := pk_in hls
        have hdg : isDg (pk s i) = false := by rw [hie.out]; exact skip_at (by decide) hi0
        have hp := pk_bd s i
        have hD : ∀ w, Calls Try.prog 67 #[.int .u8 (s[i].toNat : Int)] w fun e w' => e = .returned (.bool false) ∧ w' = w := fun w => by
          have := rdigit_any (pk s i) hp.1 hp.2 w
          rw [hdg] at this
          rw [← hpk]; exact this
        clear hpk hdg hp
        go_wp2_with (go_at_call 67; refine (hD _).mono ?_; rintro e w1 ⟨rfl, rfl⟩)
        go_ret2
        exact ⟨ret_two (a := (T : Int)) (c := (i : Int)) (by rw [hT.out, hie.out]) (by rw [hie.out]), ha, hb⟩
      · have hdc : decide ((i : Int) < (s.size : Int)) = false := by simp; omega
        go_wp2
        go_ret2
        exact ⟨ret_two (a := (T : Int)) (c := (i : Int)) (by rw [hT.out, hie.out]) (by rw [hie.out]), ha, hb⟩

end Go.Proofs.Ytiohpcnnpmnjhaa

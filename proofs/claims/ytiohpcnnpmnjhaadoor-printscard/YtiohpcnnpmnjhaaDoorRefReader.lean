import Derived.Test.YtiohpcnnpmnjhaaDoorPattern
namespace Go.Proofs.YtiohpcnnpmnjhaaDoor
open Go.RowKit
set_option linter.unusedVariables false

/-- The reference's reader: the text, the place, whether it is wrong there. -/
structure RAt (w : World) (b : Nat) (s : ByteArray) (i : Nat) (bad : Bool) : Prop where
  c0 : w.cell? ⟨b, 0, none⟩ = some (.string s)
  c1 : w.cell? ⟨b, 1, none⟩ = some (.int .i64 (i : Int))
  c2 : w.cell? ⟨b, 2, none⟩ = some (.bool bad)
  f1 : w.frozen? ⟨b, 1, none⟩ = false
  f2 : w.frozen? ⟨b, 2, none⟩ = false
theorem RAt.drewN {w : World} {b : Nat} {s : ByteArray} {i : Nat} {bad : Bool} (h : RAt w b s i bad) (n : Nat) : RAt (w.drewN n) b s i bad := ⟨h.c0, h.c1, h.c2, h.f1, h.f2⟩
theorem RAt.setI {w : World} {b : Nat} {s : ByteArray} {i : Nat} {bad : Bool} (h : RAt w b s i bad) (j : Nat) {v : Int} (hv : v = (j : Int)) : RAt (w.setCell ⟨b, 1, none⟩ (.int .i64 v)) b s j bad := by
  subst hv
  exact ⟨by rw [World.cell?_setCell_other _ _ _ _ (by simp)]; exact h.c0, World.cell?_setCell_same _ _ _ h.c1, by rw [World.cell?_setCell_other _ _ _ _ (by simp)]; exact h.c2, by simpa using h.f1, by simpa using h.f2⟩
theorem RAt.setBad {w : World} {b : Nat} {s : ByteArray} {i : Nat} {bad : Bool} (h : RAt w b s i bad) (x : Bool) : RAt (w.setCell ⟨b, 2, none⟩ (.bool x)) b s i x :=
  ⟨by rw [World.cell?_setCell_other _ _ _ _ (by simp)]; exact h.c0, by rw [World.cell?_setCell_other _ _ _ _ (by simp)]; exact h.c1, World.cell?_setCell_same _ _ _ h.c2, by simpa using h.f1, by simpa using h.f2⟩
theorem RAt.lt {w : World} {b : Nat} {s : ByteArray} {i : Nat} {bad : Bool} (h : RAt w b s i bad) : b < w.heap.size := World.block_lt_of_cell? w _ h.c0

theorem rdigit_any (c : Int) (hc0 : 0 ≤ c) (hc1 : c ≤ 255) (w : World) :
    Calls Tryd.prog 43 #[.int .u8 c] w fun e w' => e = .returned (.bool (isDg c)) ∧ w' = w := by
  by_cases h1 : 48 ≤ c
  · by_cases h2 : c ≤ 57
    · go_enter Tryd.func43, Tryd.ntmps43
      go_wp2
      go_ret
      exact ⟨ret_bool (by simp [isDg, h1, h2]), rfl⟩
    · go_enter Tryd.func43, Tryd.ntmps43
      go_wp2
      go_ret
      exact ⟨ret_bool (by simp [isDg, h1, h2]), rfl⟩
  · go_enter Tryd.func43, Tryd.ntmps43
    go_wp2
    go_ret
    exact ⟨ret_bool (by simp [isDg]; omega), rfl⟩

set_option maxHeartbeats 1600000 in
theorem rblanks_any (b : Nat) (s : ByteArray) (i0 : Nat) (bad : Bool) (w : World) (h : RAt w b s i0 bad) (hi0 : i0 ≤ s.size) (hs : s.size ≤ 1500) :
    Calls Tryd.prog 30 #[.pointer (some ⟨b, 0, none⟩)] w fun e w' => e = .returned (.bool (decide (i0 < bl s i0))) ∧ RAt w' b s (bl s i0) bad ∧ Near b w w' := by
  have ⟨c0, c1, c2, f1, f2⟩ := h
  go_enter Tryd.func30, Tryd.ntmps30
  go_wp2
  go_loopg [] (s.size - i0) (fun g wr => ∃ i : Nat, i0 ≤ i ∧ i ≤ s.size ∧ g = s.size - i ∧ RAt wr b s i bad ∧ Near b w wr ∧ Hid (bl s i = bl s i0))
  case atStart => exact ⟨i0, Nat.le_refl _, hi0, rfl, h, Near.refl _ _, rfl⟩
  case round =>
    obtain ⟨i, hi, hi', rfl, ha, hb, hr⟩ := hrel
    have ⟨d0, d1, d2, d3, d4⟩ := ha
    by_cases hlt : i < s.size
    · have hdc : decide ((i : Int) < (s.size : Int)) = true := by simp; omega
      have hpk := pk_in hlt
      by_cases h1 : pk s i = 32
      · have e1 : ((s[i].toNat : Int) == 32) = true := by rw [← hpk]; simpa using h1
        have hg := bl_go hlt (by unfold isBl; simp [h1])
        have HG : Hid (bl s (i + 1) = bl s i0) := hg.symm.trans hr.out
        clear hg hpk h1
        go_wp2
        go_quiet (fail)
        go_wp2
        go_roundg (s.size - (i + 1))
        case measure => omega
        case rel => exact ⟨i + 1, by omega, by omega, rfl, (ha.drewN _).setI (i + 1) (by simp), (hb.drewN _).setCell _ _, HG.out⟩
      · have e1 : ((s[i].toNat : Int) == 32) = false := by rw [← hpk]; simpa using h1
        by_cases h2 : pk s i = 10
        · have e2 : ((s[i].toNat : Int) == 10) = true := by rw [← hpk]; simpa using h2
          have hg := bl_go hlt (by unfold isBl; simp [h2])
          have HG : Hid (bl s (i + 1) = bl s i0) := hg.symm.trans hr.out
          clear hg hpk h1 h2
          go_wp2
          go_quiet (fail)
          go_wp2
          go_roundg (s.size - (i + 1))
          case measure => omega
          case rel => exact ⟨i + 1, by omega, by omega, rfl, (ha.drewN _).setI (i + 1) (by simp), (hb.drewN _).setCell _ _, HG.out⟩
        · have e2 : ((s[i].toNat : Int) == 10) = false := by rw [← hpk]; simpa using h2
          have hst := bl_stop (s := s) (i := i) (by unfold isBl; simp [h1, h2])
          have HS : Hid (i = bl s i0) := hst.symm.trans hr.out
          clear hst hr hpk h1 h2
          go_wp2
          go_quiet (fail)
          go_wp2
          go_ret
          refine ⟨ret_bool ?_, ?_, hb.drewN _⟩
          · rw [← HS.out]
          · rw [← HS.out]; exact ha.drewN _
    · have hdc : decide ((i : Int) < (s.size : Int)) = false := by simp; omega
      have hst : bl s i = i := skip_end (by omega)
      have HS : Hid (i = bl s i0) := hst.symm.trans hr.out
      clear hst hr
      go_wp2
      go_quiet (fail)
      go_wp2
      go_ret
      refine ⟨ret_bool ?_, ?_, hb.drewN _⟩
      · rw [← HS.out]
      · rw [← HS.out]; exact ha.drewN _

end Go.Proofs.YtiohpcnnpmnjhaaDoor

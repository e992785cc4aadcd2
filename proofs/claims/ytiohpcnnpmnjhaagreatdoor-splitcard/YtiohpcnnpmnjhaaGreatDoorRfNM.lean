import Derived.Test.YtiohpcnnpmnjhaaGreatDoorFrmM
namespace Go.Proofs.YtiohpcnnpmnjhaaGreatDoor
open Go.RowKit
set_option linter.unusedVariables false

/-- The reference's reader: the text, the place, whether it is wrong there. -/
structure RAt (w : World) (b : Nat) (s : ByteArray) (i : Nat) (bad : Bool) : Prop where
  c0 : w.cell? ⟨b, 0, none⟩ = some (.string s)
  c1 : w.cell? ⟨b, 1, none⟩ = some (.int .i64 (i : Int))
  c2 : w.cell? ⟨b, 2, none⟩ = some (.bool bad)
  f1 : w.frozen? ⟨b, 1, none⟩ = false
  f2 : w.frozen? ⟨b, 2, none⟩ = false
theorem RAt.drewN {w : World} {b : Nat} {s : ByteArray} {i : Nat} {bad : Bool} (h : RAt w b s i bad) (n : Nat) : RAt (w.drewN n) b s i bad := ⟨h.c0, h.c1, h.c2, h.f1, h.f2⟩
theorem RAt.setI {w : World} {b : Nat} {s : ByteArray} {i : Nat} {bad : Bool} (h : RAt w b s i bad) (j : Nat) {v : Int} (hv : v = (j : Int)) : RAt (w.setCell ⟨b, 1, none⟩ (.int .i64 v)) b s j bad := by
  subst hv
  exact ⟨by rw [World.cell?_setCell_other _ _ _ _ (by simp)]; exact h.c0, World.cell?_setCell_same _ _ _ h.c1, by rw [World.cell?_setCell_other _ _ _ _ (by simp)]; exact h.c2, by simpa using h.f1, by simpa using h.f2⟩
theorem RAt.setBad {w : World} {b : Nat} {s : ByteArray} {i : Nat} {bad : Bool} (h : RAt w b s i bad) (x : Bool) : RAt (w.setCell ⟨b, 2, none⟩ (.bool x)) b s i x :=
  ⟨by rw [World.cell?_setCell_other _ _ _ _ (by simp)]; exact h.c0, by rw [World.cell?_setCell_other _ _ _ _ (by simp)]; exact h.c1, World.cell?_setCell_same _ _ _ h.c2, by simpa using h.f1, by simpa using h.f2⟩
theorem RAt.lt {w : World} {b : Nat} {s : ByteArray} {i : Nat} {bad : Bool} (h : RAt w b s i bad) : b < w.heap.size := World.block_lt_of_cell? w _ h.c0

theorem rdigit_any (c : Int) (hc0 : 0 ≤ c) (hc1 : c ≤ 255) (w : World) :
    Calls Tryz.prog 103 #[.int .u8 c] w fun e w' => e = .returned (.bool (isDg c)) ∧ w' = w := by
  by_cases h1 : 48 ≤ c
  · by_cases h2 : c ≤ 57
    · go_enter Tryz.func103, Tryz.ntmps103
      go_wp2
      go_ret
      exact ⟨ret_bool (by simp [isDg, h1, h2]), rfl⟩
    · go_enter Tryz.func103, Tryz.ntmps103
      go_wp2
      go_ret
      exact ⟨ret_bool (by simp [isDg, h1, h2]), rfl⟩
  · go_enter Tryz.func103, Tryz.ntmps103
    go_wp2
    go_ret
    exact ⟨ret_bool (by simp [isDg]; omega), rfl⟩

set_option maxHeartbeats 1600000 in
theorem rblanks_any (b : Nat) (s : ByteArray) (i0 : Nat) (bad : Bool) (w : World) (h : RAt w b s i0 bad) (hi0 : i0 ≤ s.size) (hs : s.size ≤ 1500) :
    Calls Tryz.prog 78 #[.pointer (some ⟨b, 0, none⟩)] w fun e w' => e = .returned (.bool (decide (i0 < bl s i0))) ∧ RAt w' b s (bl s i0) bad ∧ Near b w w' := by
  have ⟨c0, c1, c2, f1, f2⟩ := h
  go_enter Tryz.func78, Tryz.ntmps78
  go_wp2
  go_loopg [] (s.size - i0) (fun g wr => ∃ i : Nat, i0 ≤ i ∧ i ≤ s.size ∧ g = s.size - i ∧ RAt wr b s i bad ∧ Near b w wr ∧ Hid (bl s i = bl s i0))
  case atStart => exact ⟨i0, Nat.le_refl _, hi0, rfl, h, Near.refl _ _, rfl⟩
  case round =>
    obtain ⟨i, hi, hi', rfl, ha, hb, hr⟩ := hrel
    have ⟨d0, d1, d2, d3, d4⟩ := ha
    by_cases hlt : i < s.size
    · have hdc : decide ((i : Int) < (s.size : Int)) = true := by simp; omega
      have hpk := pk_in hlt
      by_cases h1 : pk s i = 32
      · have e1 : ((s[i].toNat : Int) == 32) = true := by rw [← hpk]; simpa using h1
        have hg := bl_go hlt (by unfold isBl; simp [h1])
        have HG : Hid (bl s (i + 1) = bl s i0) := hg.symm.trans hr.out
        clear hg hpk h1
        go_wp2
        go_quiet (fail)
        go_wp2
        go_roundg (s.size - (i + 1))
        case measure => omega
        case rel => exact ⟨i + 1, by omega, by omega, rfl, (ha.drewN _).setI (i + 1) (by simp), (hb.drewN _).setCell _ _, HG.out⟩
      · have e1 : ((s[i].toNat : Int) == 32) = false := by rw [← hpk]; simpa using h1
        by_cases h2 : pk s i = 10
        · have e2 : ((s[i].toNat : Int) == 10) = true := by rw [← hpk]; simpa using h2
          have hg := bl_go hlt (by unfold isBl; simp [h2])
          have HG : Hid (bl s (i + 1) = bl s i0) := hg.symm.trans hr.out
          clear hg hpk h1 h2
          go_wp2
          go_quiet (fail)
          go_wp2
          go_roundg (s.size - (i + 1))
          case measure => omega
          case rel => exact ⟨i + 1, by omega, by omega, rfl, (ha.drewN _).setI (i + 1) (by simp), (hb.drewN _).setCell _ _, HG.out⟩
        · have e2 : ((s[i].toNat : Int) == 10) = false := by rw [← hpk]; simpa using h2
          have hst := bl_stop (s := s) (i := i) (by unfold isBl; simp [h1, h2])
          have HS : Hid (i = bl s i0) := hst.symm.trans hr.out
          clear hst hr hpk h1 h2
          go_wp2
          go_quiet (fail)
          go_wp2
          go_ret
          refine ⟨ret_bool ?_, ?_, hb.drewN _⟩
          · rw [← HS.out]
          · rw [← HS.out]; exact ha.drewN _
    · have hdc : decide ((i : Int) < (s.size : Int)) = false := by simp; omega
      have hst : bl s i = i := skip_end (by omega)
      have HS : Hid (i = bl s i0) := hst.symm.trans hr.out
      clear hst hr
      go_wp2
      go_quiet (fail)
      go_wp2
      go_ret
      refine ⟨ret_bool ?_, ?_, hb.drewN _⟩
      · rw [← HS.out]
      · rw [← HS.out]; exact ha.drewN _

end Go.Proofs.YtiohpcnnpmnjhaaGreatDoor

namespace Go.Proofs.YtiohpcnnpmnjhaaGreatDoor
open Go.RowKit
set_option linter.unusedVariables false

/-- The reference's number of k digits from place i on. -/
def tenV (s : ByteArray) (i : Nat) : Nat → Nat
  | 0 => 0
  | k + 1 => if 200000000000000000 < tenV s i k then 2000000000000000001 else 10 * tenV s i k + (pk s (i + k) - 48).toNat

theorem tenV_le (s : ByteArray) (i : Nat) : ∀ k, (∀ j, j < k → isDg (pk s (i + j)) = true) → tenV s i k ≤ 2000000000000000009
  | 0, _ => by simp [tenV]
  | k + 1, h => by
    have ih := tenV_le s i k (fun j hj => h j (by omega))
    have hd := isDg_iff.1 (h k (by omega))
    simp only [tenV]
    split <;> omega
theorem tenV_dv (s : ByteArray) (i : Nat) : ∀ k, (∀ j, j < k → isDg (pk s (i + j)) = true) → (tenV s i k = dv s i k ∨ (2000000000000000000 < tenV s i k ∧ 2000000000000000000 < dv s i k))
  | 0, _ => by simp [tenV, dv]
  | k + 1, h => by
    have ih := tenV_dv s i k (fun j hj => h j (by omega))
    have hd := isDg_iff.1 (h k (by omega))
    simp only [tenV, dv]
    split
    · right; omega
    · left; omega

theorem ret_two {a b c d : Int} (h : a = b) (k : c = d) : Ending.returned (.tuple #[.int .i64 a, .int .i64 c]) = .returned (.tuple #[.int .i64 b, .int .i64 d]) := by rw [h, k]

set_option maxHeartbeats 1600000 in
theorem tens_any (b : Nat) (s : ByteArray) (i0 : Nat) (bad : Bool) (i1 : Nat) (w : World) (h : RAt w b s i1 bad) (hi0 : i0 ≤ s.size) (hs : s.size ≤ 1500) :
    Calls Tryz.prog 102 #[.pointer (some ⟨b, 0, none⟩), .int .i64 (i0 : Int)] w fun e w' => e = .returned (.tuple #[.int .i64 (tenV s i0 (dg s i0 - i0) : Nat), .int .i64 (dg s i0 : Nat)]) ∧ RAt w' b s i1 bad ∧ Near b w w' := by
  have ⟨c0, c1, c2, f1, f2⟩ := h
  go_enter Tryz.func102, Tryz.ntmps102
  go_wp2
  go_loopg [1, 6] (s.size - i0) (fun g vi vv wr => ∃ i T : Nat, i0 ≤ i ∧ i ≤ dg s i0 ∧ vi = .int .i64 (i : Int) ∧ vv = .int .i64 (T : Int) ∧ g = s.size - i ∧ RAt wr b s i1 bad ∧ Near b w wr ∧ Hid (T = tenV s i0 (i - i0)))
  case atStart => exact ⟨i0, 0, Nat.le_refl _, dg_ge s i0, rfl, rfl, rfl, h, Near.refl _ _, by simp [Hid, tenV]⟩
  case round =>
    obtain ⟨i, T, hi, hi', rfl, rfl, rfl, ha, hb, hT⟩ := hrel
    have ⟨d0, d1, d2, d3, d4⟩ := ha
    have hds := dg_le s i0 hi0
    by_cases hlt : i < dg s i0
    · have hls : i < s.size := by omega
      have hdc : decide ((i : Int) < (s.size : Int)) = true := by simp; omega
      have hdg : isDg (pk s i) = true := skip_all hi0 hi hlt
      have hpk := pk_in hls
      have hTb := tenV_le s i0 (i - i0) (fun j hj => skip_all hi0 (by omega) (by show i0 + j < dg s i0; omega))
      have hTn : Hid (tenV s i0 (i + 1 - i0) = if 200000000000000000 < T then 2000000000000000001 else 10 * T + (pk s i - 48).toNat) := by
        show _ = _
        rw [show i + 1 - i0 = (i - i0) + 1 by omega, tenV, ← hT.out, show i0 + (i - i0) = i by omega]
      rw [← hT.out] at hTb
      have hdv := isDg_iff.1 hdg
      rw [hpk] at hdv
      have hD : ∀ w, Calls Tryz.prog 103 #[.int .u8 (s[i].toNat : Int)] w fun e w' => e = .returned (.bool true) ∧ w' = w := fun w => by
        have := rdigit_any (s[i].toNat : Int) (by omega) (by omega) w
        rw [← hpk, hdg] at this
        rw [← hpk]; exact this
      rw [hpk] at hTn
      clear hpk hdg hT
      by_cases hbig : 200000000000000000 < T
      · have hbi : 200000000000000000 < (T : Int) := by omega
        go_wp2_with (go_at_call 103; refine (hD _).mono ?_; rintro e w1 ⟨rfl, rfl⟩)
        go_roundg (s.size - (i + 1))
        case measure => omega
        case rel => exact ⟨i + 1, 2000000000000000001, by omega, by omega, by simp, rfl, rfl, ha, hb, by show _ = _; rw [hTn.out, if_pos hbig]⟩
      · have hbi : ¬ 200000000000000000 < (T : Int) := by omega
        go_wp2_with (go_at_call 103; refine (hD _).mono ?_; rintro e w1 ⟨rfl, rfl⟩)
        go_roundg (s.size - (i + 1))
        case measure => omega
        case rel => exact ⟨i + 1, 10 * T + ((s[i].toNat : Int) - 48).toNat, by omega, by omega, by simp, by simp; omega, rfl, ha, hb, by show _ = _; rw [hTn.out, if_neg hbig]⟩
    · have hie : Hid (i = dg s i0) := by show _ = _; omega
      by_cases hls : i < s.size
      · have hdc : decide ((i : Int) < (s.size : Int)) = true := by simp; omega
        have hpk := pk_in hls
        have hdg : isDg (pk s i) = false := by rw [hie.out]; exact skip_at (by decide) hi0
        have hp := pk_bd s i
        have hD : ∀ w, Calls Tryz.prog 103 #[.int .u8 (s[i].toNat : Int)] w fun e w' => e = .returned (.bool false) ∧ w' = w := fun w => by
          have := rdigit_any (pk s i) hp.1 hp.2 w
          rw [hdg] at this
          rw [← hpk]; exact this
        clear hpk hdg hp
        go_wp2_with (go_at_call 103; refine (hD _).mono ?_; rintro e w1 ⟨rfl, rfl⟩)
        go_ret2
        exact ⟨ret_two (a := (T : Int)) (c := (i : Int)) (by rw [hT.out, hie.out]) (by rw [hie.out]), ha, hb⟩
      · have hdc : decide ((i : Int) < (s.size : Int)) = false := by simp; omega
        go_wp2
        go_ret2
        exact ⟨ret_two (a := (T : Int)) (c := (i : Int)) (by rw [hT.out, hie.out]) (by rw [hie.out]), ha, hb⟩

end Go.Proofs.YtiohpcnnpmnjhaaGreatDoor

namespace Go.Proofs.YtiohpcnnpmnjhaaGreatDoor
open Go.RowKit
set_option linter.unusedVariables false

/-- The reference's number token: as the program's, but for what is far out. -/
def rnumTok (s : ByteArray) (i : Nat) : Option (Int × Nat) :=
  if pk s i = 45 then
    if dg s (i + 1) = i + 1 ∨ 19 < dg s (i + 1) - (i + 1) then none else some (-((tenV s (i + 1) (dg s (i + 1) - (i + 1)) : Nat) : Int), dg s (i + 1))
  else
    if dg s i = i ∨ 19 < dg s i - i then none else some (((tenV s i (dg s i - i) : Nat) : Int), dg s i)

set_option maxHeartbeats 3200000 in
theorem rnumber_any (b : Nat) (s : ByteArray) (i : Nat) (w : World) (h : RAt w b s i false) (hi : i ≤ s.size) (hs : s.size ≤ 1500) :
    Calls Tryz.prog 79 #[.pointer (some ⟨b, 0, none⟩)] w fun e w' => Near b w w' ∧ ((rnumTok s i = none ∧ e = .returned (.int .i64 0) ∧ RAt w' b s i true) ∨ ∃ z j, rnumTok s i = some (z, j) ∧ e = .returned (.int .i64 z) ∧ RAt w' b s j false) := by
  have ⟨c0, c1, c2, f1, f2⟩ := h
  by_cases hlt : i < s.size
  · have hdc : decide ((i : Int) < (s.size : Int)) = true := by simp; omega
    have hpk := pk_in hlt
    by_cases hn : pk s i = 45
    · have e1 : ((s[i].toNat : Int) == 45) = true := by rw [← hpk]; simpa using hn
      have hd := dg_le s (i + 1) (by omega)
      have hTb := tenV_le s (i + 1) (dg s (i + 1) - (i + 1)) (fun j hj => skip_all (i := i + 1) (by omega) (by omega) (by show i + 1 + j < dg s (i + 1); omega))
      obtain ⟨V, hV'⟩ : ∃ V, tenV s (i + 1) (dg s (i + 1) - (i + 1)) = V := ⟨_, rfl⟩
      obtain ⟨J, hJ⟩ : ∃ J, dg s (i + 1) = J := ⟨_, rfl⟩
      have hV := hV'
      rw [hJ] at hV
      rw [hV'] at hTb
      rw [hJ] at hd
      clear hV' hpk
      have hT : ∀ w, RAt w b s i false → Calls Tryz.prog 102 #[.pointer (some ⟨b, 0, none⟩), .int .i64 ((i : Int) + 1)] w fun e w' => e = .returned (.tuple #[.int .i64 (V : Int), .int .i64 (J : Int)]) ∧ RAt w' b s i false ∧ Near b w w' := fun w h => by
        have := tens_any b s (i + 1) false i w h (by omega) hs
        rw [hJ, hV] at this
        simpa using this
      by_cases hA : J = (i + 1)
      · have q1 : ((J : Int) == ((i : Int) + 1)) = true := by simp; omega
        go_enter Tryz.func79, Tryz.ntmps79
        go_wp2_with (go_at_call 102; refine (hT _ h).mono ?_; rintro e w1 ⟨rfl, ha, hb⟩; have ⟨d0, d1, d2, d3, d4⟩ := ha)
        go_ret
        exact ⟨hb.setCell _ _, .inl ⟨by rw [rnumTok, if_pos hn]; rw [hJ, if_pos (.inl hA)], rfl, ha.setBad true⟩⟩
      by_cases hB : 19 < J - (i + 1)
      · have q1 : ((J : Int) == ((i : Int) + 1)) = false := by simp; omega
        have q2 : 19 < (J : Int) - ((i : Int) + 1) := by omega
        go_enter Tryz.func79, Tryz.ntmps79
        go_wp2_with (go_at_call 102; refine (hT _ h).mono ?_; rintro e w1 ⟨rfl, ha, hb⟩; have ⟨d0, d1, d2, d3, d4⟩ := ha)
        go_ret
        exact ⟨hb.setCell _ _, .inl ⟨by rw [rnumTok, if_pos hn]; rw [hJ, if_pos (.inr hB)], rfl, ha.setBad true⟩⟩
      · have q1 : ((J : Int) == ((i : Int) + 1)) = false := by simp; omega
        have q2 : ¬ 19 < (J : Int) - ((i : Int) + 1) := by omega
        go_enter Tryz.func79, Tryz.ntmps79
        go_wp2_with (go_at_call 102; refine (hT _ h).mono ?_; rintro e w1 ⟨rfl, ha, hb⟩; have ⟨d0, d1, d2, d3, d4⟩ := ha)
        go_ret
        exact ⟨hb.setCell _ _, .inr ⟨-(V : Int), J, by rw [rnumTok, if_pos hn]; rw [hJ, hV, if_neg (by omega)], rfl, ha.setI J rfl⟩⟩
    · have e1 : ((s[i].toNat : Int) == 45) = false := by rw [← hpk]; simpa using hn
      have hd := dg_le s i (by omega)
      have hTb := tenV_le s i (dg s i - i) (fun j hj => skip_all (i := i) (by omega) (by omega) (by show i + j < dg s i; omega))
      obtain ⟨V, hV'⟩ : ∃ V, tenV s i (dg s i - i) = V := ⟨_, rfl⟩
      obtain ⟨J, hJ⟩ : ∃ J, dg s i = J := ⟨_, rfl⟩
      have hV := hV'
      rw [hJ] at hV
      rw [hV'] at hTb
      rw [hJ] at hd
      clear hV' hpk
      have hT : ∀ w, RAt w b s i false → Calls Tryz.prog 102 #[.pointer (some ⟨b, 0, none⟩), .int .i64 (i : Int)] w fun e w' => e = .returned (.tuple #[.int .i64 (V : Int), .int .i64 (J : Int)]) ∧ RAt w' b s i false ∧ Near b w w' := fun w h => by
        have := tens_any b s i false i w h (by omega) hs
        rw [hJ, hV] at this
        simpa using this
      by_cases hA : J = i
      · have q1 : ((J : Int) == (i : Int)) = true := by simp; omega
        go_enter Tryz.func79, Tryz.ntmps79
        go_wp2_with (go_at_call 102; refine (hT _ h).mono ?_; rintro e w1 ⟨rfl, ha, hb⟩; have ⟨d0, d1, d2, d3, d4⟩ := ha)
        go_ret
        exact ⟨hb.setCell _ _, .inl ⟨by rw [rnumTok, if_neg hn]; rw [hJ, if_pos (.inl hA)], rfl, ha.setBad true⟩⟩
      by_cases hB : 19 < J - i
      · have q1 : ((J : Int) == (i : Int)) = false := by simp; omega
        have q2 : 19 < (J : Int) - (i : Int) := by omega
        go_enter Tryz.func79, Tryz.ntmps79
        go_wp2_with (go_at_call 102; refine (hT _ h).mono ?_; rintro e w1 ⟨rfl, ha, hb⟩; have ⟨d0, d1, d2, d3, d4⟩ := ha)
        go_ret
        exact ⟨hb.setCell _ _, .inl ⟨by rw [rnumTok, if_neg hn]; rw [hJ, if_pos (.inr hB)], rfl, ha.setBad true⟩⟩
      · have q1 : ((J : Int) == (i : Int)) = false := by simp; omega
        have q2 : ¬ 19 < (J : Int) - (i : Int) := by omega
        go_enter Tryz.func79, Tryz.ntmps79
        go_wp2_with (go_at_call 102; refine (hT _ h).mono ?_; rintro e w1 ⟨rfl, ha, hb⟩; have ⟨d0, d1, d2, d3, d4⟩ := ha)
        go_ret
        exact ⟨hb.setCell _ _, .inr ⟨(V : Int), J, by rw [rnumTok, if_neg hn]; rw [hJ, hV, if_neg (by omega)], rfl, ha.setI J rfl⟩⟩
  · have hdc : decide ((i : Int) < (s.size : Int)) = false := by simp; omega
    have hp := pk_out hlt
    have hJ : dg s i = i := dg_stop (by rw [hp]; decide)
    have hT : ∀ w, RAt w b s i false → Calls Tryz.prog 102 #[.pointer (some ⟨b, 0, none⟩), .int .i64 (i : Int)] w fun e w' => e = .returned (.tuple #[.int .i64 0, .int .i64 (i : Int)]) ∧ RAt w' b s i false ∧ Near b w w' := fun w h => by
      have := tens_any b s i false i w h (by omega) hs
      rw [hJ, Nat.sub_self, tenV] at this
      simpa using this
    have q1 : ((i : Int) == (i : Int)) = true := by simp
    have htk : rnumTok s i = none := by rw [rnumTok, if_neg (by rw [hp]; decide), if_pos (.inl hJ)]
    clear hJ hp
    go_enter Tryz.func79, Tryz.ntmps79
    go_wp2_with (go_at_call 102; refine (hT _ h).mono ?_; rintro e w1 ⟨rfl, ha, hb⟩; have ⟨d0, d1, d2, d3, d4⟩ := ha)
    go_ret
    exact ⟨hb.setCell _ _, .inl ⟨htk, rfl, ha.setBad true⟩⟩

/-- What count answers, the place, whether it is wrong. -/
def rcount (s : ByteArray) (i : Nat) : Int × Nat × Bool :=
  if isDg (pk s i) then
    if pk s i = 48 ∨ 4 < dg s i - i then (0, i, true) else ((tenV s i (dg s i - i) : Nat), bl s (dg s i), pk s (bl s (dg s i)) == 33)
  else (1, i, false)

set_option maxHeartbeats 3200000 in
theorem rcount_any (b : Nat) (s : ByteArray) (i : Nat) (w : World) (h : RAt w b s i false) (hi : i ≤ s.size) (hs : s.size ≤ 1500) :
    Calls Tryz.prog 80 #[.pointer (some ⟨b, 0, none⟩)] w fun e w' => Near b w w' ∧ e = .returned (.int .i64 (rcount s i).1) ∧ RAt w' b s (rcount s i).2.1 (rcount s i).2.2 := by
  have ⟨c0, c1, c2, f1, f2⟩ := h
  by_cases hlt : i < s.size
  · have hpk := pk_in hlt
    have hp := pk_bd s i
    have hdc : decide ((s.size : Int) ≤ (i : Int)) = false := by simp; omega
    have hD : ∀ w, Calls Tryz.prog 103 #[.int .u8 (s[i].toNat : Int)] w fun e w' => e = .returned (.bool (isDg (pk s i))) ∧ w' = w := fun w => by
      have := rdigit_any (pk s i) hp.1 hp.2 w
      rw [← hpk]; exact this
    by_cases hdg : isDg (pk s i) = true
    · rw [hdg] at hD
      have hd := dg_le s i hi
      have hgt : i < dg s i := by
        have h1 := dg_go hlt hdg
        have h2 := dg_ge s (i + 1)
        omega
      have hTb := tenV_le s i (dg s i - i) (fun j hj => skip_all (i := i) (by omega) (by omega) (by show i + j < dg s i; omega))
      have hT := fun (w : World) (h : RAt w b s i false) => tens_any b s i false i w h hi hs
      obtain ⟨V, hV⟩ : ∃ V, tenV s i (dg s i - i) = V := ⟨_, rfl⟩
      obtain ⟨J, hJ⟩ : ∃ J, dg s i = J := ⟨_, rfl⟩
      simp only [hV] at hT
      rw [hV] at hTb
      simp only [hJ] at hT
      rw [hJ] at hd hgt hV
      have nw := fun n => (Near.refl b w).drewN n
      by_cases h4 : 4 < J - i
      · have q2 : decide (4 < (J : Int) - (i : Int)) = true := by simp; omega
        have qw : IntKind.i64.wrap ((J : Int) - (i : Int)) = (J : Int) - (i : Int) := by simp only [IntKind.wrap, IntKind.bits, IntKind.signed]; simp; omega
        have hC : Hid (rcount s i = (0, i, true)) := by show _ = _; rw [rcount, if_pos hdg, hJ, if_pos (.inr h4)]
        clear hpk hdg hp hJ hV
        go_enter Tryz.func80, Tryz.ntmps80
        go_wp2
        go_quiet (refine Calls.quiet_of_same (hD _))
        go_wp2_with (go_at_call 102; refine (hT _ (h.drewN _)).mono ?_; rintro e w1 ⟨rfl, ha, hb⟩; have ⟨d0, d1, d2, d3, d4⟩ := ha)
        go_quiet (fail)
        go_wp2
        go_ret
        rw [hC.out]
        exact ⟨(((nw _).trans hb).drewN _).setCell _ _, rfl, (ha.drewN _).setBad true⟩
      · have q2 : decide (4 < (J : Int) - (i : Int)) = false := by simp; omega
        have qw : IntKind.i64.wrap ((J : Int) - (i : Int)) = (J : Int) - (i : Int) := by simp only [IntKind.wrap, IntKind.bits, IntKind.signed]; simp; omega
        by_cases h0 : pk s i = 48
        · have q3 : ((s[i].toNat : Int) == 48) = true := by rw [← hpk]; simpa using h0
          have hC : Hid (rcount s i = (0, i, true)) := by show _ = _; rw [rcount, if_pos hdg, hJ, if_pos (.inl h0)]
          clear hpk hdg hp hJ hV h0
          go_enter Tryz.func80, Tryz.ntmps80
          go_wp2
          go_quiet (refine Calls.quiet_of_same (hD _))
          go_wp2_with (go_at_call 102; refine (hT _ (h.drewN _)).mono ?_; rintro e w1 ⟨rfl, ha, hb⟩; have ⟨d0, d1, d2, d3, d4⟩ := ha)
          go_quiet (fail)
          go_wp2
          go_ret
          rw [hC.out]
          exact ⟨(((nw _).trans hb).drewN _).setCell _ _, rfl, (ha.drewN _).setBad true⟩
        · have q3 : ((s[i].toNat : Int) == 48) = false := by rw [← hpk]; simpa using h0
          have hbl := bl_le s J hd.2
          have hC : Hid (rcount s i = (((V : Nat) : Int), bl s J, pk s (bl s J) == 33)) := by show _ = _; rw [rcount, if_pos hdg, hJ, if_neg (by simp; exact ⟨h0, by omega⟩), hV]
          have hB := fun (w : World) (h : RAt w b s J false) => rblanks_any b s J false w h hd.2 hs
          obtain ⟨K, hK⟩ : ∃ K, bl s J = K := ⟨_, rfl⟩
          rw [hK] at hC hbl
          simp only [hK] at hB
          clear hpk hdg hp hJ hV h0 hK
          by_cases hks : K < s.size
          · have hpK := pk_in hks
            have hdK : decide ((K : Int) < (s.size : Int)) = true := by simp; omega
            by_cases h33 : pk s K = 33
            · have q4 : ((s[K].toNat : Int) == 33) = true := by rw [← hpK]; simpa using h33
              rw [h33] at hC
              clear hpK h33
              go_enter Tryz.func80, Tryz.ntmps80
              go_wp2
              go_quiet (refine Calls.quiet_of_same (hD _))
              go_wp2_with (go_at_call 102; refine (hT _ (h.drewN _)).mono ?_; rintro e w1 ⟨rfl, ha, hb⟩; have ⟨d0, d1, d2, d3, d4⟩ := ha)
              go_quiet (fail)
              go_wp2_with (go_at_call 78; refine (hB _ ((ha.drewN _).setI J rfl)).mono ?_; rintro e w2 ⟨rfl, ha2, hb2⟩; have ⟨g0, g1, g2, g3, g4⟩ := ha2)
              go_quiet (fail)
              go_wp2
              go_ret
              rw [hC.out]
              exact ⟨((((((nw _).trans hb).drewN _).setCell _ _).trans hb2).drewN _).setCell _ _, rfl, (ha2.drewN _).setBad true⟩
            · have q4 : ((s[K].toNat : Int) == 33) = false := by rw [← hpK]; simpa using h33
              rw [show (pk s K == 33) = false by simpa using h33] at hC
              clear hpK h33
              go_enter Tryz.func80, Tryz.ntmps80
              go_wp2
              go_quiet (refine Calls.quiet_of_same (hD _))
              go_wp2_with (go_at_call 102; refine (hT _ (h.drewN _)).mono ?_; rintro e w1 ⟨rfl, ha, hb⟩; have ⟨d0, d1, d2, d3, d4⟩ := ha)
              go_quiet (fail)
              go_wp2_with (go_at_call 78; refine (hB _ ((ha.drewN _).setI J rfl)).mono ?_; rintro e w2 ⟨rfl, ha2, hb2⟩; have ⟨g0, g1, g2, g3, g4⟩ := ha2)
              go_quiet (fail)
              go_wp2
              go_ret
              rw [hC.out]
              exact ⟨(((((nw _).trans hb).drewN _).setCell _ _).trans hb2).drewN _, rfl, ha2.drewN _⟩
          · have hdK : decide ((K : Int) < (s.size : Int)) = false := by simp; omega
            rw [pk_out hks] at hC
            go_enter Tryz.func80, Tryz.ntmps80
            go_wp2
            go_quiet (refine Calls.quiet_of_same (hD _))
            go_wp2_with (go_at_call 102; refine (hT _ (h.drewN _)).mono ?_; rintro e w1 ⟨rfl, ha, hb⟩; have ⟨d0, d1, d2, d3, d4⟩ := ha)
            go_quiet (fail)
            go_wp2_with (go_at_call 78; refine (hB _ ((ha.drewN _).setI J rfl)).mono ?_; rintro e w2 ⟨rfl, ha2, hb2⟩; have ⟨g0, g1, g2, g3, g4⟩ := ha2)
            go_quiet (fail)
            go_wp2
            go_ret
            rw [hC.out]
            exact ⟨(((((nw _).trans hb).drewN _).setCell _ _).trans hb2).drewN _, rfl, ha2.drewN _⟩
    · have hdf : isDg (pk s i) = false := by simpa using hdg
      rw [hdf] at hD
      have hC : Hid (rcount s i = (1, i, false)) := by show _ = _; rw [rcount, if_neg hdg]
      clear hpk hdg hp hdf
      go_enter Tryz.func80, Tryz.ntmps80
      go_wp2
      go_quiet (refine Calls.quiet_of_same (hD _))
      go_wp2
      go_ret
      rw [hC.out]
      exact ⟨(Near.refl b w).drewN _, rfl, h.drewN _⟩
  · have hdc : decide ((s.size : Int) ≤ (i : Int)) = true := by simp; omega
    have hh := h
    have hC : Hid (rcount s i = (1, i, false)) := by show _ = _; rw [rcount, if_neg (by rw [pk_out hlt]; decide)]
    go_enter Tryz.func80, Tryz.ntmps80
    go_wp2
    go_quiet (fail)
    go_wp2
    go_ret
    rw [hC.out]
    exact ⟨(Near.refl b w).drewN _, rfl, hh.drewN _⟩

end Go.Proofs.YtiohpcnnpmnjhaaGreatDoor

import Derived.Test.YtiohpcnnpmnjhaaTensM
namespace Go.Proofs.Ytiohpcnnpmnjhaa
open Go.RowKit
set_option linter.unusedVariables false

/-- The reference's number token: as the program's, but for what is far out. -/
def rnumTok (s : ByteArray) (i : Nat) : Option (Int × Nat) :=
  if pk s i = 45 then
    if dg s (i + 1) = i + 1 ∨ 19 < dg s (i + 1) - (i + 1) then none else some (-((tenV s (i + 1) (dg s (i + 1) - (i + 1)) : Nat) : Int), dg s (i + 1))
  else
    if dg s i = i ∨ 19 < dg s i - i then none else some (((tenV s i (dg s i - i) : Nat) : Int), dg s i)

set_option maxHeartbeats 3200000 in
theorem rnumber_any (b : Nat) (s : ByteArray) (i : Nat) (w : World) (h : RAt w b s i false) (hi : i ≤ s.size) (hs : s.size ≤ 1500) :
    Calls Try.prog 53 #[.pointer (some ⟨b, 0, none⟩)] w fun e w' => Near b w w' ∧ ((rnumTok s i = none ∧ e = .returned (.int .i64 0) ∧ RAt w' b s i true) ∨ ∃ z j, rnumTok s i = some (z, j) ∧ e = .returned (.int .i64 z) ∧ RAt w' b s j false) := by
  have ⟨c0, c1, c2, f1, f2⟩ := h
  by_cases hlt : i < s.size
  · have hdc : decide ((i : Int) < (s.size : Int)) = true := by simp; omega
    have hpk := pk_in hlt
    by_cases hn : pk s i = 45
    · have e1 : ((s[i].toNat : Int) == 45) = true := by rw [← hpk]; simpa using hn
      have hd := dg_le s (i + 1) (by omega)
      have hTb := tenV_le s (i + 1) (dg s (i + 1) - (i + 1)) (fun j hj => skip_all (i := i + 1) (by omega) (by omega) (by show i + 1 + j < dg s (i + 1); omega))
      obtain ⟨V, hV'⟩ : ∃ V, tenV s (i + 1) (dg s (i + 1) - (i + 1)) = V := ⟨_, rfl⟩
      obtain ⟨J, hJ⟩ : ∃ J, dg s (i + 1) = J := ⟨_, rfl⟩
      have hV := hV'
      rw [hJ] at hV
      rw [hV'] at hTb
      rw [hJ] at hd
      clear hV' hpk
      have hT : ∀ w, RAt w b s i false → Calls Try.prog 66 #[.pointer (some ⟨b, 0, none⟩), .int .i64 ((i : Int) + 1)] w fun e w' => e = .returned (.tuple #[.int .i64 (V : Int), .int .i64 (J : Int)]) ∧ RAt w' b s i false ∧ Near b w w' := fun w h => by
        have := tens_any b s (i + 1) false i w h (by omega) hs
        rw [hJ, hV] at this
        simpa using this
      by_cases hA : J = (i + 1)
      · have q1 : ((J : Int) == ((i : Int) + 1)) = true := by simp; omega
        go_enter Try.func53, Try.ntmps53
        go_wp2_with (go_at_call 66; refine (hT _ h).mono ?_; rintro e w1 ⟨rfl, ha, hb⟩; have ⟨d0, d1, d2, d3, d4⟩ := ha)
        go_ret
        exact ⟨hb.setCell _ _, .inl ⟨by rw [rnumTok, if_pos hn]; rw [hJ, if_pos (.inl hA)], rfl, ha.setBad true⟩⟩
      by_cases hB : 19 < J - (i + 1)
      · have q1 : ((J : Int) == ((i : Int) + 1)) = false := by simp; omega
        have q2 : 19 < (J : Int) - ((i : Int) + 1) := by omega
        go_enter Try.func53, Try.ntmps53
        go_wp2_with (go_at_call 66; refine (hT _ h).mono ?_; rintro e w1 ⟨rfl, ha, hb⟩; have ⟨d0, d1, d2, d3, d4⟩ := ha)
        go_ret
        exact ⟨hb.setCell _ _, .inl ⟨by rw [rnumTok, if_pos hn]; rw [hJ, if_pos (.inr hB)], rfl, ha.setBad true⟩⟩
      · have q1 : ((J : Int) == ((i : Int) + 1)) = false := by simp; omega
        have q2 : ¬ 19 < (J : Int) - ((i : Int) + 1) := by omega
        go_enter Try.func53, Try.ntmps53
        go_wp2_with (go_at_call 66; refine (hT _ h).mono ?_; rintro e w1 ⟨rfl, ha, hb⟩; have ⟨d0, d1, d2, d3, d4⟩ := ha)
        go_ret
        exact ⟨hb.setCell _ _, .inr ⟨-(V : Int), J, by rw [rnumTok, if_pos hn]; rw [hJ, hV, if_neg (by omega)], rfl, ha.setI J rfl⟩⟩
    · have e1 : ((s[i].toNat : Int) == 45) = false := by rw [← hpk]; simpa using hn
      have hd := dg_le s i (by omega)
      have hTb := tenV_le s i (dg s i - i) (fun j hj => skip_all (i := i) (by omega) (by omega) (by show i + j < dg s i; omega))
      obtain ⟨V, hV'⟩ : ∃ V, tenV s i (dg s i - i) = V := ⟨_, rfl⟩
      obtain ⟨J, hJ⟩ : ∃ J, dg s i = J := ⟨_, rfl⟩
      have hV := hV'
      rw [hJ] at hV
      rw [hV'] at hTb
      rw [hJ] at hd
      clear hV' hpk
      have hT : ∀ w, RAt w b s i false → Calls Try.prog 66 #[.pointer (some ⟨b, 0, none⟩), .int .i64 (i : Int)] w fun e w' => e = .returned (.tuple #[.int .i64 (V : Int), .int .i64 (J : Int)]) ∧ RAt w' b s i false ∧ Near b w w' := fun w h => by
        have := tens_any b s i false i w h (by omega) hs
        rw [hJ, hV] at this
        simpa using this
      by_cases hA : J = i
      · have q1 : ((J : Int) == (i : Int)) = true := by simp; omega
        go_enter Try.func53, Try.ntmps53
        go_wp2_with (go_at_call 66; refine (hT _ h).mono ?_; rintro e w1 ⟨rfl, ha, hb⟩; have ⟨d0, d1, d2, d3, d4⟩ := ha)
        go_ret
        exact ⟨hb.setCell _ _, .inl ⟨by rw [rnumTok, if_neg hn]; rw [hJ, if_pos (.inl hA)], rfl, ha.setBad true⟩⟩
      by_cases hB : 19 < J - i
      · have q1 : ((J : Int) == (i : Int)) = false := by simp; omega
        have q2 : 19 < (J : Int) - (i : Int) := by omega
        go_enter Try.func53, Try.ntmps53
        go_wp2_with (go_at_call 66; refine (hT _ h).mono ?_; rintro e w1 ⟨rfl, ha, hb⟩; have ⟨d0, d1, d2, d3, d4⟩ := ha)
        go_ret
        exact ⟨hb.setCell _ _, .inl ⟨by rw [rnumTok, if_neg hn]; rw [hJ, if_pos (.inr hB)], rfl, ha.setBad true⟩⟩
      · have q1 : ((J : Int) == (i : Int)) = false := by simp; omega
        have q2 : ¬ 19 < (J : Int) - (i : Int) := by omega
        go_enter Try.func53, Try.ntmps53
        go_wp2_with (go_at_call 66; refine (hT _ h).mono ?_; rintro e w1 ⟨rfl, ha, hb⟩; have ⟨d0, d1, d2, d3, d4⟩ := ha)
        go_ret
        exact ⟨hb.setCell _ _, .inr ⟨(V : Int), J, by rw [rnumTok, if_neg hn]; rw [hJ, hV, if_neg (by omega)], rfl, ha.setI J rfl⟩⟩
  · have hdc : decide ((i : Int) < (s.size : Int)) = false := by simp; omega
    have hp := pk_out hlt
    have hJ : dg s i = i := dg_stop (by rw [hp]; decide)
    have hT : ∀ w, RAt w b s i false → Calls Try.prog 66 #[.pointer (some ⟨b, 0, none⟩), .int .i64 (i : Int)] w fun e w' => e = .returned (.tuple #[.int .i64 0, .int .i64 (i : Int)]) ∧ RAt w' b s i false ∧ Near b w w' := fun w h => by
      have := tens_any b s i false i w h (by omega) hs
      rw [hJ, Nat.sub_self, tenV] at this
      simpa using this
    have q1 : ((i : Int) == (i : Int)) = true := by simp
    have htk : rnumTok s i = none := by rw [rnumTok, if_neg (by rw [hp]; decide), if_pos (.inl hJ)]
    clear hJ hp
    go_enter Try.func53, Try.ntmps53
    go_wp2_with (go_at_call 66; refine (hT _ h).mono ?_; rintro e w1 ⟨rfl, ha, hb⟩; have ⟨d0, d1, d2, d3, d4⟩ := ha)
    go_ret
    exact ⟨hb.setCell _ _, .inl ⟨htk, rfl, ha.setBad true⟩⟩

/-- What count answers, the place, whether it is wrong. -/
def rcount (s : ByteArray) (i : Nat) : Int × Nat × Bool :=
  if isDg (pk s i) then
    if pk s i = 48 ∨ 4 < dg s i - i then (0, i, true) else ((tenV s i (dg s i - i) : Nat), bl s (dg s i), pk s (bl s (dg s i)) == 33)
  else (1, i, false)

set_option maxHeartbeats 3200000 in
theorem rcount_any (b : Nat) (s : ByteArray) (i : Nat) (w : World) (h : RAt w b s i false) (hi : i ≤ s.size) (hs : s.size ≤ 1500) :
    Calls Try.prog 54 #[.pointer (some ⟨b, 0, none⟩)] w fun e w' => Near b w w' ∧ e = .returned (.int .i64 (rcount s i).1) ∧ RAt w' b s (rcount s i).2.1 (rcount s i).2.2 := by
  have ⟨c0, c1, c2, f1, f2⟩ := h
  by_cases hlt : i < s.size
  · have hpk := pk_in hlt
    have hp := pk_bd s i
    have hdc : decide ((s.size : Int) ≤ (i : Int)) = false := by simp; omega
    have hD : ∀ w, Calls Try.prog 67 #[.int .u8 (s[i].toNat : Int)] w fun e w' => e = .returned (.bool (isDg (pk s i))) ∧ w' = w := fun w => by
      have := rdigit_any (pk s i) hp.1 hp.2 w
      rw [← hpk]; exact this
    by_cases hdg : isDg (pk s i) = true
    · rw [hdg] at hD
      have hd := dg_le s i hi
      have hgt : i < dg s i := by
        have h1 := dg_go hlt hdg
        have h2 := dg_ge s (i + 1)
        omega
      have hTb := tenV_le s i (dg s i - i) (fun j hj => skip_all (i := i) (by omega) (by omega) (by show i + j < dg s i; omega))
      have hT := fun (w : World) (h : RAt w b s i false) => tens_any b s i false i w h hi hs
      obtain ⟨V, hV⟩ : ∃ V, tenV s i (dg s i - i) = V := ⟨_, rfl⟩
      obtain ⟨J, hJ⟩ : ∃ J, dg s i = J := ⟨_, rfl⟩
      simp only [hV] at hT
      rw [hV] at hTb
      simp only [hJ] at hT
      rw [hJ] at hd hgt hV
      have nw := fun n => (Near.refl b w).drewN n
      by_cases h4 : 4 < J - i
      · have q2 : decide (4 < (J : Int) - (i : Int)) = true := by simp; omega
        have qw : IntKind.i64.wrap ((J : Int) - (i : Int)) = (J : Int) - (i : Int) := by simp only [IntKind.wrap, IntKind.bits, IntKind.signed]; simp; omega
        have hC : Hid (rcount s i = (0, i, true)) := by show _ = _; rw [rcount, if_pos hdg, hJ, if_pos (.inr h4)]
        clear hpk hdg hp hJ hV
        go_enter Try.func54, Try.ntmps54
        go_wp2
        go_quiet (refine Calls.quiet_of_same (hD _))
        go_wp2_with (go_at_call 66; refine (hT _ (h.drewN _)).mono ?_; rintro e w1 ⟨rfl, ha, hb⟩; have ⟨d0, d1, d2, d3, d4⟩ := ha)
        go_quiet (fail)
        go_wp2
        go_ret
        rw [hC.out]
        exact ⟨(((nw _).trans hb).drewN _).setCell _ _, rfl, (ha.drewN _).setBad true⟩
      · have q2 : decide (4 < (J : Int) - (i : Int)) = false := by simp; omega
        have qw : IntKind.i64.wrap ((J : Int) - (i : Int)) = (J : Int) - (i : Int) := by simp only [IntKind.wrap, IntKind.bits, IntKind.signed]; simp; omega
        by_cases h0 : pk s i = 48
        · have q3 : ((s[i].toNat : Int) == 48) = true := by rw [← hpk]; simpa using h0
          have hC : Hid (rcount s i = (0, i, true)) := by show _ = _; rw [rcount, if_pos hdg, hJ, if_pos (.inl h0)]
          clear hpk hdg hp hJ hV h0
          go_enter Try.func54, Try.ntmps54
          go_wp2
          go_quiet (refine Calls.quiet_of_same (hD _))
          go_wp2_with (go_at_call 66; refine (hT _ (h.drewN _)).mono ?_; rintro e w1 ⟨rfl, ha, hb⟩; have ⟨d0, d1, d2, d3, d4⟩ := ha)
          go_quiet (fail)
          go_wp2
          go_ret
          rw [hC.out]
          exact ⟨(((nw _).trans hb).drewN _).setCell _ _, rfl, (ha.drewN _).setBad true⟩
        · have q3 : ((s[i].toNat : Int) == 48) = false := by rw [← hpk]; simpa using h0
          have hbl := bl_le s J hd.2
          have hC : Hid (rcount s i = (((V : Nat) : Int), bl s J, pk s (bl s J) == 33)) := by show _ = _; rw [rcount, if_pos hdg, hJ, if_neg (by simp; exact ⟨h0, by omega⟩), hV]
          have hB := fun (w : World) (h : RAt w b s J false) => rblanks_any b s J false w h hd.2 hs
          obtain ⟨K, hK⟩ : ∃ K, bl s J = K := ⟨_, rfl⟩
          rw [hK] at hC hbl
          simp only [hK] at hB
          clear hpk hdg hp hJ hV h0 hK
          by_cases hks : K < s.size
          · have hpK := pk_in hks
            have hdK : decide ((K : Int) < (s.size : Int)) = true := by simp; omega
            by_cases h33 : pk s K = 33
            · have q4 : ((s[K].toNat : Int) == 33) = true := by rw [← hpK]; simpa using h33
              rw [h33] at hC
              clear hpK h33
              go_enter Try.func54, Try.ntmps54
              go_wp2
              go_quiet (refine Calls.quiet_of_same (hD _))
              go_wp2_with (go_at_call 66; refine (hT _ (h.drewN _)).mono ?_; rintro e w1 ⟨rfl, ha, hb⟩; have ⟨d0, d1, d2, d3, d4⟩ := ha)
              go_quiet (fail)
              go_wp2_with (go_at_call 52; refine (hB _ ((ha.drewN _).setI J rfl)).mono ?_; rintro e w2 ⟨rfl, ha2, hb2⟩; have ⟨g0, g1, g2, g3, g4⟩ := ha2)
              go_quiet (fail)
              go_wp2
              go_ret
              rw [hC.out]
              exact ⟨((((((nw _).trans hb).drewN _).setCell _ _).trans hb2).drewN _).setCell _ _, rfl, (ha2.drewN _).setBad true⟩
            · have q4 : ((s[K].toNat : Int) == 33) = false := by rw [← hpK]; simpa using h33
              rw [show (pk s K == 33) = false by simpa using h33] at hC
              clear hpK h33
              go_enter Try.func54, Try.ntmps54
              go_wp2
              go_quiet (refine Calls.quiet_of_same (hD _))
              go_wp2_with (go_at_call 66; refine (hT _ (h.drewN _)).mono ?_; rintro e w1 ⟨rfl, ha, hb⟩; have ⟨d0, d1, d2, d3, d4⟩ := ha)
              go_quiet (fail)
              go_wp2_with (go_at_call 52; refine (hB _ ((ha.drewN _).setI J rfl)).mono ?_; rintro e w2 ⟨rfl, ha2, hb2⟩; have ⟨g0, g1, g2, g3, g4⟩ := ha2)
              go_quiet (fail)
              go_wp2
              go_ret
              rw [hC.out]
              exact ⟨(((((nw _).trans hb).drewN _).setCell _ _).trans hb2).drewN _, rfl, ha2.drewN _⟩
          · have hdK : decide ((K : Int) < (s.size : Int)) = false := by simp; omega
            rw [pk_out hks] at hC
            go_enter Try.func54, Try.ntmps54
            go_wp2
            go_quiet (refine Calls.quiet_of_same (hD _))
            go_wp2_with (go_at_call 66; refine (hT _ (h.drewN _)).mono ?_; rintro e w1 ⟨rfl, ha, hb⟩; have ⟨d0, d1, d2, d3, d4⟩ := ha)
            go_quiet (fail)
            go_wp2_with (go_at_call 52; refine (hB _ ((ha.drewN _).setI J rfl)).mono ?_; rintro e w2 ⟨rfl, ha2, hb2⟩; have ⟨g0, g1, g2, g3, g4⟩ := ha2)
            go_quiet (fail)
            go_wp2
            go_ret
            rw [hC.out]
            exact ⟨(((((nw _).trans hb).drewN _).setCell _ _).trans hb2).drewN _, rfl, ha2.drewN _⟩
    · have hdf : isDg (pk s i) = false := by simpa using hdg
      rw [hdf] at hD
      have hC : Hid (rcount s i = (1, i, false)) := by show _ = _; rw [rcount, if_neg hdg]
      clear hpk hdg hp hdf
      go_enter Try.func54, Try.ntmps54
      go_wp2
      go_quiet (refine Calls.quiet_of_same (hD _))
      go_wp2
      go_ret
      rw [hC.out]
      exact ⟨(Near.refl b w).drewN _, rfl, h.drewN _⟩
  · have hdc : decide ((s.size : Int) ≤ (i : Int)) = true := by simp; omega
    have hh := h
    have hC : Hid (rcount s i = (1, i, false)) := by show _ = _; rw [rcount, if_neg (by rw [pk_out hlt]; decide)]
    go_enter Try.func54, Try.ntmps54
    go_wp2
    go_quiet (fail)
    go_wp2
    go_ret
    rw [hC.out]
    exact ⟨(Near.refl b w).drewN _, rfl, hh.drewN _⟩

end Go.Proofs.Ytiohpcnnpmnjhaa

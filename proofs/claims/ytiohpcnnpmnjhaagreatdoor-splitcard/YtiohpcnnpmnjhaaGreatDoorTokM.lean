import Derived.Test.YtiohpcnnpmnjhaaGreatDoorReader
import Derived.Deep.LoopGhost
import Derived.Deep.RegionLaw
import Derived.Laws.AppendOwn
import Derived.RegionTactic
import Derived.OwnWalk
import Derived.RangeFuncBox
namespace Go.Proofs.YtiohpcnnpmnjhaaGreatDoor
open Go.RowKit
set_option linter.unusedVariables false

set_option maxHeartbeats 800000 in
theorem takeBlanks_any (b : Nat) (s : ByteArray) (k : Int) (i0 : Nat) (w : World) (h : At w b s k i0) (hi0 : i0 ≤ s.size) (hs : s.size ≤ 1500) :
    Calls Tryz.prog 117 #[.pointer (some ⟨b, 0, none⟩)] w fun e w' => e = .returned (.bool (decide (i0 < bl s i0))) ∧ At w' b s k (bl s i0) ∧ Near b w w' := by
  have ⟨c0, c1, c2, fz⟩ := h
  go_enter Tryz.func117, Tryz.ntmps117
  go_wp2
  go_loopg [] (s.size - i0) (fun g wr => ∃ i : Nat, i0 ≤ i ∧ i ≤ s.size ∧ g = s.size - i ∧ At wr b s k i ∧ Near b w wr ∧ Hid (bl s i = bl s i0))
  case atStart => exact ⟨i0, Nat.le_refl _, hi0, rfl, h, Near.refl _ _, rfl⟩
  case round =>
    obtain ⟨i, hi, hi', rfl, ha, hb, hr⟩ := hrel
    have ⟨d0, d1, d2, d3⟩ := ha
    by_cases h1 : pk s i = 32
    · have hlt := lt_of_pk (s := s) (i := i) (by omega)
      have hg := bl_go hlt (by unfold isBl; simp [h1])
      have HG : Hid (bl s (i + 1) = bl s i0) := hg.symm.trans hr.out
      clear hg
      go_wp2_with (go_at_call_of 114 (Value.int IntKind.u8 32); refine (take_hit b s k i 32 _ ha hi' hs h1).mono ?_; rintro e w1 ⟨rfl, ha1, hb1⟩)
      go_roundg (s.size - (i + 1))
      case measure => omega
      case rel => exact ⟨i + 1, by omega, by omega, rfl, ha1, hb.trans hb1, HG.out⟩
    · have h1' : (pk s i == 32) = false := by simpa using h1
      by_cases h2 : pk s i = 10
      · have hlt := lt_of_pk (s := s) (i := i) (by omega)
        have hg := bl_go hlt (by unfold isBl; simp [h2])
        have HG : Hid (bl s (i + 1) = bl s i0) := hg.symm.trans hr.out
        clear hg
        go_wp2_with (first
          | (go_at_call_of 114 (Value.int IntKind.u8 32); refine (take_miss b s k i 32 _ ha hi' hs h1').mono ?_; rintro e w1 ⟨rfl, n1, rfl⟩)
          | (go_at_call_of 114 (Value.int IntKind.u8 10); refine (take_hit b s k i 10 _ (ha.drewN _) hi' hs h2).mono ?_; rintro e w2 ⟨rfl, ha1, hb1⟩))
        go_roundg (s.size - (i + 1))
        case measure => omega
        case rel => exact ⟨i + 1, by omega, by omega, rfl, ha1, (hb.drewN _).trans hb1, HG.out⟩
      · have h2' : (pk s i == 10) = false := by simpa using h2
        have hst := bl_stop (s := s) (i := i) (by unfold isBl; simp [h1', h2'])
        have HS : Hid (i = bl s i0) := hst.symm.trans hr.out
        clear hst hr
        go_wp2_with (first
          | (go_at_call_of 114 (Value.int IntKind.u8 32); refine (take_miss b s k i 32 _ ha hi' hs h1').mono ?_; rintro e w1 ⟨rfl, n1, rfl⟩)
          | (go_at_call_of 114 (Value.int IntKind.u8 10); refine (take_miss b s k i 10 _ (ha.drewN _) hi' hs h2').mono ?_; rintro e w2 ⟨rfl, n2, rfl⟩))
        go_ret
        refine ⟨ret_bool ?_, ?_, hb.drewN _⟩
        · rw [← HS.out]
        · rw [← HS.out]; exact ha.drewN _

set_option maxHeartbeats 800000 in
theorem takeDigits_any (b : Nat) (s : ByteArray) (k : Int) (i0 : Nat) (w : World) (h : At w b s k i0) (hi0 : i0 ≤ s.size) (hs : s.size ≤ 1500) :
    Calls Tryz.prog 132 #[.pointer (some ⟨b, 0, none⟩)] w fun e w' => e = .returned (.string (s.extract i0 (dg s i0))) ∧ At w' b s k (dg s i0) ∧ Near b w w' := by
  have ⟨c0, c1, c2, fz⟩ := h
  go_enter Tryz.func132, Tryz.ntmps132
  go_wp2
  go_loopg [] (s.size - i0) (fun g wr => ∃ i : Nat, i0 ≤ i ∧ i ≤ s.size ∧ g = s.size - i ∧ At wr b s k i ∧ Near b w wr ∧ Hid (dg s i = dg s i0))
  case atStart => exact ⟨i0, Nat.le_refl _, hi0, rfl, h, Near.refl _ _, rfl⟩
  case round =>
    obtain ⟨i, hi, hi', rfl, ha, hb, hr⟩ := hrel
    have ⟨d0, d1, d2, d3⟩ := ha
    have hpb := pk_bd s i
    cases h1 : isDg (pk s i) with
    | true =>
      have hlt := lt_of_pk (isDg_pos h1)
      have hg := dg_go hlt h1
      have HG : Hid (dg s (i + 1) = dg s i0) := hg.symm.trans hr.out
      clear hg
      have hd := isDigit_any (pk s i) hpb.1 hpb.2
      rw [h1] at hd
      go_wp2_with (first
        | (go_at_call 116; refine (peek_any b s k i _ ha hi' hs).mono ?_; rintro e w1 ⟨rfl, n1, rfl⟩)
        | (go_at_call 134; refine (hd _).mono ?_; rintro e w2 ⟨rfl, rfl⟩))
      go_roundg (s.size - (i + 1))
      case measure => omega
      case rel => exact ⟨i + 1, by omega, by omega, rfl, (ha.drewN _).step, (hb.drewN _).setCell _ _, HG.out⟩
    | false =>
      have hst := dg_stop h1
      have HS : Hid (i = dg s i0) := hst.symm.trans hr.out
      clear hst hr
      have hd := isDigit_any (pk s i) hpb.1 hpb.2
      rw [h1] at hd
      go_wp2_with (first
        | (go_at_call 116; refine (peek_any b s k i _ ha hi' hs).mono ?_; rintro e w1 ⟨rfl, n1, rfl⟩)
        | (go_at_call 134; refine (hd _).mono ?_; rintro e w2 ⟨rfl, rfl⟩))
      go_quiet (fail)
      go_wp2
      go_ret
      refine ⟨by rw [← HS.out]; rfl, by rw [← HS.out]; exact (ha.drewN _).drewN _, (hb.drewN _).drewN _⟩

theorem pk_extract {s : ByteArray} {i j k : Nat} (h : i + k < j) (hj : j ≤ s.size) : pk (s.extract i j) k = pk s (i + k) := by
  have h1 : k < (s.extract i j).size := by rw [ByteArray.size_extract]; omega
  rw [pk_in h1, pk_in (show i + k < s.size by omega)]
  simp [ByteArray.getElem_extract]

theorem dv_extract {s : ByteArray} {i j : Nat} (hj : j ≤ s.size) : ∀ n, i + n ≤ j → dv (s.extract i j) 0 n = dv s i n := by
  intro n
  induction n with
  | zero => intro _; rfl
  | succ n ih => intro h; rw [dv, dv, ih (by omega), Nat.zero_add, pk_extract (by omega) hj]

theorem pow_le19 {k : Nat} (h : k ≤ 18) : 10 ^ k ≤ 1000000000000000000 := Nat.pow_le_pow_right (n := 10) (by omega) h

set_option maxHeartbeats 800000 in
theorem value_any (t : ByteArray) (ht : t.size ≤ 19) (hd : ∀ k, k < t.size → isDg (pk t k) = true) (w : World) :
    Calls Tryz.prog 133 #[.string t] w fun e w' => e = .returned (.int .u64 (dv t 0 t.size)) ∧ w' = w := by
  go_enter Tryz.func133, Tryz.ntmps133
  go_wp2
  go_loop [3, 7] (fun n i => ∃ k : Nat, k ≤ t.size ∧ i = .int .i64 k ∧ n = .int .u64 (dv t 0 k)) (fun _ i => t.size - (intOf i).toNat)
  case atStart => exact ⟨0, Nat.zero_le _, rfl, rfl⟩
  case round =>
    obtain ⟨k, hk, rfl, rfl⟩ := hrel
    by_cases hlt : k < t.size
    · have hb : dv t 0 k < 10 ^ k := dv_lt t 0 k (fun j hj => by rw [Nat.zero_add]; exact hd j (by omega))
      have hb2 := pow_le19 (k := k) (by omega)
      have hb3 : ((dv t 0 k : Nat) : Int) ≤ 1000000000000000000 := by omega
      have hb4 : (0 : Int) ≤ ((dv t 0 k : Nat) : Int) := by omega
      have hdk := isDg_iff.1 (hd k hlt)
      have hp := pk_in hlt
      have hp1 : 48 ≤ (t[k].toNat : Int) := by omega
      have hp2 : (t[k].toNat : Int) ≤ 57 := by omega
      have HV : Hid (((dv t 0 (k + 1) : Nat) : Int) = (dv t 0 k : Int) * 10 + ((t[k].toNat : Int) - 48)) := by
        show ((dv t 0 (k + 1) : Nat) : Int) = (dv t 0 k : Int) * 10 + ((t[k].toNat : Int) - 48)
        rw [dv, Nat.zero_add, hp]; omega
      clear hdk hp hb hb2
      go_wp2
      go_round
      case rel => exact ⟨k + 1, by omega, by go_num, by rw [HV.out]⟩
      case measure => simp [intOf]; omega
    · have hk' : k = t.size := by omega
      subst hk'
      go_wp2
      go_ret
      exact ⟨rfl, rfl⟩

end Go.Proofs.YtiohpcnnpmnjhaaGreatDoor

namespace Go.Proofs.YtiohpcnnpmnjhaaGreatDoor
open Go.RowKit
set_option linter.unusedVariables false

/-- How far out a cell may live. -/
abbrev MC : Int := 2000000000000000000

/-- A number brought to the next one beyond the limit. -/
def capP (z : Int) : Int := if MC + 1 < z then MC + 1 else if z < -(MC + 1) then -(MC + 1) else z

theorem digits_t {s : ByteArray} {i : Nat} (hi : i ≤ s.size) : (s.extract i (dg s i)).size = dg s i - i ∧ (∀ k, k < (s.extract i (dg s i)).size → isDg (pk (s.extract i (dg s i)) k) = true) ∧ dv (s.extract i (dg s i)) 0 (s.extract i (dg s i)).size = dv s i (dg s i - i) := by
  have h := dg_le s i hi
  have hz : (s.extract i (dg s i)).size = dg s i - i := by rw [ByteArray.size_extract]; omega
  refine ⟨hz, fun k hk => ?_, ?_⟩
  · rw [hz] at hk
    rw [pk_extract (by omega) h.2]
    exact skip_all hi (by omega) (by show i + k < dg s i; omega)
  · rw [hz, dv_extract h.2 _ (by omega)]

set_option maxHeartbeats 800000 in
theorem readNumber_pos (b : Nat) (s : ByteArray) (k : Int) (i : Nat) (w : World) (h : At w b s k i) (hi : i ≤ s.size) (hs : s.size ≤ 1500) (hn : (pk s i == 45) = false) (h1 : 0 < dg s i - i) (h2 : dg s i - i ≤ 19) :
    Calls Tryz.prog 118 #[.pointer (some ⟨b, 0, none⟩)] w fun e w' => e = .returned (.int .i64 (capP ((dv s i (dg s i - i) : Nat) : Int))) ∧ At w' b s k (dg s i) ∧ Near b w w' := by
  have ⟨c0, c1, c2, fz⟩ := h
  have hT := fun w1 (a1 : At w1 b s k i) => takeDigits_any b s k i w1 a1 hi hs
  obtain ⟨t1, t2, t3⟩ := digits_t hi
  obtain ⟨t, ht⟩ : ∃ t, s.extract i (dg s i) = t := ⟨_, rfl⟩
  rw [ht] at t1 t2 t3
  simp only [ht] at hT
  have hV := value_any t (by omega) t2
  rw [t3] at hV
  have hlt := dv_lt s i (dg s i - i) (fun j hj => skip_all hi (by omega) (by show i + j < dg s i; omega))
  have hpw : 10 ^ (dg s i - i) ≤ 10000000000000000000 := Nat.pow_le_pow_right (n := 10) (by omega) h2
  obtain ⟨d, hd⟩ : ∃ d : Nat, dv s i (dg s i - i) = d := ⟨_, rfl⟩
  obtain ⟨j, hj⟩ : ∃ j, dg s i = j := ⟨_, rfl⟩
  rw [hd] at hV hlt ⊢
  rw [hj] at h1 h2 hlt hpw t1 ⊢
  simp only [hj] at hT
  clear hd hj t2 t3 ht
  have z0 : ¬ (t.size : Int) = 0 := by omega
  have z1 : ((t.size : Int) == 0) = false := by simpa using z0
  have z2 : (t.size : Int) ≤ 19 := by omega
  clear t1 z0
  go_enter Tryz.func118, Tryz.ntmps118
  go_wp2_with (first
    | (go_at_call 114; refine (take_miss b s k i 45 _ h hi hs hn).mono ?_; rintro e w1 ⟨rfl, n1, rfl⟩)
    | (go_at_call 132; refine (hT _ (h.drewN _)).mono ?_; rintro e w2 ⟨rfl, ha, hb⟩)
    | (go_at_call 133; refine (hV _).mono ?_; rintro e w3 ⟨rfl, rfl⟩))
  all_goals
    go_ret
    exact ⟨ret_int (by unfold capP MC; split <;> (try split) <;> omega), ha, ((Near.refl b w).drewN n1).trans hb⟩

set_option maxHeartbeats 800000 in
theorem readNumber_neg (b : Nat) (s : ByteArray) (k : Int) (i : Nat) (w : World) (h : At w b s k i) (hi : i ≤ s.size) (hs : s.size ≤ 1500) (hn : pk s i = 45) (h1 : 0 < dg s (i + 1) - (i + 1)) (h2 : dg s (i + 1) - (i + 1) ≤ 19) :
    Calls Tryz.prog 118 #[.pointer (some ⟨b, 0, none⟩)] w fun e w' => e = .returned (.int .i64 (capP (-((dv s (i + 1) (dg s (i + 1) - (i + 1)) : Nat) : Int)))) ∧ At w' b s k (dg s (i + 1)) ∧ Near b w w' := by
  have ⟨c0, c1, c2, fz⟩ := h
  have hi' := hi
  have hi : i + 1 ≤ s.size := lt_of_pk (by omega)
  have hT := fun w1 (a1 : At w1 b s k (i + 1)) => takeDigits_any b s k (i + 1) w1 a1 hi hs
  obtain ⟨t1, t2, t3⟩ := digits_t hi
  obtain ⟨t, ht⟩ : ∃ t, s.extract (i + 1) (dg s (i + 1)) = t := ⟨_, rfl⟩
  rw [ht] at t1 t2 t3
  simp only [ht] at hT
  have hV := value_any t (by omega) t2
  rw [t3] at hV
  have hlt := dv_lt s (i + 1) (dg s (i + 1) - (i + 1)) (fun j hj => skip_all hi (by omega) (by show i + 1 + j < dg s (i + 1); omega))
  have hpw : 10 ^ (dg s (i + 1) - (i + 1)) ≤ 10000000000000000000 := Nat.pow_le_pow_right (n := 10) (by omega) h2
  obtain ⟨d, hd⟩ : ∃ d : Nat, dv s (i + 1) (dg s (i + 1) - (i + 1)) = d := ⟨_, rfl⟩
  obtain ⟨j, hj⟩ : ∃ j, dg s (i + 1) = j := ⟨_, rfl⟩
  rw [hd] at hV hlt ⊢
  rw [hj] at h1 h2 hlt hpw t1 ⊢
  simp only [hj] at hT
  clear hd hj t2 t3 ht
  have z0 : ¬ (t.size : Int) = 0 := by omega
  have z1 : ((t.size : Int) == 0) = false := by simpa using z0
  have z2 : (t.size : Int) ≤ 19 := by omega
  clear t1 z0
  go_enter Tryz.func118, Tryz.ntmps118
  go_wp2_with (first
    | (go_at_call 114; refine (take_hit b s k i 45 _ h hi' hs hn).mono ?_; rintro e w1 ⟨rfl, a1, n1⟩)
    | (go_at_call 132; refine (hT _ a1).mono ?_; rintro e w2 ⟨rfl, ha, hb⟩)
    | (go_at_call 133; refine (hV _).mono ?_; rintro e w3 ⟨rfl, rfl⟩))
  all_goals
    go_ret
    exact ⟨ret_int (by unfold capP MC; split <;> (try split) <;> omega), ha, n1.trans hb⟩

set_option maxHeartbeats 800000 in
theorem readNumber_badPosNone (b : Nat) (s : ByteArray) (k : Int) (i : Nat) (w : World) (h : At w b s k i) (hi : i ≤ s.size) (hs : s.size ≤ 1500) (hn : (pk s i == 45) = false) (h1 : dg s i = i) :
    Calls Tryz.prog 118 #[.pointer (some ⟨b, 0, none⟩)] w fun e w' => e = .panicked (refusal k i) ∧ Near b w w' := by
  have ⟨c0, c1, c2, fz⟩ := h
  have hT := fun w1 (a1 : At w1 b s k i) => takeDigits_any b s k i w1 a1 hi hs
  obtain ⟨t1, t2, t3⟩ := digits_t hi
  obtain ⟨t, ht⟩ : ∃ t, s.extract i (dg s i) = t := ⟨_, rfl⟩
  rw [ht] at t1 t2 t3
  simp only [ht] at hT
  obtain ⟨j, hj⟩ : ∃ j, dg s i = j := ⟨_, rfl⟩
  rw [hj] at h1 t1
  simp only [hj] at hT
  clear hj t2 t3 ht
  have z1 : t.size = 0 := by omega
  clear t1
  go_enter Tryz.func118, Tryz.ntmps118
  go_wp2_with (first
    | (go_at_call 114; refine (take_miss b s k i 45 _ h hi hs hn).mono ?_; rintro e w1 ⟨rfl, n1, rfl⟩)
    | (go_at_call 132; refine (hT _ (h.drewN _)).mono ?_; rintro e w2 ⟨rfl, ha, hb⟩; have e2 := ha.c2)
    | (go_at_call 71; refine (giveUp_any _ _ _).mono ?_; rintro e w3 ⟨rfl, rfl⟩))
  exact ⟨rfl, rfl, ((Near.refl b w).drewN n1).trans hb⟩

set_option maxHeartbeats 800000 in
theorem readNumber_badPosMany (b : Nat) (s : ByteArray) (k : Int) (i : Nat) (w : World) (h : At w b s k i) (hi : i ≤ s.size) (hs : s.size ≤ 1500) (hn : (pk s i == 45) = false) (h1 : 19 < dg s i - i) :
    Calls Tryz.prog 118 #[.pointer (some ⟨b, 0, none⟩)] w fun e w' => e = .panicked (refusal k i) ∧ Near b w w' := by
  have ⟨c0, c1, c2, fz⟩ := h
  have hT := fun w1 (a1 : At w1 b s k i) => takeDigits_any b s k i w1 a1 hi hs
  obtain ⟨t1, t2, t3⟩ := digits_t hi
  obtain ⟨t, ht⟩ : ∃ t, s.extract i (dg s i) = t := ⟨_, rfl⟩
  rw [ht] at t1 t2 t3
  simp only [ht] at hT
  obtain ⟨j, hj⟩ : ∃ j, dg s i = j := ⟨_, rfl⟩
  rw [hj] at h1 t1
  simp only [hj] at hT
  clear hj t2 t3 ht
  have z0 : ¬ (t.size : Int) = 0 := by omega
  have z1 : ((t.size : Int) == 0) = false := by simpa using z0
  have z2 : 19 < (t.size : Int) := by omega
  clear t1 z0
  go_enter Tryz.func118, Tryz.ntmps118
  go_wp2_with (first
    | (go_at_call 114; refine (take_miss b s k i 45 _ h hi hs hn).mono ?_; rintro e w1 ⟨rfl, n1, rfl⟩)
    | (go_at_call 132; refine (hT _ (h.drewN _)).mono ?_; rintro e w2 ⟨rfl, ha, hb⟩; have e2 := ha.c2)
    | (go_at_call 71; refine (giveUp_any _ _ _).mono ?_; rintro e w3 ⟨rfl, rfl⟩))
  exact ⟨rfl, rfl, ((Near.refl b w).drewN n1).trans hb⟩

set_option maxHeartbeats 800000 in
theorem readNumber_badNegNone (b : Nat) (s : ByteArray) (k : Int) (i : Nat) (w : World) (h : At w b s k i) (hi : i ≤ s.size) (hs : s.size ≤ 1500) (hn : pk s i = 45) (h1 : dg s (i + 1) = i + 1) :
    Calls Tryz.prog 118 #[.pointer (some ⟨b, 0, none⟩)] w fun e w' => e = .panicked (refusal k i) ∧ Near b w w' := by
  have ⟨c0, c1, c2, fz⟩ := h
  have hi' := hi
  have hi : i + 1 ≤ s.size := lt_of_pk (by omega)
  have hT := fun w1 (a1 : At w1 b s k (i + 1)) => takeDigits_any b s k (i + 1) w1 a1 hi hs
  obtain ⟨t1, t2, t3⟩ := digits_t hi
  obtain ⟨t, ht⟩ : ∃ t, s.extract (i + 1) (dg s (i + 1)) = t := ⟨_, rfl⟩
  rw [ht] at t1 t2 t3
  simp only [ht] at hT
  obtain ⟨j, hj⟩ : ∃ j, dg s (i + 1) = j := ⟨_, rfl⟩
  rw [hj] at h1 t1
  simp only [hj] at hT
  clear hj t2 t3 ht
  have z1 : t.size = 0 := by omega
  clear t1
  go_enter Tryz.func118, Tryz.ntmps118
  go_wp2_with (first
    | (go_at_call 114; refine (take_hit b s k i 45 _ h hi' hs hn).mono ?_; rintro e w1 ⟨rfl, a1, n1⟩)
    | (go_at_call 132; refine (hT _ a1).mono ?_; rintro e w2 ⟨rfl, ha, hb⟩; have e2 := ha.c2)
    | (go_at_call 71; refine (giveUp_any _ _ _).mono ?_; rintro e w3 ⟨rfl, rfl⟩))
  exact ⟨rfl, rfl, n1.trans hb⟩

set_option maxHeartbeats 800000 in
theorem readNumber_badNegMany (b : Nat) (s : ByteArray) (k : Int) (i : Nat) (w : World) (h : At w b s k i) (hi : i ≤ s.size) (hs : s.size ≤ 1500) (hn : pk s i = 45) (h1 : 19 < dg s (i + 1) - (i + 1)) :
    Calls Tryz.prog 118 #[.pointer (some ⟨b, 0, none⟩)] w fun e w' => e = .panicked (refusal k i) ∧ Near b w w' := by
  have ⟨c0, c1, c2, fz⟩ := h
  have hi' := hi
  have hi : i + 1 ≤ s.size := lt_of_pk (by omega)
  have hT := fun w1 (a1 : At w1 b s k (i + 1)) => takeDigits_any b s k (i + 1) w1 a1 hi hs
  obtain ⟨t1, t2, t3⟩ := digits_t hi
  obtain ⟨t, ht⟩ : ∃ t, s.extract (i + 1) (dg s (i + 1)) = t := ⟨_, rfl⟩
  rw [ht] at t1 t2 t3
  simp only [ht] at hT
  obtain ⟨j, hj⟩ : ∃ j, dg s (i + 1) = j := ⟨_, rfl⟩
  rw [hj] at h1 t1
  simp only [hj] at hT
  clear hj t2 t3 ht
  have z0 : ¬ (t.size : Int) = 0 := by omega
  have z1 : ((t.size : Int) == 0) = false := by simpa using z0
  have z2 : 19 < (t.size : Int) := by omega
  clear t1 z0
  go_enter Tryz.func118, Tryz.ntmps118
  go_wp2_with (first
    | (go_at_call 114; refine (take_hit b s k i 45 _ h hi' hs hn).mono ?_; rintro e w1 ⟨rfl, a1, n1⟩)
    | (go_at_call 132; refine (hT _ a1).mono ?_; rintro e w2 ⟨rfl, ha, hb⟩; have e2 := ha.c2)
    | (go_at_call 71; refine (giveUp_any _ _ _).mono ?_; rintro e w3 ⟨rfl, rfl⟩))
  exact ⟨rfl, rfl, n1.trans hb⟩

/-- A number is read: its value, brought to the limit; or it is refused at its first byte. -/
theorem readNumber_some (b : Nat) (s : ByteArray) (k : Int) (i : Nat) (w : World) (h : At w b s k i) (hi : i ≤ s.size) (hs : s.size ≤ 1500) (z : Int) (j : Nat) (hz : numTok s i = some (z, j)) :
    Calls Tryz.prog 118 #[.pointer (some ⟨b, 0, none⟩)] w fun e w' => e = .returned (.int .i64 (capP z)) ∧ At w' b s k j ∧ Near b w w' := by
  unfold numTok at hz
  split at hz
  · rename_i hn
    split at hz
    · cases hz
    · rename_i hc
      simp only [Option.some.injEq, Prod.mk.injEq] at hz
      obtain ⟨rfl, rfl⟩ := hz
      have hl := dg_ge s (i + 1)
      exact readNumber_neg b s k i w h hi hs hn (by omega) (by omega)
  · rename_i hn
    split at hz
    · cases hz
    · rename_i hc
      simp only [Option.some.injEq, Prod.mk.injEq] at hz
      obtain ⟨rfl, rfl⟩ := hz
      have hl := dg_ge s i
      exact readNumber_pos b s k i w h hi hs (by simpa using hn) (by omega) (by omega)

theorem readNumber_none (b : Nat) (s : ByteArray) (k : Int) (i : Nat) (w : World) (h : At w b s k i) (hi : i ≤ s.size) (hs : s.size ≤ 1500) (hz : numTok s i = none) :
    Calls Tryz.prog 118 #[.pointer (some ⟨b, 0, none⟩)] w fun e w' => e = .panicked (refusal k i) ∧ Near b w w' := by
  unfold numTok at hz
  split at hz
  · rename_i hn
    split at hz
    · rename_i hc
      rcases hc with hc | hc
      · exact readNumber_badNegNone b s k i w h hi hs hn hc
      · exact readNumber_badNegMany b s k i w h hi hs hn hc
    · cases hz
  · rename_i hn
    split at hz
    · rename_i hc
      rcases hc with hc | hc
      · exact readNumber_badPosNone b s k i w h hi hs (by simpa using hn) hc
      · exact readNumber_badPosMany b s k i w h hi hs (by simpa using hn) hc
    · cases hz

end Go.Proofs.YtiohpcnnpmnjhaaGreatDoor

namespace Go.Proofs.YtiohpcnnpmnjhaaGreatDoor
open Go.RowKit
set_option linter.unusedVariables false

set_option maxHeartbeats 800000 in
theorem readCount_good (b : Nat) (s : ByteArray) (k : Int) (i : Nat) (w : World) (h : At w b s k i) (hi : i ≤ s.size) (hs : s.size ≤ 1500) (hd : isDg (pk s i) = true) (h0 : ¬ pk s i = 48) (h4 : dg s i - i ≤ 4) :
    Calls Tryz.prog 135 #[.pointer (some ⟨b, 0, none⟩)] w fun e w' => e = .returned (.int .i64 ((dv s i (dg s i - i) : Nat) : Int)) ∧ At w' b s k (dg s i) ∧ Near b w w' := by
  have ⟨c0, c1, c2, fz⟩ := h
  have hlt0 := lt_of_pk (isDg_pos hd)
  have hgo := dg_go hlt0 hd
  have hge := dg_le s (i + 1) (by omega)
  rw [← hgo] at hge
  have hT := takeDigits_any b s k i w h hi hs
  obtain ⟨t1, t2, t3⟩ := digits_t hi
  have hp0 := pk_extract (s := s) (i := i) (j := dg s i) (k := 0) (by omega) hge.2
  obtain ⟨t, ht⟩ : ∃ t, s.extract i (dg s i) = t := ⟨_, rfl⟩
  rw [ht] at t1 t2 t3 hT hp0
  have hV := value_any t (by omega) t2
  rw [t3] at hV
  have hlt := dv_lt s i (dg s i - i) (fun j hj => skip_all hi (by omega) (by show i + j < dg s i; omega))
  have hpw : 10 ^ (dg s i - i) ≤ 10000 := Nat.pow_le_pow_right (n := 10) (by omega) h4
  have z0 : 0 < t.size := by omega
  rw [pk_in z0] at hp0
  have z1 : ((t[0].toNat : Int) == 48) = false := by rw [hp0]; simpa using h0
  have z2 : (t.size : Int) ≤ 4 := by omega
  obtain ⟨d, hd'⟩ : ∃ d : Nat, dv s i (dg s i - i) = d := ⟨_, rfl⟩
  rw [hd'] at hV hlt ⊢
  have hdb : (d : Int) ≤ 10000 := by omega
  clear t1 t2 t3 hp0 hgo
  go_enter Tryz.func135, Tryz.ntmps135
  go_wp2_with (first
    | (go_at_call 132; refine hT.mono ?_; rintro e w2 ⟨rfl, ha, hb⟩)
    | (go_at_call 133; refine (hV _).mono ?_; rintro e w3 ⟨rfl, rfl⟩))
  go_ret
  exact ⟨rfl, ha, hb⟩

set_option maxHeartbeats 800000 in
theorem readCount_bad (b : Nat) (s : ByteArray) (k : Int) (i : Nat) (w : World) (h : At w b s k i) (hi : i ≤ s.size) (hs : s.size ≤ 1500) (hd : isDg (pk s i) = true) (h0 : pk s i = 48 ∨ 4 < dg s i - i) :
    Calls Tryz.prog 135 #[.pointer (some ⟨b, 0, none⟩)] w fun e w' => e = .panicked (refusal k i) ∧ Near b w w' := by
  have ⟨c0, c1, c2, fz⟩ := h
  have hlt0 := lt_of_pk (isDg_pos hd)
  have hgo := dg_go hlt0 hd
  have hge := dg_le s (i + 1) (by omega)
  rw [← hgo] at hge
  have hT := takeDigits_any b s k i w h hi hs
  obtain ⟨t1, t2, t3⟩ := digits_t hi
  have hp0 := pk_extract (s := s) (i := i) (j := dg s i) (k := 0) (by omega) hge.2
  obtain ⟨t, ht⟩ : ∃ t, s.extract i (dg s i) = t := ⟨_, rfl⟩
  rw [ht] at t1 t2 t3 hT hp0
  have z0 : 0 < t.size := by omega
  rw [pk_in z0] at hp0
  by_cases h0' : pk s i = 48
  · have z1 : ((t[0].toNat : Int) == 48) = true := by rw [hp0]; simpa using h0'
    clear t1 t2 t3 hp0 hgo h0 h0'
    go_enter Tryz.func135, Tryz.ntmps135
    go_wp2_with (first
      | (go_at_call 132; refine hT.mono ?_; rintro e w2 ⟨rfl, ha, hb⟩; have e2 := ha.c2)
      | (go_at_call 71; refine (giveUp_any _ _ _).mono ?_; rintro e w3 ⟨rfl, rfl⟩))
    exact ⟨rfl, rfl, hb⟩
  · have z1 : ((t[0].toNat : Int) == 48) = false := by rw [hp0]; simpa using h0'
    have z2 : 4 < (t.size : Int) := by omega
    clear t1 t2 t3 hp0 hgo h0 h0'
    go_enter Tryz.func135, Tryz.ntmps135
    go_wp2_with (first
      | (go_at_call 132; refine hT.mono ?_; rintro e w2 ⟨rfl, ha, hb⟩; have e2 := ha.c2)
      | (go_at_call 71; refine (giveUp_any _ _ _).mono ?_; rintro e w3 ⟨rfl, rfl⟩))
    exact ⟨rfl, rfl, hb⟩

set_option maxHeartbeats 800000 in
theorem readLetter_hit (b : Nat) (s : ByteArray) (k : Int) (i : Nat) (w : World) (h : At w b s k i) (hi : i ≤ s.size) (hs : s.size ≤ 1500) (hl : isLt (pk s i) = true) :
    Calls Tryz.prog 137 #[.pointer (some ⟨b, 0, none⟩)] w fun e w' => e = .returned (.int .u8 (pk s i)) ∧ At w' b s k (i + 1) ∧ Near b w w' := by
  have ⟨c0, c1, c2, fz⟩ := h
  have hlt := lt_of_pk (isLt_pos hl)
  obtain ⟨c, hc⟩ : ∃ c, pk s i = c := ⟨_, rfl⟩
  have hP := peek_any b s k i w h hi hs
  rw [hc] at hl hP ⊢
  have hcs : c = 98 ∨ c = 111 ∨ c = 36 := by unfold isLt at hl; simpa [or_assoc] using hl
  clear hc hl
  rcases hcs with rfl | rfl | rfl
  all_goals
    go_enter Tryz.func137, Tryz.ntmps137
    go_wp2_with (go_at_call 116; refine hP.mono ?_; rintro e w1 ⟨rfl, n1, rfl⟩)
    go_ret
    exact ⟨rfl, (h.drewN _).step, ((Near.refl b w).drewN _).setCell _ _⟩

set_option maxHeartbeats 800000 in
theorem readLetter_miss (b : Nat) (s : ByteArray) (k : Int) (i : Nat) (w : World) (h : At w b s k i) (hi : i ≤ s.size) (hs : s.size ≤ 1500) (hl : isLt (pk s i) = false) :
    Calls Tryz.prog 137 #[.pointer (some ⟨b, 0, none⟩)] w fun e w' => e = .panicked (refusal k i) ∧ Near b w w' := by
  have hP := peek_any b s k i w h hi hs
  have hcs : (pk s i == 98) = false ∧ (pk s i == 111) = false ∧ (pk s i == 36) = false := by unfold isLt at hl; simpa [and_assoc] using hl
  obtain ⟨h1, h2, h3⟩ := hcs
  go_enter Tryz.func137, Tryz.ntmps137
  go_wp2_with (first
    | (go_at_call 116; refine hP.mono ?_; rintro e w1 ⟨rfl, n1, rfl⟩)
    | (go_at_call 115; refine (refuse_any b s k i _ (h.drewN _)).mono ?_; rintro e w' ⟨rfl, m, rfl⟩))
  exact ⟨rfl, rfl, (Near.refl b w).drewN _⟩

end Go.Proofs.YtiohpcnnpmnjhaaGreatDoor

namespace Go.Proofs.YtiohpcnnpmnjhaaGreatDoor
open Go.RowKit
set_option linter.unusedVariables false

theorem step_append_own {P : Program} {ops : Array Oper} {o : Oper} {a : Act} {w : World} {K : Act → World → Prop} {Q : Exit → Act → World → Prop} {E : Prop}
    (hg : o.guard = none) (s x : Operand) (t : TypeId) (ho : o.op = .call { callee := .builtin .append, args := #[s, x], argTypes := #[t, t] })
    (base : Nat) (e : TypeId) (i : TypeInfo) (z : Value) (size bytes : Nat) (ht : P.underlying t = some (.slice e)) (hi : P.info? e = some i) (hz : i.zero = some z)
    (hsize : i.size = size) (hby : i.bytes = bytes) (hzs : z.cells.size = size) (hsz : 0 < size)
    (v : Value) (n : Nat) (xs : List Value) (hs : a.eval s = v) (hown : w.ownsRow base e size v n xs)
    (ad : Addr) (m c : Nat) (news : List Value) (hx : a.eval x = .slice (some ad) m c) (hl : news.length = m * size) (hnews : ∀ j u, news[j]? = some u → w.cell? (ad.add j) = some u) (h1 : ∀ u ∈ news, u.oneCell' = true)
    (h63 : n + m ≤ maxLen) (hbytes : (n + m) * bytes ≤ 140737488355328) (hbase : base ≤ w.heap.size)
    (hK : ∀ v' w', w'.ownsRow base e size v' (n + m) (xs ++ news) → w.grownBy w' v.ownBlock → K (a.put o.dst v') w') :
    if Region.wanted o (yielded ops a.tmps) = true then Oper.wp P o a w K Q else E := by
  have hw : Region.wanted o (yielded ops a.tmps) = true := by simp [Region.wanted, hg]
  rw [if_pos hw]
  exact wp_append_own w s x t ho base e i z size bytes ht hi hz hsize hby hzs hsz v n xs hs hown ad m c news hx hl hnews h1 h63 hbytes hbase fun v' w' h2 h3 _ => hK v' w' h2 h3

end Go.Proofs.YtiohpcnnpmnjhaaGreatDoor

namespace Go.Proofs.YtiohpcnnpmnjhaaGreatDoor
open Go.RowKit
set_option linter.unusedVariables false

/-- A span: x, y, length. -/
abbrev Span := Int × Int × Int
/-- Spans as the cells of a row. -/
def flat : List Span → List Value
  | [] => []
  | (x, y, n) :: r => .int .i64 x :: .int .i64 y :: .int .i64 n :: flat r
theorem flat_append (a b : List Span) : flat (a ++ b) = flat a ++ flat b := by
  induction a with
  | nil => rfl
  | cons h t ih => obtain ⟨x, y, n⟩ := h; simp [flat, ih]
theorem flat_length (a : List Span) : (flat a).length = a.length * 3 := by
  induction a with
  | nil => rfl
  | cons h t ih => obtain ⟨x, y, n⟩ := h; simp [flat, ih]; omega

/-- Nothing below block number B has turned but block p; none has gone. -/
structure Pad (p B : Nat) (w w' : World) : Prop where
  os : w'.os = w.os
  tape : w'.tape = w.tape
  output : w'.output = w.output
  size : w.heap.size ≤ w'.heap.size
  block : ∀ k, k < B → k ≠ p → w'.heap[k]? = w.heap[k]?
theorem Pad.refl (p B : Nat) (w : World) : Pad p B w w := ⟨rfl, rfl, rfl, Nat.le_refl _, fun _ _ _ => rfl⟩
theorem Pad.trans {p B : Nat} {a b c : World} (h : Pad p B a b) (k : Pad p B b c) : Pad p B a c :=
  ⟨k.os.trans h.os, k.tape.trans h.tape, k.output.trans h.output, Nat.le_trans h.size k.size, fun i hi hp => (k.block i hi hp).trans (h.block i hi hp)⟩
theorem Pad.of_below {p B : Nat} {a b : World} (h : Below B a b) : Pad p B a b := ⟨h.os, h.tape, h.output, h.size, fun k hk _ => h.block k hk⟩
theorem Pad.setCell {p B : Nat} {a w : World} (h : Pad p B a w) (i : Nat) (u : Value) : Pad p B a (w.setCell ⟨p, i, none⟩ u) :=
  h.trans ⟨rfl, rfl, rfl, by simp [World.setCell], fun k _ hp => Below.heap_setCell _ _ _ _ hp⟩
theorem Pad.drew {p B : Nat} {a w : World} (h : Pad p B a w) : Pad p B a w.drew := ⟨h.os, h.tape, h.output, h.size, h.block⟩
theorem Pad.cell {p B : Nat} {w w' : World} (h : Pad p B w w') {q : Addr} (hB : q.block < B) (hp : q.block ≠ p) : w'.cell? q = w.cell? q := World.cell?_of_block (w := w) (h.block q.block hB hp)
theorem Pad.frozen {p B : Nat} {w w' : World} (h : Pad p B w w') {q : Addr} (hB : q.block < B) (hp : q.block ≠ p) : w'.frozen? q = w.frozen? q := World.frozen?_of_block (w := w) (h.block q.block hB hp)
theorem Pad.below {p B C : Nat} {w w' : World} (h : Pad p B w w') (h1 : C ≤ p) (h2 : C ≤ B) : Below C w w' := ⟨h.os, h.tape, h.output, h.size, fun k hk => h.block k (by omega) (by omega)⟩

/-- The pen's block: where it began, where it is, the spans so far (a row of the call's own, from block B on). -/
structure PenAt (w : World) (p B : Nat) (x0 y0 ax ay : Int) (sp : List Span) : Prop where
  c0 : w.cell? ⟨p, 0, none⟩ = some (.int .i64 x0)
  c1 : w.cell? ⟨p, 1, none⟩ = some (.int .i64 y0)
  c2 : w.cell? ⟨p, 2, none⟩ = some (.int .i64 ax)
  c3 : w.cell? ⟨p, 3, none⟩ = some (.int .i64 ay)
  c4 : ∃ v, w.cell? ⟨p, 4, none⟩ = some v ∧ w.ownsRow B 121 3 v sp.length (flat sp)
  fz : ∀ j, w.frozen? ⟨p, j, none⟩ = false
  pB : p < B
  Bw : B ≤ w.heap.size

theorem infoSpan : (Tryz.prog.info? 121).map (fun i => (i.zero, i.size, i.bytes)) = some (some (.agg #[.int .i64 0, .int .i64 0, .int .i64 0]), 3, 24) := by kernel_rfl

theorem PenAt.drew {w : World} {p B : Nat} {x0 y0 ax ay : Int} {sp : List Span} (h : PenAt w p B x0 y0 ax ay sp) : PenAt w.drew p B x0 y0 ax ay sp :=
  ⟨h.c0, h.c1, h.c2, h.c3, h.c4, h.fz, h.pB, h.Bw⟩
theorem PenAt.setX {w : World} {p B : Nat} {x0 y0 ax ay : Int} {sp : List Span} (h : PenAt w p B x0 y0 ax ay sp) (x : Int) : PenAt (w.setCell ⟨p, 2, none⟩ (.int .i64 x)) p B x0 y0 x ay sp := by
  obtain ⟨v, c4, own⟩ := h.c4
  exact ⟨by rw [World.cell?_setCell_other _ _ _ _ (by simp)]; exact h.c0, by rw [World.cell?_setCell_other _ _ _ _ (by simp)]; exact h.c1,
    World.cell?_setCell_same _ _ _ h.c2, by rw [World.cell?_setCell_other _ _ _ _ (by simp)]; exact h.c3,
    ⟨v, by rw [World.cell?_setCell_other _ _ _ _ (by simp)]; exact c4, ownsRow_setCell_below own (a := ⟨p, 2, none⟩) h.pB _⟩, fun j => by simpa using h.fz j, h.pB, by simpa [World.setCell] using h.Bw⟩
theorem PenAt.setY {w : World} {p B : Nat} {x0 y0 ax ay : Int} {sp : List Span} (h : PenAt w p B x0 y0 ax ay sp) (y : Int) : PenAt (w.setCell ⟨p, 3, none⟩ (.int .i64 y)) p B x0 y0 ax y sp := by
  obtain ⟨v, c4, own⟩ := h.c4
  exact ⟨by rw [World.cell?_setCell_other _ _ _ _ (by simp)]; exact h.c0, by rw [World.cell?_setCell_other _ _ _ _ (by simp)]; exact h.c1,
    by rw [World.cell?_setCell_other _ _ _ _ (by simp)]; exact h.c2, World.cell?_setCell_same _ _ _ h.c3,
    ⟨v, by rw [World.cell?_setCell_other _ _ _ _ (by simp)]; exact c4, ownsRow_setCell_below own (a := ⟨p, 3, none⟩) h.pB _⟩, fun j => by simpa using h.fz j, h.pB, by simpa [World.setCell] using h.Bw⟩
theorem PenAt.setRow {w w1 : World} {p B : Nat} {x0 y0 ax ay : Int} {sp sp' : List Span} (h : PenAt w p B x0 y0 ax ay sp) (hb : Below B w w1) (v : Value) (own : w1.ownsRow B 121 3 v sp'.length (flat sp')) :
    PenAt (w1.setCell ⟨p, 4, none⟩ v) p B x0 y0 ax ay sp' := by
  obtain ⟨u, c4, _⟩ := h.c4
  have e : ∀ j, w1.cell? ⟨p, j, none⟩ = w.cell? ⟨p, j, none⟩ := fun j => hb.cell (p := ⟨p, j, none⟩) h.pB
  exact ⟨by rw [World.cell?_setCell_other _ _ _ _ (by simp), e]; exact h.c0, by rw [World.cell?_setCell_other _ _ _ _ (by simp), e]; exact h.c1,
    by rw [World.cell?_setCell_other _ _ _ _ (by simp), e]; exact h.c2, by rw [World.cell?_setCell_other _ _ _ _ (by simp), e]; exact h.c3,
    ⟨v, World.cell?_setCell_same (u := u) _ _ _ (by rw [e]; exact c4), ownsRow_setCell_below own (a := ⟨p, 4, none⟩) h.pB _⟩, fun j => by rw [World.frozen?_setCell, hb.frozen (p := ⟨p, j, none⟩) h.pB]; exact h.fz j, h.pB, by have := hb.size; have := h.Bw; simp [World.setCell]; omega⟩

set_option maxHeartbeats 800000 in
theorem draw_b (w : World) (p B : Nat) (x0 y0 ax ay : Int) (sp : List Span) (n : Int) (h : PenAt w p B x0 y0 ax ay sp) (h1 : -3000000000000000000 ≤ ax) (h2 : ax ≤ 3000000000000000000) (h3 : 0 ≤ n) (h4 : n ≤ 9999) :
    Calls Tryz.prog 136 #[.pointer (some ⟨p, 0, none⟩), .int .i64 n, .int .u8 98] w fun e w' => e = .returned (.tuple #[]) ∧ PenAt w' p B x0 y0 (ax + n) ay sp ∧ Pad p B w w' := by
  have ⟨c0, c1, c2, c3, ⟨v, c4, own⟩, fz, pB, Bw⟩ := h
  have fz2 := fz 2
  go_enter Tryz.func136, Tryz.ntmps136
  go_wp2
  go_region
  go_wp2
  go_end0
  exact ⟨rfl, (h.setX _).drew, ((Pad.refl p B w).setCell _ _).drew⟩

set_option maxHeartbeats 800000 in
theorem draw_d (w : World) (p B : Nat) (x0 y0 ax ay : Int) (sp : List Span) (n : Int) (h : PenAt w p B x0 y0 ax ay sp) (h1 : -3000000000000000000 ≤ ay) (h2 : ay ≤ 3000000000000000000) (h3 : 0 ≤ n) (h4 : n ≤ 9999) :
    Calls Tryz.prog 136 #[.pointer (some ⟨p, 0, none⟩), .int .i64 n, .int .u8 36] w fun e w' => e = .returned (.tuple #[]) ∧ PenAt w' p B x0 y0 x0 (ay + n) sp ∧ Pad p B w w' := by
  have ⟨c0, c1, c2, c3, ⟨v, c4, own⟩, fz, pB, Bw⟩ := h
  have fz2 := fz 2
  have fz3 := fz 3
  go_enter Tryz.func136, Tryz.ntmps136
  go_wp2
  go_region
  all_goals
    go_wp2
    go_end0
    exact ⟨rfl, ((h.setX _).setY _).drew, (((Pad.refl p B w).setCell _ _).setCell _ _).drew⟩

theorem three_new (w : World) (x y z : Value) (t : TypeId) : ∀ j u, [x, y, z][j]? = some u → (w.alloc (.cells #[x, y, z] t)).cell? ((⟨w.heap.size, 0, none⟩ : Addr).add j) = some u := by
  intro j u hj
  match j, hj with
  | 0, hj => simp at hj; subst hj; simp [Addr.add]
  | 1, hj => simp at hj; subst hj; simp [Addr.add]
  | 2, hj => simp at hj; subst hj; simp [Addr.add]
  | j + 3, hj => simp at hj

theorem pen_grown {w W w1 : World} {B n : Nat} {e : TypeId} {v : Value} {xs : List Value} {o : Obj} (hg : World.grownBy W w1 v.ownBlock) (own : w.ownsRow B e 3 v n xs) (Bw : B ≤ w.heap.size) (h1 : W.os = w.os) (h2 : W.tape = w.tape) (h3 : W.output = w.output) (h4 : W.heap = w.heap.push o) : Below B w w1 := by
  have hz : W.heap.size = w.heap.size + 1 := by rw [h4]; simp
  have hb : Below B w W := ⟨h1, h2, h3, by omega, fun k hk => by rw [h4]; exact Below.heap_alloc w o k (by omega)⟩
  exact hb.grown hg (by omega) (fun k hk => (own.lt k hk).1)

set_option maxHeartbeats 1600000 in
theorem draw_o (w : World) (p B : Nat) (x0 y0 ax ay : Int) (sp : List Span) (n : Int) (h : PenAt w p B x0 y0 ax ay sp) (h1 : -3000000000000000000 ≤ ax) (h2 : ax ≤ 3000000000000000000) (h3 : 0 ≤ n) (h4 : n ≤ 9999) (hsp : sp.length ≤ 1500) :
    Calls Tryz.prog 136 #[.pointer (some ⟨p, 0, none⟩), .int .i64 n, .int .u8 111] w fun e w' => e = .returned (.tuple #[]) ∧ PenAt w' p B x0 y0 (ax + n) ay (sp ++ [(ax, ay, n)]) ∧ Pad p B w w' := by
  have ⟨c0, c1, c2, c3, ⟨v, c4, own⟩, fz, pB, Bw⟩ := h
  obtain ⟨i0, hi, hz0, hz1, hz2⟩ := info_parts infoSpan
  have fz2 := fz 2
  have fz4 := fz 4
  have pw : p < w.heap.size := by omega
  go_enter Tryz.func136, Tryz.ntmps136
  go_wp2
  go_region_law (refine step_append_own rfl (.tmp 17) (.tmp 24) 143 rfl B 121 i0 (.agg #[.int .i64 0, .int .i64 0, .int .i64 0]) 3 24 Tryz.underlying143 hi hz0 hz1 hz2 rfl (by decide) v sp.length (flat sp) (by simp [Act.eval]) (own.alloc _) ⟨w.heap.size, 0, none⟩ 1 1 [.int .i64 ax, .int .i64 ay, .int .i64 n] (by simp [Act.eval]) rfl (three_new _ _ _ _ _) (by simp [Value.oneCell']) (by unfold maxLen; omega) (by omega) (by simp; omega) ?_; intro v' w1 own1 hg1; have hb1 := pen_grown hg1 own Bw rfl rfl rfl rfl; obtain ⟨g', cap', rfl⟩ := ownsRow_succ own1; have d2 := (hb1.cell (p := ⟨p, 2, none⟩) pB).trans c2; have d4 := (hb1.cell (p := ⟨p, 4, none⟩) pB).trans c4; have e2 := (hb1.frozen (p := ⟨p, 2, none⟩) pB).trans fz2; have e4 := (hb1.frozen (p := ⟨p, 4, none⟩) pB).trans fz4)
  all_goals
    go_wp2
    go_region
    go_wp2
    go_end0
    refine ⟨rfl, ((h.setRow hb1 _ ?_).setX _).drew, ((((Pad.of_below hb1).setCell _ _)).setCell _ _).drew⟩
    rw [flat_append, List.length_append]
    exact own1

end Go.Proofs.YtiohpcnnpmnjhaaGreatDoor

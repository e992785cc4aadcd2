import Derived.Test.YtiohpcnnpmnjhaaReader
import Derived.Deep.LoopGhost
import Derived.Deep.RegionLaw
import Derived.Laws.AppendOwn
import Derived.RegionTactic
namespace Go.Proofs.Ytiohpcnnpmnjhaa
open Go.RowKit
set_option linter.unusedVariables false

set_option maxHeartbeats 800000 in
theorem takeBlanks_any (b : Nat) (s : ByteArray) (k : Int) (i0 : Nat) (w : World) (h : At w b s k i0) (hi0 : i0 ≤ s.size) (hs : s.size ≤ 1500) :
    Calls Try.prog 56 #[.pointer (some ⟨b, 0, none⟩)] w fun e w' => e = .returned (.bool (decide (i0 < bl s i0))) ∧ At w' b s k (bl s i0) ∧ Near b w w' := by
  have ⟨c0, c1, c2, fz⟩ := h
  go_enter Try.func56, Try.ntmps56
  go_wp2
  go_loopg [] (s.size - i0) (fun g wr => ∃ i : Nat, i0 ≤ i ∧ i ≤ s.size ∧ g = s.size - i ∧ At wr b s k i ∧ Near b w wr ∧ Hid (bl s i = bl s i0))
  case atStart => exact ⟨i0, Nat.le_refl _, hi0, rfl, h, Near.refl _ _, rfl⟩
  case round =>
    obtain ⟨i, hi, hi', rfl, ha, hb, hr⟩ := hrel
    have ⟨d0, d1, d2, d3⟩ := ha
    by_cases h1 : pk s i = 32
    · have hlt := lt_of_pk (s := s) (i := i) (by omega)
      have hg := bl_go hlt (by unfold isBl; simp [h1])
      have HG : Hid (bl s (i + 1) = bl s i0) := hg.symm.trans hr.out
      clear hg
      go_wp2_with (go_at_call_of 29 (Value.int IntKind.u8 32); refine (take_hit b s k i 32 _ ha hi' hs h1).mono ?_; rintro e w1 ⟨rfl, ha1, hb1⟩)
      go_roundg (s.size - (i + 1))
      case measure => omega
      case rel => exact ⟨i + 1, by omega, by omega, rfl, ha1, hb.trans hb1, HG.out⟩
    · have h1' : (pk s i == 32) = false := by simpa using h1
      by_cases h2 : pk s i = 10
      · have hlt := lt_of_pk (s := s) (i := i) (by omega)
        have hg := bl_go hlt (by unfold isBl; simp [h2])
        have HG : Hid (bl s (i + 1) = bl s i0) := hg.symm.trans hr.out
        clear hg
        go_wp2_with (first
          | (go_at_call_of 29 (Value.int IntKind.u8 32); refine (take_miss b s k i 32 _ ha hi' hs h1').mono ?_; rintro e w1 ⟨rfl, n1, rfl⟩)
          | (go_at_call_of 29 (Value.int IntKind.u8 10); refine (take_hit b s k i 10 _ (ha.drewN _) hi' hs h2).mono ?_; rintro e w2 ⟨rfl, ha1, hb1⟩))
        go_roundg (s.size - (i + 1))
        case measure => omega
        case rel => exact ⟨i + 1, by omega, by omega, rfl, ha1, (hb.drewN _).trans hb1, HG.out⟩
      · have h2' : (pk s i == 10) = false := by simpa using h2
        have hst := bl_stop (s := s) (i := i) (by unfold isBl; simp [h1', h2'])
        have HS : Hid (i = bl s i0) := hst.symm.trans hr.out
        clear hst hr
        go_wp2_with (first
          | (go_at_call_of 29 (Value.int IntKind.u8 32); refine (take_miss b s k i 32 _ ha hi' hs h1').mono ?_; rintro e w1 ⟨rfl, n1, rfl⟩)
          | (go_at_call_of 29 (Value.int IntKind.u8 10); refine (take_miss b s k i 10 _ (ha.drewN _) hi' hs h2').mono ?_; rintro e w2 ⟨rfl, n2, rfl⟩))
        go_ret
        refine ⟨ret_bool ?_, ?_, hb.drewN _⟩
        · rw [← HS.out]
        · rw [← HS.out]; exact ha.drewN _

set_option maxHeartbeats 800000 in
theorem takeDigits_any (b : Nat) (s : ByteArray) (k : Int) (i0 : Nat) (w : World) (h : At w b s k i0) (hi0 : i0 ≤ s.size) (hs : s.size ≤ 1500) :
    Calls Try.prog 68 #[.pointer (some ⟨b, 0, none⟩)] w fun e w' => e = .returned (.string (s.extract i0 (dg s i0))) ∧ At w' b s k (dg s i0) ∧ Near b w w' := by
  have ⟨c0, c1, c2, fz⟩ := h
  go_enter Try.func68, Try.ntmps68
  go_wp2
  go_loopg [] (s.size - i0) (fun g wr => ∃ i : Nat, i0 ≤ i ∧ i ≤ s.size ∧ g = s.size - i ∧ At wr b s k i ∧ Near b w wr ∧ Hid (dg s i = dg s i0))
  case atStart => exact ⟨i0, Nat.le_refl _, hi0, rfl, h, Near.refl _ _, rfl⟩
  case round =>
    obtain ⟨i, hi, hi', rfl, ha, hb, hr⟩ := hrel
    have ⟨d0, d1, d2, d3⟩ := ha
    have hpb := pk_bd s i
    cases h1 : isDg (pk s i) with
    | true =>
      have hlt := lt_of_pk (isDg_pos h1)
      have hg := dg_go hlt h1
      have HG : Hid (dg s (i + 1) = dg s i0) := hg.symm.trans hr.out
      clear hg
      have hd := isDigit_any (pk s i) hpb.1 hpb.2
      rw [h1] at hd
      go_wp2_with (first
        | (go_at_call 31; refine (peek_any b s k i _ ha hi' hs).mono ?_; rintro e w1 ⟨rfl, n1, rfl⟩)
        | (go_at_call 70; refine (hd _).mono ?_; rintro e w2 ⟨rfl, rfl⟩))
      go_roundg (s.size - (i + 1))
      case measure => omega
      case rel => exact ⟨i + 1, by omega, by omega, rfl, (ha.drewN _).step, (hb.drewN _).setCell _ _, HG.out⟩
    | false =>
      have hst := dg_stop h1
      have HS : Hid (i = dg s i0) := hst.symm.trans hr.out
      clear hst hr
      have hd := isDigit_any (pk s i) hpb.1 hpb.2
      rw [h1] at hd
      go_wp2_with (first
        | (go_at_call 31; refine (peek_any b s k i _ ha hi' hs).mono ?_; rintro e w1 ⟨rfl, n1, rfl⟩)
        | (go_at_call 70; refine (hd _).mono ?_; rintro e w2 ⟨rfl, rfl⟩))
      go_quiet (fail)
      go_wp2
      go_ret
      refine ⟨by rw [← HS.out]; rfl, by rw [← HS.out]; exact (ha.drewN _).drewN _, (hb.drewN _).drewN _⟩

theorem pk_extract {s : ByteArray} {i j k : Nat} (h : i + k < j) (hj : j ≤ s.size) : pk (s.extract i j) k = pk s (i + k) := by
  have h1 : k < (s.extract i j).size := by rw [ByteArray.size_extract]; omega
  rw [pk_in h1, pk_in (show i + k < s.size by omega)]
  simp [ByteArray.getElem_extract]

theorem dv_extract {s : ByteArray} {i j : Nat} (hj : j ≤ s.size) : ∀ n, i + n ≤ j → dv (s.extract i j) 0 n = dv s i n := by
  intro n
  induction n with
  | zero => intro _; rfl
  | succ n ih => intro h; rw [dv, dv, ih (by omega), Nat.zero_add, pk_extract (by omega) hj]

theorem pow_le19 {k : Nat} (h : k ≤ 18) : 10 ^ k ≤ 1000000000000000000 := Nat.pow_le_pow_right (n := 10) (by omega) h

set_option maxHeartbeats 800000 in
theorem value_any (t : ByteArray) (ht : t.size ≤ 19) (hd : ∀ k, k < t.size → isDg (pk t k) = true) (w : World) :
    Calls Try.prog 69 #[.string t] w fun e w' => e = .returned (.int .u64 (dv t 0 t.size)) ∧ w' = w := by
  go_enter Try.func69, Try.ntmps69
  go_wp2
  go_loop [3, 7] (fun n i => ∃ k : Nat, k ≤ t.size ∧ i = .int .i64 k ∧ n = .int .u64 (dv t 0 k)) (fun _ i => t.size - (intOf i).toNat)
  case atStart => exact ⟨0, Nat.zero_le _, rfl, rfl⟩
  case round =>
    obtain ⟨k, hk, rfl, rfl⟩ := hrel
    by_cases hlt : k < t.size
    · have hb : dv t 0 k < 10 ^ k := dv_lt t 0 k (fun j hj => by rw [Nat.zero_add]; exact hd j (by omega))
      have hb2 := pow_le19 (k := k) (by omega)
      have hb3 : ((dv t 0 k : Nat) : Int) ≤ 1000000000000000000 := by omega
      have hb4 : (0 : Int) ≤ ((dv t 0 k : Nat) : Int) := by omega
      have hdk := isDg_iff.1 (hd k hlt)
      have hp := pk_in hlt
      have hp1 : 48 ≤ (t[k].toNat : Int) := by omega
      have hp2 : (t[k].toNat : Int) ≤ 57 := by omega
      have HV : Hid (((dv t 0 (k + 1) : Nat) : Int) = (dv t 0 k : Int) * 10 + ((t[k].toNat : Int) - 48)) := by
        show ((dv t 0 (k + 1) : Nat) : Int) = (dv t 0 k : Int) * 10 + ((t[k].toNat : Int) - 48)
        rw [dv, Nat.zero_add, hp]; omega
      clear hdk hp hb hb2
      go_wp2
      go_round
      case rel => exact ⟨k + 1, by omega, by go_num, by rw [HV.out]⟩
      case measure => simp [intOf]; omega
    · have hk' : k = t.size := by omega
      subst hk'
      go_wp2
      go_ret
      exact ⟨rfl, rfl⟩

end Go.Proofs.Ytiohpcnnpmnjhaa

namespace Go.Proofs.Ytiohpcnnpmnjhaa
open Go.RowKit
set_option linter.unusedVariables false

/-- How far out a cell may live. -/
abbrev MC : Int := 2000000000000000000

/-- A number brought to the next one beyond the limit. -/
def capP (z : Int) : Int := if MC + 1 < z then MC + 1 else if z < -(MC + 1) then -(MC + 1) else z

theorem digits_t {s : ByteArray} {i : Nat} (hi : i ≤ s.size) : (s.extract i (dg s i)).size = dg s i - i ∧ (∀ k, k < (s.extract i (dg s i)).size → isDg (pk (s.extract i (dg s i)) k) = true) ∧ dv (s.extract i (dg s i)) 0 (s.extract i (dg s i)).size = dv s i (dg s i - i) := by
  have h := dg_le s i hi
  have hz : (s.extract i (dg s i)).size = dg s i - i := by rw [ByteArray.size_extract]; omega
  refine ⟨hz, fun k hk => ?_, ?_⟩
  · rw [hz] at hk
    rw [pk_extract (by omega) h.2]
    exact skip_all hi (by omega) (by show i + k < dg s i; omega)
  · rw [hz, dv_extract h.2 _ (by omega)]

set_option maxHeartbeats 800000 in
theorem readNumber_pos (b : Nat) (s : ByteArray) (k : Int) (i : Nat) (w : World) (h : At w b s k i) (hi : i ≤ s.size) (hs : s.size ≤ 1500) (hn : (pk s i == 45) = false) (h1 : 0 < dg s i - i) (h2 : dg s i - i ≤ 19) :
    Calls Try.prog 57 #[.pointer (some ⟨b, 0, none⟩)] w fun e w' => e = .returned (.int .i64 (capP ((dv s i (dg s i - i) : Nat) : Int))) ∧ At w' b s k (dg s i) ∧ Near b w w' := by
  have ⟨c0, c1, c2, fz⟩ := h
  have hT := fun w1 (a1 : At w1 b s k i) => takeDigits_any b s k i w1 a1 hi hs
  obtain ⟨t1, t2, t3⟩ := digits_t hi
  obtain ⟨t, ht⟩ : ∃ t, s.extract i (dg s i) = t := ⟨_, rfl⟩
  rw [ht] at t1 t2 t3
  simp only [ht] at hT
  have hV := value_any t (by omega) t2
  rw [t3] at hV
  have hlt := dv_lt s i (dg s i - i) (fun j hj => skip_all hi (by omega) (by show i + j < dg s i; omega))
  have hpw : 10 ^ (dg s i - i) ≤ 10000000000000000000 := Nat.pow_le_pow_right (n := 10) (by omega) h2
  obtain ⟨d, hd⟩ : ∃ d : Nat, dv s i (dg s i - i) = d := ⟨_, rfl⟩
  obtain ⟨j, hj⟩ : ∃ j, dg s i = j := ⟨_, rfl⟩
  rw [hd] at hV hlt ⊢
  rw [hj] at h1 h2 hlt hpw t1 ⊢
  simp only [hj] at hT
  clear hd hj t2 t3 ht
  have z0 : ¬ (t.size : Int) = 0 := by omega
  have z1 : ((t.size : Int) == 0) = false := by simpa using z0
  have z2 : (t.size : Int) ≤ 19 := by omega
  clear t1 z0
  go_enter Try.func57, Try.ntmps57
  go_wp2_with (first
    | (go_at_call 29; refine (take_miss b s k i 45 _ h hi hs hn).mono ?_; rintro e w1 ⟨rfl, n1, rfl⟩)
    | (go_at_call 68; refine (hT _ (h.drewN _)).mono ?_; rintro e w2 ⟨rfl, ha, hb⟩)
    | (go_at_call 69; refine (hV _).mono ?_; rintro e w3 ⟨rfl, rfl⟩))
  all_goals
    go_ret
    exact ⟨ret_int (by unfold capP MC; split <;> (try split) <;> omega), ha, ((Near.refl b w).drewN n1).trans hb⟩

set_option maxHeartbeats 800000 in
theorem readNumber_neg (b : Nat) (s : ByteArray) (k : Int) (i : Nat) (w : World) (h : At w b s k i) (hi : i ≤ s.size) (hs : s.size ≤ 1500) (hn : pk s i = 45) (h1 : 0 < dg s (i + 1) - (i + 1)) (h2 : dg s (i + 1) - (i + 1) ≤ 19) :
    Calls Try.prog 57 #[.pointer (some ⟨b, 0, none⟩)] w fun e w' => e = .returned (.int .i64 (capP (-((dv s (i + 1) (dg s (i + 1) - (i + 1)) : Nat) : Int)))) ∧ At w' b s k (dg s (i + 1)) ∧ Near b w w' := by
  have ⟨c0, c1, c2, fz⟩ := h
  have hi' := hi
  have hi : i + 1 ≤ s.size := lt_of_pk (by omega)
  have hT := fun w1 (a1 : At w1 b s k (i + 1)) => takeDigits_any b s k (i + 1) w1 a1 hi hs
  obtain ⟨t1, t2, t3⟩ := digits_t hi
  obtain ⟨t, ht⟩ : ∃ t, s.extract (i + 1) (dg s (i + 1)) = t := ⟨_, rfl⟩
  rw [ht] at t1 t2 t3
  simp only [ht] at hT
  have hV := value_any t (by omega) t2
  rw [t3] at hV
  have hlt := dv_lt s (i + 1) (dg s (i + 1) - (i + 1)) (fun j hj => skip_all hi (by omega) (by show i + 1 + j < dg s (i + 1); omega))
  have hpw : 10 ^ (dg s (i + 1) - (i + 1)) ≤ 10000000000000000000 := Nat.pow_le_pow_right (n := 10) (by omega) h2
  obtain ⟨d, hd⟩ : ∃ d : Nat, dv s (i + 1) (dg s (i + 1) - (i + 1)) = d := ⟨_, rfl⟩
  obtain ⟨j, hj⟩ : ∃ j, dg s (i + 1) = j := ⟨_, rfl⟩
  rw [hd] at hV hlt ⊢
  rw [hj] at h1 h2 hlt hpw t1 ⊢
  simp only [hj] at hT
  clear hd hj t2 t3 ht
  have z0 : ¬ (t.size : Int) = 0 := by omega
  have z1 : ((t.size : Int) == 0) = false := by simpa using z0
  have z2 : (t.size : Int) ≤ 19 := by omega
  clear t1 z0
  go_enter Try.func57, Try.ntmps57
  go_wp2_with (first
    | (go_at_call 29; refine (take_hit b s k i 45 _ h hi' hs hn).mono ?_; rintro e w1 ⟨rfl, a1, n1⟩)
    | (go_at_call 68; refine (hT _ a1).mono ?_; rintro e w2 ⟨rfl, ha, hb⟩)
    | (go_at_call 69; refine (hV _).mono ?_; rintro e w3 ⟨rfl, rfl⟩))
  all_goals
    go_ret
    exact ⟨ret_int (by unfold capP MC; split <;> (try split) <;> omega), ha, n1.trans hb⟩

set_option maxHeartbeats 800000 in
theorem readNumber_badPosNone (b : Nat) (s : ByteArray) (k : Int) (i : Nat) (w : World) (h : At w b s k i) (hi : i ≤ s.size) (hs : s.size ≤ 1500) (hn : (pk s i == 45) = false) (h1 : dg s i = i) :
    Calls Try.prog 57 #[.pointer (some ⟨b, 0, none⟩)] w fun e w' => e = .panicked (refusal k i) ∧ Near b w w' := by
  have ⟨c0, c1, c2, fz⟩ := h
  have hT := fun w1 (a1 : At w1 b s k i) => takeDigits_any b s k i w1 a1 hi hs
  obtain ⟨t1, t2, t3⟩ := digits_t hi
  obtain ⟨t, ht⟩ : ∃ t, s.extract i (dg s i) = t := ⟨_, rfl⟩
  rw [ht] at t1 t2 t3
  simp only [ht] at hT
  obtain ⟨j, hj⟩ : ∃ j, dg s i = j := ⟨_, rfl⟩
  rw [hj] at h1 t1
  simp only [hj] at hT
  clear hj t2 t3 ht
  have z1 : t.size = 0 := by omega
  clear t1
  go_enter Try.func57, Try.ntmps57
  go_wp2_with (first
    | (go_at_call 29; refine (take_miss b s k i 45 _ h hi hs hn).mono ?_; rintro e w1 ⟨rfl, n1, rfl⟩)
    | (go_at_call 68; refine (hT _ (h.drewN _)).mono ?_; rintro e w2 ⟨rfl, ha, hb⟩; have e2 := ha.c2)
    | (go_at_call 20; refine (giveUp_any _ _ _).mono ?_; rintro e w3 ⟨rfl, rfl⟩))
  exact ⟨rfl, rfl, ((Near.refl b w).drewN n1).trans hb⟩

set_option maxHeartbeats 800000 in
theorem readNumber_badPosMany (b : Nat) (s : ByteArray) (k : Int) (i : Nat) (w : World) (h : At w b s k i) (hi : i ≤ s.size) (hs : s.size ≤ 1500) (hn : (pk s i == 45) = false) (h1 : 19 < dg s i - i) :
    Calls Try.prog 57 #[.pointer (some ⟨b, 0, none⟩)] w fun e w' => e = .panicked (refusal k i) ∧ Near b w w' := by
  have ⟨c0, c1, c2, fz⟩ := h
  have hT := fun w1 (a1 : At w1 b s k i) => takeDigits_any b s k i w1 a1 hi hs
  obtain ⟨t1, t2, t3⟩ := digits_t hi
  obtain ⟨t, ht⟩ : ∃ t, s.extract i (dg s i) = t := ⟨_, rfl⟩
  rw [ht] at t1 t2 t3
  simp only [ht] at hT
  obtain ⟨j, hj⟩ : ∃ j, dg s i = j := ⟨_, rfl⟩
  rw [hj] at h1 t1
  simp only [hj] at hT
  clear hj t2 t3 ht
  have z0 : ¬ (t.size : Int) = 0 := by omega
  have z1 : ((t.size : Int) == 0) = false := by simpa using z0
  have z2 : 19 < (t.size : Int) := by omega
  clear t1 z0
  go_enter Try.func57, Try.ntmps57
  go_wp2_with (first
    | (go_at_call 29; refine (take_miss b s k i 45 _ h hi hs hn).mono ?_; rintro e w1 ⟨rfl, n1, rfl⟩)
    | (go_at_call 68; refine (hT _ (h.drewN _)).mono ?_; rintro e w2 ⟨rfl, ha, hb⟩; have e2 := ha.c2)
    | (go_at_call 20; refine (giveUp_any _ _ _).mono ?_; rintro e w3 ⟨rfl, rfl⟩))
  exact ⟨rfl, rfl, ((Near.refl b w).drewN n1).trans hb⟩

set_option maxHeartbeats 800000 in
theorem readNumber_badNegNone (b : Nat) (s : ByteArray) (k : Int) (i : Nat) (w : World) (h : At w b s k i) (hi : i ≤ s.size) (hs : s.size ≤ 1500) (hn : pk s i = 45) (h1 : dg s (i + 1) = i + 1) :
    Calls Try.prog 57 #[.pointer (some ⟨b, 0, none⟩)] w fun e w' => e = .panicked (refusal k i) ∧ Near b w w' := by
  have ⟨c0, c1, c2, fz⟩ := h
  have hi' := hi
  have hi : i + 1 ≤ s.size := lt_of_pk (by omega)
  have hT := fun w1 (a1 : At w1 b s k (i + 1)) => takeDigits_any b s k (i + 1) w1 a1 hi hs
  obtain ⟨t1, t2, t3⟩ := digits_t hi
  obtain ⟨t, ht⟩ : ∃ t, s.extract (i + 1) (dg s (i + 1)) = t := ⟨_, rfl⟩
  rw [ht] at t1 t2 t3
  simp only [ht] at hT
  obtain ⟨j, hj⟩ : ∃ j, dg s (i + 1) = j := ⟨_, rfl⟩
  rw [hj] at h1 t1
  simp only [hj] at hT
  clear hj t2 t3 ht
  have z1 : t.size = 0 := by omega
  clear t1
  go_enter Try.func57, Try.ntmps57
  go_wp2_with (first
    | (go_at_call 29; refine (take_hit b s k i 45 _ h hi' hs hn).mono ?_; rintro e w1 ⟨rfl, a1, n1⟩)
    | (go_at_call 68; refine (hT _ a1).mono ?_; rintro e w2 ⟨rfl, ha, hb⟩; have e2 := ha.c2)
    | (go_at_call 20; refine (giveUp_any _ _ _).mono ?_; rintro e w3 ⟨rfl, rfl⟩))
  exact ⟨rfl, rfl, n1.trans hb⟩

set_option maxHeartbeats 800000 in
theorem readNumber_badNegMany (b : Nat) (s : ByteArray) (k : Int) (i : Nat) (w : World) (h : At w b s k i) (hi : i ≤ s.size) (hs : s.size ≤ 1500) (hn : pk s i = 45) (h1 : 19 < dg s (i + 1) - (i + 1)) :
    Calls Try.prog 57 #[.pointer (some ⟨b, 0, none⟩)] w fun e w' => e = .panicked (refusal k i) ∧ Near b w w' := by
  have ⟨c0, c1, c2, fz⟩ := h
  have hi' := hi
  have hi : i + 1 ≤ s.size := lt_of_pk (by omega)
  have hT := fun w1 (a1 : At w1 b s k (i + 1)) => takeDigits_any b s k (i + 1) w1 a1 hi hs
  obtain ⟨t1, t2, t3⟩ := digits_t hi
  obtain ⟨t, ht⟩ : ∃ t, s.extract (i + 1) (dg s (i + 1)) = t := ⟨_, rfl⟩
  rw [ht] at t1 t2 t3
  simp only [ht] at hT
  obtain ⟨j, hj⟩ : ∃ j, dg s (i + 1) = j := ⟨_, rfl⟩
  rw [hj] at h1 t1
  simp only [hj] at hT
  clear hj t2 t3 ht
  have z0 : ¬ (t.size : Int) = 0 := by omega
  have z1 : ((t.size : Int) == 0) = false := by simpa using z0
  have z2 : 19 < (t.size : Int) := by omega
  clear t1 z0
  go_enter Try.func57, Try.ntmps57
  go_wp2_with (first
    | (go_at_call 29; refine (take_hit b s k i 45 _ h hi' hs hn).mono ?_; rintro e w1 ⟨rfl, a1, n1⟩)
    | (go_at_call 68; refine (hT _ a1).mono ?_; rintro e w2 ⟨rfl, ha, hb⟩; have e2 := ha.c2)
    | (go_at_call 20; refine (giveUp_any _ _ _).mono ?_; rintro e w3 ⟨rfl, rfl⟩))
  exact ⟨rfl, rfl, n1.trans hb⟩

/-- A number is read: its value, brought to the limit; or it is refused at its first byte. -/
theorem readNumber_some (b : Nat) (s : ByteArray) (k : Int) (i : Nat) (w : World) (h : At w b s k i) (hi : i ≤ s.size) (hs : s.size ≤ 1500) (z : Int) (j : Nat) (hz : numTok s i = some (z, j)) :
    Calls Try.prog 57 #[.pointer (some ⟨b, 0, none⟩)] w fun e w' => e = .returned (.int .i64 (capP z)) ∧ At w' b s k j ∧ Near b w w' := by
  unfold numTok at hz
  split at hz
  · rename_i hn
    split at hz
    · cases hz
    · rename_i hc
      simp only [Option.some.injEq, Prod.mk.injEq] at hz
      obtain ⟨rfl, rfl⟩ := hz
      have hl := dg_ge s (i + 1)
      exact readNumber_neg b s k i w h hi hs hn (by omega) (by omega)
  · rename_i hn
    split at hz
    · cases hz
    · rename_i hc
      simp only [Option.some.injEq, Prod.mk.injEq] at hz
      obtain ⟨rfl, rfl⟩ := hz
      have hl := dg_ge s i
      exact readNumber_pos b s k i w h hi hs (by simpa using hn) (by omega) (by omega)

theorem readNumber_none (b : Nat) (s : ByteArray) (k : Int) (i : Nat) (w : World) (h : At w b s k i) (hi : i ≤ s.size) (hs : s.size ≤ 1500) (hz : numTok s i = none) :
    Calls Try.prog 57 #[.pointer (some ⟨b, 0, none⟩)] w fun e w' => e = .panicked (refusal k i) ∧ Near b w w' := by
  unfold numTok at hz
  split at hz
  · rename_i hn
    split at hz
    · rename_i hc
      rcases hc with hc | hc
      · exact readNumber_badNegNone b s k i w h hi hs hn hc
      · exact readNumber_badNegMany b s k i w h hi hs hn hc
    · cases hz
  · rename_i hn
    split at hz
    · rename_i hc
      rcases hc with hc | hc
      · exact readNumber_badPosNone b s k i w h hi hs (by simpa using hn) hc
      · exact readNumber_badPosMany b s k i w h hi hs (by simpa using hn) hc
    · cases hz

end Go.Proofs.Ytiohpcnnpmnjhaa

namespace Go.Proofs.Ytiohpcnnpmnjhaa
open Go.RowKit
set_option linter.unusedVariables false

set_option maxHeartbeats 800000 in
theorem readCount_good (b : Nat) (s : ByteArray) (k : Int) (i : Nat) (w : World) (h : At w b s k i) (hi : i ≤ s.size) (hs : s.size ≤ 1500) (hd : isDg (pk s i) = true) (h0 : ¬ pk s i = 48) (h4 : dg s i - i ≤ 4) :
    Calls Try.prog 71 #[.pointer (some ⟨b, 0, none⟩)] w fun e w' => e = .returned (.int .i64 ((dv s i (dg s i - i) : Nat) : Int)) ∧ At w' b s k (dg s i) ∧ Near b w w' := by
  have ⟨c0, c1, c2, fz⟩ := h
  have hlt0 := lt_of_pk (isDg_pos hd)
  have hgo := dg_go hlt0 hd
  have hge := dg_le s (i + 1) (by omega)
  rw [← hgo] at hge
  have hT := takeDigits_any b s k i w h hi hs
  obtain ⟨t1, t2, t3⟩ := digits_t hi
  have hp0 := pk_extract (s := s) (i := i) (j := dg s i) (k := 0) (by omega) hge.2
  obtain ⟨t, ht⟩ : ∃ t, s.extract i (dg s i) = t := ⟨_, rfl⟩
  rw [ht] at t1 t2 t3 hT hp0
  have hV := value_any t (by omega) t2
  rw [t3] at hV
  have hlt := dv_lt s i (dg s i - i) (fun j hj => skip_all hi (by omega) (by show i + j < dg s i; omega))
  have hpw : 10 ^ (dg s i - i) ≤ 10000 := Nat.pow_le_pow_right (n := 10) (by omega) h4
  have z0 : 0 < t.size := by omega
  rw [pk_in z0] at hp0
  have z1 : ((t[0].toNat : Int) == 48) = false := by rw [hp0]; simpa using h0
  have z2 : (t.size : Int) ≤ 4 := by omega
  obtain ⟨d, hd'⟩ : ∃ d : Nat, dv s i (dg s i - i) = d := ⟨_, rfl⟩
  rw [hd'] at hV hlt ⊢
  have hdb : (d : Int) ≤ 10000 := by omega
  clear t1 t2 t3 hp0 hgo
  go_enter Try.func71, Try.ntmps71
  go_wp2_with (first
    | (go_at_call 68; refine hT.mono ?_; rintro e w2 ⟨rfl, ha, hb⟩)
    | (go_at_call 69; refine (hV _).mono ?_; rintro e w3 ⟨rfl, rfl⟩))
  go_ret
  exact ⟨rfl, ha, hb⟩

set_option maxHeartbeats 800000 in
theorem readCount_bad (b : Nat) (s : ByteArray) (k : Int) (i : Nat) (w : World) (h : At w b s k i) (hi : i ≤ s.size) (hs : s.size ≤ 1500) (hd : isDg (pk s i) = true) (h0 : pk s i = 48 ∨ 4 < dg s i - i) :
    Calls Try.prog 71 #[.pointer (some ⟨b, 0, none⟩)] w fun e w' => e = .panicked (refusal k i) ∧ Near b w w' := by
  have ⟨c0, c1, c2, fz⟩ := h
  have hlt0 := lt_of_pk (isDg_pos hd)
  have hgo := dg_go hlt0 hd
  have hge := dg_le s (i + 1) (by omega)
  rw [← hgo] at hge
  have hT := takeDigits_any b s k i w h hi hs
  obtain ⟨t1, t2, t3⟩ := digits_t hi
  have hp0 := pk_extract (s := s) (i := i) (j := dg s i) (k := 0) (by omega) hge.2
  obtain ⟨t, ht⟩ : ∃ t, s.extract i (dg s i) = t := ⟨_, rfl⟩
  rw [ht] at t1 t2 t3 hT hp0
  have z0 : 0 < t.size := by omega
  rw [pk_in z0] at hp0
  by_cases h0' : pk s i = 48
  · have z1 : ((t[0].toNat : Int) == 48) = true := by rw [hp0]; simpa using h0'
    clear t1 t2 t3 hp0 hgo h0 h0'
    go_enter Try.func71, Try.ntmps71
    go_wp2_with (first
      | (go_at_call 68; refine hT.mono ?_; rintro e w2 ⟨rfl, ha, hb⟩; have e2 := ha.c2)
      | (go_at_call 20; refine (giveUp_any _ _ _).mono ?_; rintro e w3 ⟨rfl, rfl⟩))
    exact ⟨rfl, rfl, hb⟩
  · have z1 : ((t[0].toNat : Int) == 48) = false := by rw [hp0]; simpa using h0'
    have z2 : 4 < (t.size : Int) := by omega
    clear t1 t2 t3 hp0 hgo h0 h0'
    go_enter Try.func71, Try.ntmps71
    go_wp2_with (first
      | (go_at_call 68; refine hT.mono ?_; rintro e w2 ⟨rfl, ha, hb⟩; have e2 := ha.c2)
      | (go_at_call 20; refine (giveUp_any _ _ _).mono ?_; rintro e w3 ⟨rfl, rfl⟩))
    exact ⟨rfl, rfl, hb⟩

set_option maxHeartbeats 800000 in
theorem readLetter_hit (b : Nat) (s : ByteArray) (k : Int) (i : Nat) (w : World) (h : At w b s k i) (hi : i ≤ s.size) (hs : s.size ≤ 1500) (hl : isLt (pk s i) = true) :
    Calls Try.prog 73 #[.pointer (some ⟨b, 0, none⟩)] w fun e w' => e = .returned (.int .u8 (pk s i)) ∧ At w' b s k (i + 1) ∧ Near b w w' := by
  have ⟨c0, c1, c2, fz⟩ := h
  have hlt := lt_of_pk (isLt_pos hl)
  obtain ⟨c, hc⟩ : ∃ c, pk s i = c := ⟨_, rfl⟩
  have hP := peek_any b s k i w h hi hs
  rw [hc] at hl hP ⊢
  have hcs : c = 98 ∨ c = 111 ∨ c = 36 := by unfold isLt at hl; simpa [or_assoc] using hl
  clear hc hl
  rcases hcs with rfl | rfl | rfl
  all_goals
    go_enter Try.func73, Try.ntmps73
    go_wp2_with (go_at_call 31; refine hP.mono ?_; rintro e w1 ⟨rfl, n1, rfl⟩)
    go_ret
    exact ⟨rfl, (h.drewN _).step, ((Near.refl b w).drewN _).setCell _ _⟩

set_option maxHeartbeats 800000 in
theorem readLetter_miss (b : Nat) (s : ByteArray) (k : Int) (i : Nat) (w : World) (h : At w b s k i) (hi : i ≤ s.size) (hs : s.size ≤ 1500) (hl : isLt (pk s i) = false) :
    Calls Try.prog 73 #[.pointer (some ⟨b, 0, none⟩)] w fun e w' => e = .panicked (refusal k i) ∧ Near b w w' := by
  have hP := peek_any b s k i w h hi hs
  have hcs : (pk s i == 98) = false ∧ (pk s i == 111) = false ∧ (pk s i == 36) = false := by unfold isLt at hl; simpa [and_assoc] using hl
  obtain ⟨h1, h2, h3⟩ := hcs
  go_enter Try.func73, Try.ntmps73
  go_wp2_with (first
    | (go_at_call 31; refine hP.mono ?_; rintro e w1 ⟨rfl, n1, rfl⟩)
    | (go_at_call 30; refine (refuse_any b s k i _ (h.drewN _)).mono ?_; rintro e w' ⟨rfl, m, rfl⟩))
  exact ⟨rfl, rfl, (Near.refl b w).drewN _⟩

end Go.Proofs.Ytiohpcnnpmnjhaa

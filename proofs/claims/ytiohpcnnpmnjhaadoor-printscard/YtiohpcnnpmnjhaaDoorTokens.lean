import Derived.Test.YtiohpcnnpmnjhaaDoorReader
import Derived.Deep.LoopGhost
namespace Go.Proofs.YtiohpcnnpmnjhaaDoor
open Go.RowKit
set_option linter.unusedVariables false

set_option maxHeartbeats 800000 in
theorem takeBlanks_any (b : Nat) (s : ByteArray) (k : Int) (i0 : Nat) (w : World) (h : At w b s k i0) (hi0 : i0 ≤ s.size) (hs : s.size ≤ 1500) :
    Calls Tryd.prog 36 #[.pointer (some ⟨b, 0, none⟩)] w fun e w' => e = .returned (.bool (decide (i0 < bl s i0))) ∧ At w' b s k (bl s i0) ∧ Near b w w' := by
  have ⟨c0, c1, c2, fz⟩ := h
  go_enter Tryd.func36, Tryd.ntmps36
  go_wp2
  go_loopg [] (s.size - i0) (fun g wr => ∃ i : Nat, i0 ≤ i ∧ i ≤ s.size ∧ g = s.size - i ∧ At wr b s k i ∧ Near b w wr ∧ Hid (bl s i = bl s i0))
  case atStart => exact ⟨i0, Nat.le_refl _, hi0, rfl, h, Near.refl _ _, rfl⟩
  case round =>
    obtain ⟨i, hi, hi', rfl, ha, hb, hr⟩ := hrel
    have ⟨d0, d1, d2, d3⟩ := ha
    by_cases h1 : pk s i = 32
    · have hlt := lt_of_pk (s := s) (i := i) (by omega)
      have hg := bl_go hlt (by unfold isBl; simp [h1])
      have HG : Hid (bl s (i + 1) = bl s i0) := hg.symm.trans hr.out
      clear hg
      go_wp2_with (go_at_call_of 46 (Value.int IntKind.u8 32); refine (take_hit b s k i 32 _ ha hi' hs h1).mono ?_; rintro e w1 ⟨rfl, ha1, hb1⟩)
      go_roundg (s.size - (i + 1))
      case measure => omega
      case rel => exact ⟨i + 1, by omega, by omega, rfl, ha1, hb.trans hb1, HG.out⟩
    · have h1' : (pk s i == 32) = false := by simpa using h1
      by_cases h2 : pk s i = 10
      · have hlt := lt_of_pk (s := s) (i := i) (by omega)
        have hg := bl_go hlt (by unfold isBl; simp [h2])
        have HG : Hid (bl s (i + 1) = bl s i0) := hg.symm.trans hr.out
        clear hg
        go_wp2_with (first
          | (go_at_call_of 46 (Value.int IntKind.u8 32); refine (take_miss b s k i 32 _ ha hi' hs h1').mono ?_; rintro e w1 ⟨rfl, n1, rfl⟩)
          | (go_at_call_of 46 (Value.int IntKind.u8 10); refine (take_hit b s k i 10 _ (ha.drewN _) hi' hs h2).mono ?_; rintro e w2 ⟨rfl, ha1, hb1⟩))
        go_roundg (s.size - (i + 1))
        case measure => omega
        case rel => exact ⟨i + 1, by omega, by omega, rfl, ha1, (hb.drewN _).trans hb1, HG.out⟩
      · have h2' : (pk s i == 10) = false := by simpa using h2
        have hst := bl_stop (s := s) (i := i) (by unfold isBl; simp [h1', h2'])
        have HS : Hid (i = bl s i0) := hst.symm.trans hr.out
        clear hst hr
        go_wp2_with (first
          | (go_at_call_of 46 (Value.int IntKind.u8 32); refine (take_miss b s k i 32 _ ha hi' hs h1').mono ?_; rintro e w1 ⟨rfl, n1, rfl⟩)
          | (go_at_call_of 46 (Value.int IntKind.u8 10); refine (take_miss b s k i 10 _ (ha.drewN _) hi' hs h2').mono ?_; rintro e w2 ⟨rfl, n2, rfl⟩))
        go_ret
        refine ⟨ret_bool ?_, ?_, hb.drewN _⟩
        · rw [← HS.out]
        · rw [← HS.out]; exact ha.drewN _

set_option maxHeartbeats 800000 in
theorem takeDigits_any (b : Nat) (s : ByteArray) (k : Int) (i0 : Nat) (w : World) (h : At w b s k i0) (hi0 : i0 ≤ s.size) (hs : s.size ≤ 1500) :
    Calls Tryd.prog 47 #[.pointer (some ⟨b, 0, none⟩)] w fun e w' => e = .returned (.string (s.extract i0 (dg s i0))) ∧ At w' b s k (dg s i0) ∧ Near b w w' := by
  have ⟨c0, c1, c2, fz⟩ := h
  go_enter Tryd.func47, Tryd.ntmps47
  go_wp2
  go_loopg [] (s.size - i0) (fun g wr => ∃ i : Nat, i0 ≤ i ∧ i ≤ s.size ∧ g = s.size - i ∧ At wr b s k i ∧ Near b w wr ∧ Hid (dg s i = dg s i0))
  case atStart => exact ⟨i0, Nat.le_refl _, hi0, rfl, h, Near.refl _ _, rfl⟩
  case round =>
    obtain ⟨i, hi, hi', rfl, ha, hb, hr⟩ := hrel
    have ⟨d0, d1, d2, d3⟩ := ha
    have hpb := pk_bd s i
    cases h1 : isDg (pk s i) with
    | true =>
      have hlt := lt_of_pk (isDg_pos h1)
      have hg := dg_go hlt h1
      have HG : Hid (dg s (i + 1) = dg s i0) := hg.symm.trans hr.out
      clear hg
      have hd := isDigit_any (pk s i) hpb.1 hpb.2
      rw [h1] at hd
      go_wp2_with (first
        | (go_at_call 49; refine (peek_any b s k i _ ha hi' hs).mono ?_; rintro e w1 ⟨rfl, n1, rfl⟩)
        | (go_at_call 50; refine (hd _).mono ?_; rintro e w2 ⟨rfl, rfl⟩))
      go_roundg (s.size - (i + 1))
      case measure => omega
      case rel => exact ⟨i + 1, by omega, by omega, rfl, (ha.drewN _).step, (hb.drewN _).setCell _ _, HG.out⟩
    | false =>
      have hst := dg_stop h1
      have HS : Hid (i = dg s i0) := hst.symm.trans hr.out
      clear hst hr
      have hd := isDigit_any (pk s i) hpb.1 hpb.2
      rw [h1] at hd
      go_wp2_with (first
        | (go_at_call 49; refine (peek_any b s k i _ ha hi' hs).mono ?_; rintro e w1 ⟨rfl, n1, rfl⟩)
        | (go_at_call 50; refine (hd _).mono ?_; rintro e w2 ⟨rfl, rfl⟩))
      go_quiet (fail)
      go_wp2
      go_ret
      refine ⟨by rw [← HS.out]; rfl, by rw [← HS.out]; exact (ha.drewN _).drewN _, (hb.drewN _).drewN _⟩

theorem pk_extract {s : ByteArray} {i j k : Nat} (h : i + k < j) (hj : j ≤ s.size) : pk (s.extract i j) k = pk s (i + k) := by
  have h1 : k < (s.extract i j).size := by rw [ByteArray.size_extract]; omega
  rw [pk_in h1, pk_in (show i + k < s.size by omega)]
  simp [ByteArray.getElem_extract]

theorem dv_extract {s : ByteArray} {i j : Nat} (hj : j ≤ s.size) : ∀ n, i + n ≤ j → dv (s.extract i j) 0 n = dv s i n := by
  intro n
  induction n with
  | zero => intro _; rfl
  | succ n ih => intro h; rw [dv, dv, ih (by omega), Nat.zero_add, pk_extract (by omega) hj]

theorem pow_le19 {k : Nat} (h : k ≤ 18) : 10 ^ k ≤ 1000000000000000000 := Nat.pow_le_pow_right (n := 10) (by omega) h

set_option maxHeartbeats 800000 in
theorem value_any (t : ByteArray) (ht : t.size ≤ 19) (hd : ∀ k, k < t.size → isDg (pk t k) = true) (w : World) :
    Calls Tryd.prog 48 #[.string t] w fun e w' => e = .returned (.int .u64 (dv t 0 t.size)) ∧ w' = w := by
  go_enter Tryd.func48, Tryd.ntmps48
  go_wp2
  go_loop [3, 7] (fun n i => ∃ k : Nat, k ≤ t.size ∧ i = .int .i64 k ∧ n = .int .u64 (dv t 0 k)) (fun _ i => t.size - (intOf i).toNat)
  case atStart => exact ⟨0, Nat.zero_le _, rfl, rfl⟩
  case round =>
    obtain ⟨k, hk, rfl, rfl⟩ := hrel
    by_cases hlt : k < t.size
    · have hb : dv t 0 k < 10 ^ k := dv_lt t 0 k (fun j hj => by rw [Nat.zero_add]; exact hd j (by omega))
      have hb2 := pow_le19 (k := k) (by omega)
      have hb3 : ((dv t 0 k : Nat) : Int) ≤ 1000000000000000000 := by omega
      have hb4 : (0 : Int) ≤ ((dv t 0 k : Nat) : Int) := by omega
      have hdk := isDg_iff.1 (hd k hlt)
      have hp := pk_in hlt
      have hp1 : 48 ≤ (t[k].toNat : Int) := by omega
      have hp2 : (t[k].toNat : Int) ≤ 57 := by omega
      have HV : Hid (((dv t 0 (k + 1) : Nat) : Int) = (dv t 0 k : Int) * 10 + ((t[k].toNat : Int) - 48)) := by
        show ((dv t 0 (k + 1) : Nat) : Int) = (dv t 0 k : Int) * 10 + ((t[k].toNat : Int) - 48)
        rw [dv, Nat.zero_add, hp]; omega
      clear hdk hp hb hb2
      go_wp2
      go_round
      case rel => exact ⟨k + 1, by omega, by go_num, by rw [HV.out]⟩
      case measure => simp [intOf]; omega
    · have hk' : k = t.size := by omega
      subst hk'
      go_wp2
      go_ret
      exact ⟨rfl, rfl⟩

end Go.Proofs.YtiohpcnnpmnjhaaDoor

import Derived.Test.YtiohpcnnpmnjhaaGreatDoorRfCM
import Derived.Test.YtiohpcnnpmnjhaaGreatDoorRunB
namespace Go.Proofs.YtiohpcnnpmnjhaaGreatDoor
open Go.RowKit
set_option linter.unusedVariables false

theorem bytes_cat (l m : List UInt8) : (⟨l.toArray⟩ ++ ⟨m.toArray⟩ : ByteArray) = ⟨(l ++ m).toArray⟩ := by
  apply ByteArray.ext; simp
theorem bytes_snoc (l : List UInt8) (c : UInt8) : (⟨l.toArray⟩ ++ ⟨#[c]⟩ : ByteArray) = ⟨(l ++ [c]).toArray⟩ := by
  apply ByteArray.ext; simp
theorem dec_len {u : Nat} (h : u ≤ 9223372036854775807) : (Lib.decDigits u).length ≤ 21 := by
  have := Lib.itoa_length_le (u : Int) (by omega) (by omega)
  rw [Lib.itoa, if_neg (by omega)] at this
  simpa using this
theorem ret_str {a b : ByteArray} (h : a = b) : Ending.returned (.string a) = .returned (.string b) := by rw [h]

set_option maxRecDepth 100000 in
set_option maxHeartbeats 800000 in
theorem decimal_nat (u : Nat) : u ≤ 9223372036854775807 → ∀ w : World,
    Calls Tryz.prog 47 #[.int .i64 (u : Int)] w fun e w' => e = .returned (.string ⟨(Lib.decDigits u).toArray⟩) ∧ Below w.heap.size w w' := by
  induction u using Nat.strongRecOn with
  | _ u ih =>
    intro hu w
    have n0 : ¬ (u : Int) < 0 := by omega
    by_cases h : u < 10
    · have h' : (u : Int) < 10 := by omega
      obtain ⟨ch, hch⟩ : ∃ ch, UInt8.ofNat (48 + u) = ch := ⟨_, rfl⟩
      have hcv := conv_one w ch (48 + (u : Int)) (by rw [← hch]; simp; omega)
      have HD : Hid (Lib.decDigits u = [ch]) := by show _ = _; rw [Lib.decDigits_one h, hch]
      clear hch ih
      go_enter Tryz.func47, Tryz.ntmps47
      go_wp2
      go_ret
      exact ⟨ret_str (by rw [HD.out]), (Below.refl _ _).alloc (Nat.le_refl _) _⟩
    · have h' : ¬ (u : Int) < 10 := by omega
      have hD := ih (u / 10) (by omega) (by omega)
      have hq : (u : Int).tdiv 10 = ((u / 10 : Nat) : Int) := by rw [Int.tdiv_eq_ediv_of_nonneg (by omega)]; omega
      have hr : (u : Int).tmod 10 = ((u % 10 : Nat) : Int) := by rw [Int.tmod_eq_emod_of_nonneg (by omega)]; omega
      obtain ⟨q, hqd⟩ : ∃ q, u / 10 = q := ⟨_, rfl⟩
      obtain ⟨r, hrd⟩ : ∃ r, u % 10 = r := ⟨_, rfl⟩
      have r10 : r < 10 := by omega
      have q9 : q ≤ 922337203685477580 := by omega
      have ql := dec_len (u := q) (by omega)
      have hwq : wrap64 (q : Int) = (q : Int) := by unfold wrap64; omega
      rw [hqd] at hD hq
      rw [hrd] at hr
      obtain ⟨ch, hch⟩ : ∃ ch, UInt8.ofNat (48 + r) = ch := ⟨_, rfl⟩
      have hcn : (ch.toNat : Int) = 48 + (r : Int) := by rw [← hch]; simp; omega
      have HD : Hid (Lib.decDigits u = Lib.decDigits q ++ [ch]) := by
        show _ = _
        rw [Lib.decDigits, dif_neg h, hqd, hrd, hch]
      have HC : Hid ((ch.toNat : Int) = 48 + (r : Int)) := hcn
      clear hqd hrd ih hch hcn
      go_enter Tryz.func47, Tryz.ntmps47
      go_wp2_with (go_at_call 47; refine (hD _).mono ?_; rintro e w1 ⟨rfl, hb⟩; have hcv := conv_one w1 ch (48 + (r : Int)) HC.out)
      go_ret
      exact ⟨ret_str (by rw [HD.out, ← bytes_snoc]), hb.alloc hb.size _⟩

set_option maxRecDepth 100000 in
set_option maxHeartbeats 800000 in
theorem decimal_any (z : Int) (h0 : -9223372036854775807 ≤ z) (h1 : z ≤ 9223372036854775807) (w : World) :
    Calls Tryz.prog 47 #[.int .i64 z] w fun e w' => e = .returned (.string ⟨(Lib.itoa z).toArray⟩) ∧ Below w.heap.size w w' := by
  by_cases hz : z < 0
  · obtain ⟨u, rfl⟩ : ∃ u : Nat, z = -(u : Int) := ⟨z.natAbs, by omega⟩
    have hD := decimal_nat u (by omega)
    have hu0 : 1 ≤ u := by omega
    have hu9 : u ≤ 9223372036854775807 := by omega
    have ul := dec_len hu9
    have hwu : wrap64 (u : Int) = (u : Int) := by unfold wrap64; omega
    go_enter Tryz.func47, Tryz.ntmps47
    go_wp2_with (go_at_call 47; refine (hD _).mono ?_; rintro e w1 ⟨rfl, hb⟩)
    go_ret
    refine ⟨ret_str ?_, hb⟩
    rw [Lib.itoa, if_pos hz]
    apply ByteArray.ext
    simp
  · obtain ⟨u, rfl⟩ : ∃ u : Nat, z = (u : Int) := ⟨z.toNat, by omega⟩
    have := decimal_nat u (by omega) w
    rw [Lib.itoa, if_neg hz]
    simpa using this

end Go.Proofs.YtiohpcnnpmnjhaaGreatDoor

namespace Go.Proofs.YtiohpcnnpmnjhaaGreatDoor
open Go.RowKit
set_option linter.unusedVariables false

set_option maxRecDepth 100000 in
set_option maxHeartbeats 1600000 in
theorem rrun_any (n : Nat) (c : UInt8) (hn : n ≤ 100000000) (w : World) :
    Calls Tryz.prog 48 #[.int .i64 (n : Int), .string ⟨#[c]⟩] w fun e w' => e = .returned (.string ⟨(runB n c).toArray⟩) ∧ Below w.heap.size w w' := by
  by_cases h0 : n = 0
  · subst h0
    go_enter Tryz.func48, Tryz.ntmps48
    go_wp2
    go_ret
    exact ⟨ret_str (by rw [runB_zero]), Below.refl _ _⟩
  have e0 : ((n : Int) == 0) = false := by simp; omega
  by_cases h1 : n = 1
  · subst h1
    go_enter Tryz.func48, Tryz.ntmps48
    go_wp2
    go_ret
    exact ⟨ret_str (by rw [runB_one]), Below.refl _ _⟩
  have e1 : ((n : Int) == 1) = false := by simp; omega
  have hD9 := fun w => decimal_any 9999 (by omega) (by omega) w
  clear h1
  go_enter Tryz.func48, Tryz.ntmps48
  go_wp2
  go_loopg [0, 5] n (fun g vn vs wr => ∃ (m : Nat) (acc : List UInt8), 1 ≤ m ∧ m ≤ n ∧ g = 0 + m ∧ vn = .int .i64 (m : Int) ∧ vs = .string ⟨acc.toArray⟩ ∧ acc.length ≤ 5 * (n - m) ∧ Below w.heap.size w wr ∧ Hid (runB n c = acc ++ runB m c))
  case atStart => exact ⟨n, [], by omega, Nat.le_refl _, (Nat.zero_add _).symm, rfl, rfl, by simp, Below.refl _ _, rfl⟩
  case round =>
    obtain ⟨m, acc, hm, hm', rfl, rfl, rfl, hal, hb, hr⟩ := hrel
    by_cases hbig : 9999 < m
    · have hbi : 9999 < (m : Int) := by omega
      have h9 := itoa_len4 (n := 9999) (by omega)
      have HR : Hid (runB n c = acc ++ Lib.itoa 9999 ++ [c] ++ runB (m - 9999) c) := by
        show _ = _
        rw [hr.out, runB_big c hbig]; simp
      obtain ⟨D, hDd⟩ : ∃ D, Lib.itoa 9999 = D := ⟨_, rfl⟩
      rw [show ((9999 : Nat) : Int) = 9999 from rfl, hDd] at h9
      rw [hDd] at HR
      simp only [hDd] at hD9
      clear hDd
      go_wp2_with (go_at_call 47; refine (hD9 _).mono ?_; rintro e w1 ⟨rfl, hb1⟩)
      go_roundg (m - 9999)
      case measure => omega
      case rel =>
        refine ⟨m - 9999, acc ++ D ++ [c], by omega, by omega, (Nat.zero_add _).symm, by rw [show ((m - 9999 : Nat) : Int) = (m : Int) - 9999 by omega], ?_, by simp; omega, hb.trans (hb1.mono hb.size), HR.out⟩
        rw [← bytes_snoc, ← bytes_cat]
    · have hbi : ¬ 9999 < (m : Int) := by omega
      by_cases hm1 : m = 1
      · subst hm1
        have HR : Hid (runB n c = acc ++ [c]) := by show _ = _; rw [hr.out, runB_one]
        go_wp2
        go_ret
        exact ⟨ret_str (by rw [HR.out, ← bytes_snoc]), hb⟩
      · have e2 : ((m : Int) == 1) = false := by simp; omega
        have h4 := itoa_len4 (n := m) (by omega)
        have HR : Hid (runB n c = acc ++ Lib.itoa (m : Int) ++ [c]) := by show _ = _; rw [hr.out, runB_small c (by omega) (by omega)]; simp
        have hDm := fun w => decimal_any (m : Int) (by omega) (by omega) w
        go_wp2_with (go_at_call 47; refine (hDm _).mono ?_; rintro e w1 ⟨rfl, hb1⟩)
        go_ret
        exact ⟨ret_str (by rw [HR.out, ← bytes_snoc, ← bytes_cat]), hb.trans (hb1.mono hb.size)⟩

end Go.Proofs.YtiohpcnnpmnjhaaGreatDoor

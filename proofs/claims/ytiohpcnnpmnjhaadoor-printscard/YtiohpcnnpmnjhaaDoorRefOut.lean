import Derived.Test.YtiohpcnnpmnjhaaDoorRefDec
namespace Go.Proofs.YtiohpcnnpmnjhaaDoor
open Go.RowKit
set_option linter.unusedVariables false

set_option maxRecDepth 100000 in
set_option maxHeartbeats 1600000 in
theorem rrun_any (n : Nat) (c : UInt8) (hn : n ≤ 100000000) (w : World) :
    Calls Tryd.prog 16 #[.int .i64 (n : Int), .string ⟨#[c]⟩] w fun e w' => e = .returned (.string ⟨(runB n c).toArray⟩) ∧ Below w.heap.size w w' := by
  by_cases h0 : n = 0
  · subst h0
    go_enter Tryd.func16, Tryd.ntmps16
    go_wp2
    go_ret
    exact ⟨ret_str (by rw [runB_zero]), Below.refl _ _⟩
  have e0 : ((n : Int) == 0) = false := by simp; omega
  by_cases h1 : n = 1
  · subst h1
    go_enter Tryd.func16, Tryd.ntmps16
    go_wp2
    go_ret
    exact ⟨ret_str (by rw [runB_one]), Below.refl _ _⟩
  have e1 : ((n : Int) == 1) = false := by simp; omega
  have hD9 := fun w => decimal_any 9999 (by omega) (by omega) w
  clear h1
  go_enter Tryd.func16, Tryd.ntmps16
  go_wp2
  go_loopg [0, 5] n (fun g vn vs wr => ∃ (m : Nat) (acc : List UInt8), 1 ≤ m ∧ m ≤ n ∧ g = 0 + m ∧ vn = .int .i64 (m : Int) ∧ vs = .string ⟨acc.toArray⟩ ∧ acc.length ≤ 5 * (n - m) ∧ Below w.heap.size w wr ∧ Hid (runB n c = acc ++ runB m c))
  case atStart => exact ⟨n, [], by omega, Nat.le_refl _, (Nat.zero_add _).symm, rfl, rfl, by simp, Below.refl _ _, rfl⟩
  case round =>
    obtain ⟨m, acc, hm, hm', rfl, rfl, rfl, hal, hb, hr⟩ := hrel
    by_cases hbig : 9999 < m
    · have hbi : 9999 < (m : Int) := by omega
      have h9 := itoa_len4 (n := 9999) (by omega)
      have HR : Hid (runB n c = acc ++ Lib.itoa 9999 ++ [c] ++ runB (m - 9999) c) := by
        show _ = _
        rw [hr.out, runB_big c hbig]; simp
      obtain ⟨D, hDd⟩ : ∃ D, Lib.itoa 9999 = D := ⟨_, rfl⟩
      rw [show ((9999 : Nat) : Int) = 9999 from rfl, hDd] at h9
      rw [hDd] at HR
      simp only [hDd] at hD9
      clear hDd
      go_wp2_with (go_at_call 15; refine (hD9 _).mono ?_; rintro e w1 ⟨rfl, hb1⟩)
      go_roundg (m - 9999)
      case measure => omega
      case rel =>
        refine ⟨m - 9999, acc ++ D ++ [c], by omega, by omega, (Nat.zero_add _).symm, by rw [show ((m - 9999 : Nat) : Int) = (m : Int) - 9999 by omega], ?_, by simp; omega, hb.trans (hb1.mono hb.size), HR.out⟩
        rw [← bytes_snoc, ← bytes_cat]
    · have hbi : ¬ 9999 < (m : Int) := by omega
      by_cases hm1 : m = 1
      · subst hm1
        have HR : Hid (runB n c = acc ++ [c]) := by show _ = _; rw [hr.out, runB_one]
        go_wp2
        go_ret
        exact ⟨ret_str (by rw [HR.out, ← bytes_snoc]), hb⟩
      · have e2 : ((m : Int) == 1) = false := by simp; omega
        have h4 := itoa_len4 (n := m) (by omega)
        have HR : Hid (runB n c = acc ++ Lib.itoa (m : Int) ++ [c]) := by show _ = _; rw [hr.out, runB_small c (by omega) (by omega)]; simp
        have hDm := fun w => decimal_any (m : Int) (by omega) (by omega) w
        go_wp2_with (go_at_call 15; refine (hDm _).mono ?_; rintro e w1 ⟨rfl, hb1⟩)
        go_ret
        exact ⟨ret_str (by rw [HR.out, ← bytes_snoc, ← bytes_cat]), hb.trans (hb1.mono hb.size)⟩

end Go.Proofs.YtiohpcnnpmnjhaaDoor

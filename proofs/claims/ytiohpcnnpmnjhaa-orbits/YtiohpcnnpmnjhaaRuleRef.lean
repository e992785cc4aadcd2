import Derived.Test.YtiohpcnnpmnjhaaRuleRead2
import Derived.Deep.Cut
namespace Go.Proofs.Ytiohpcnnpmnjhaa
open Go.RowKit
set_option linter.unusedVariables false

set_option maxRecDepth 100000 in
set_option maxHeartbeats 800000 in
theorem digits_any (s : ByteArray) (i0 : Nat) (lo0 : Int) (w : World) (hi0 : i0 ≤ s.size) (hs : s.size ≤ 24) (hl0 : 48 ≤ lo0) (hl1 : lo0 ≤ 57) :
    Calls Try.prog 14 #[.string s, .int .i64 i0, .int .u8 lo0] w fun e w' => e = .returned (.tuple #[.agg (nine (riseTab s i0 lo0)), .int .i64 (riseEnd s i0 lo0)]) ∧ Below w.heap.size w w' := by
  go_enter Try.func14, Try.ntmps14
  go_wp2
  go_loopw [1, 2] (fun vi vlo wr => ∃ (i : Nat) (lo : Int) (f : Nat → Bool), vi = .int .i64 i ∧ vlo = .int .u8 lo ∧ i ≤ s.size ∧ 48 ≤ lo ∧ lo ≤ 57 ∧ Hid (riseEnd s i lo = riseEnd s i0 lo0) ∧ Hid (riseAt s i lo f = riseTab s i0 lo0) ∧ wr = (w.alloc (.cells (nine fun _ => false) 25)).alloc (.cells (nine f) 25)) (fun _ v _ => (57 - intOf v).toNat)
  case atStart => exact ⟨i0, lo0, fun _ => false, rfl, rfl, hi0, hl0, hl1, rfl, rfl, rfl⟩
  case round =>
    obtain ⟨i, lo, f, rfl, rfl, hi, hl, hl', hr, hf, rfl⟩ := hrel
    have hpb := pk_bd s i
    have stop : (i < s.size → ¬ (lo ≤ pk s i ∧ pk s i ≤ 56)) → Hid (i = riseEnd s i0 lo0) ∧ Hid (f = riseTab s i0 lo0) := fun hn =>
      ⟨(riseEnd_stop (s := s) (i := i) (lo := lo) hn).symm.trans hr.out, (riseAt_stop (s := s) (i := i) (lo := lo) (f := f) hn).symm.trans hf.out⟩
    by_cases hlt : i < s.size
    · have hpk : pk s i = (s[i].toNat : Int) := pk_in hlt
      by_cases h1 : lo ≤ pk s i
      · by_cases h2 : pk s i ≤ 56
        · have h1' : lo ≤ (s[i].toNat : Int) := by omega
          have h2' : (s[i].toNat : Int) ≤ 56 := by omega
          have hst := nine_set f (s[i].toNat - 48) (by omega)
          have hgt := nine_get f (s[i].toNat - 48) (by omega)
          have HR : Hid (riseEnd s (i + 1) ((s[i].toNat : Int) + 1) = riseEnd s i0 lo0) := by
            have := (riseEnd_go hlt h1 h2).symm.trans hr.out
            rw [hpk] at this; exact this
          have HF : Hid (riseAt s (i + 1) ((s[i].toNat : Int) + 1) (fun j => if j = s[i].toNat - 48 then true else f j) = riseTab s i0 lo0) := by
            have := (riseAt_go (f := f) hlt h1 h2).symm.trans hf.out
            rw [hpk, show ((s[i].toNat : Int) - 48).toNat = s[i].toNat - 48 by omega] at this; exact this
          obtain ⟨F2, hF2⟩ : ∃ F2, (fun j => if j = s[i].toNat - 48 then true else f j) = F2 := ⟨_, rfl⟩
          rw [hF2] at hst HF
          clear hpk h1 h2 hpb stop hr hf hF2
          go_wp2
          go_roundw
          case rel => exact ⟨i + 1, (s[i].toNat : Int) + 1, F2, by go_num, rfl, by omega, by omega, by omega, HR, HF, rfl⟩
          case measure => simp [intOf]; omega
        · have h1' : lo ≤ (s[i].toNat : Int) := by omega
          have h2' : ¬ (s[i].toNat : Int) ≤ 56 := by omega
          obtain ⟨HE, HT⟩ := stop (fun _ => by omega)
          clear hpk h1 h2 hpb stop hr hf
          simp only [nine]
          go_wp2
          exact bodyPost_ret (v := .tuple #[.agg (nine f), .int .i64 i]) (by simp [results, Try.results14, go_sem, nine]) rfl ⟨by rw [← HE.out, ← HT.out], ((Below.refl _ _).alloc (Nat.le_refl _) _).alloc (by simp) _⟩
      · have h1' : ¬ lo ≤ (s[i].toNat : Int) := by omega
        obtain ⟨HE, HT⟩ := stop (fun _ => by omega)
        clear hpk h1 hpb stop hr hf
        simp only [nine]
        go_wp2
        exact bodyPost_ret (v := .tuple #[.agg (nine f), .int .i64 i]) (by simp [results, Try.results14, go_sem, nine]) rfl ⟨by rw [← HE.out, ← HT.out], ((Below.refl _ _).alloc (Nat.le_refl _) _).alloc (by simp) _⟩
    · obtain ⟨HE, HT⟩ := stop (fun h => absurd h hlt)
      clear hpb stop hr hf
      simp only [nine]
      go_wp2
      exact bodyPost_ret (v := .tuple #[.agg (nine f), .int .i64 i]) (by simp [results, Try.results14, go_sem, nine]) rfl ⟨by rw [← HE.out, ← HT.out], ((Below.refl _ _).alloc (Nat.le_refl _) _).alloc (by simp) _⟩

end Go.Proofs.Ytiohpcnnpmnjhaa

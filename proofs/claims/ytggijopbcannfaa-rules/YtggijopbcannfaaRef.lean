import Derived.Test.YtggijopbcannfaaRead
import Derived.Test.YtggijopbcannfaaRows2
namespace Go.Proofs.Ytggijopbcannfaa
set_option linter.unusedVariables false
open Go.RowKit

/-- Nine bools. -/
def nine (f : Nat → Bool) : Array Value := #[.bool (f 0), .bool (f 1), .bool (f 2), .bool (f 3), .bool (f 4), .bool (f 5), .bool (f 6), .bool (f 7), .bool (f 8)]

theorem nine_get (f : Nat → Bool) (k : Nat) (h : k < 9) : (nine f)[k]? = some (.bool (f k)) := by
  match k, h with
  | 0, _ | 1, _ | 2, _ | 3, _ | 4, _ | 5, _ | 6, _ | 7, _ | 8, _ => rfl

theorem nine_set (f : Nat → Bool) (k : Nat) (h : k < 9) : (nine f).setIfInBounds k (.bool true) = nine (fun j => if j = k then true else f j) := by
  match k, h with
  | 0, _ | 1, _ | 2, _ | 3, _ | 4, _ | 5, _ | 6, _ | 7, _ | 8, _ => rfl

set_option maxHeartbeats 400000 in
theorem digits_any (s : ByteArray) (i0 : Nat) (lo0 : Int) (w : World) (hi0 : i0 ≤ s.size) (hs : s.size ≤ 24) (hl0 : 48 ≤ lo0) (hl1 : lo0 ≤ 57) :
    Calls Try.prog 10 #[.string s, .int .i64 i0, .int .u8 lo0] w fun e w' => (∃ f : Nat → Bool, e = .returned (.tuple #[.agg (nine f), .int .i64 (riseEnd s i0 lo0)])) ∧ Below w.heap.size w w' := by
  go_enter Try.func10, Try.ntmps10
  go_wp2
  go_loopw [1, 2] (fun vi vlo wr => ∃ (i : Nat) (lo : Int) (f : Nat → Bool), vi = .int .i64 i ∧ vlo = .int .u8 lo ∧ i ≤ s.size ∧ 48 ≤ lo ∧ lo ≤ 57 ∧ Hid (riseEnd s i lo = riseEnd s i0 lo0) ∧ wr = (w.alloc (.cells (nine fun _ => false) 25)).alloc (.cells (nine f) 25)) (fun _ v _ => (57 - intOf v).toNat)
  case atStart => exact ⟨i0, lo0, fun _ => false, rfl, rfl, hi0, hl0, hl1, rfl, rfl⟩
  case round =>
    obtain ⟨i, lo, f, rfl, rfl, hi, hl, hl', hr, rfl⟩ := hrel
    have hpb := pk_bd s i
    by_cases hlt : i < s.size
    · have hpk : pk s i = (s[i].toNat : Int) := pk_in hlt
      by_cases h1 : lo ≤ pk s i
      · by_cases h2 : pk s i ≤ 56
        · have h1' : lo ≤ (s[i].toNat : Int) := by omega
          have h2' : (s[i].toNat : Int) ≤ 56 := by omega
          have hst := nine_set f (s[i].toNat - 48) (by omega)
          have hgt := nine_get f (s[i].toNat - 48) (by omega)
          have hrg := riseEnd_go hlt h1 h2
          rw [hpk] at hrg
          clear hpk h1 h2 hpb
          have HR : Hid (riseEnd s i lo = riseEnd s (i + 1) ((s[i].toNat : Int) + 1)) := hrg
          clear hrg
          go_wp2
          go_roundw
          case rel => exact ⟨i + 1, (s[i].toNat : Int) + 1, _, by go_num, rfl, by omega, by omega, by omega, HR.out.symm.trans hr.out, rfl⟩
          case measure => simp [intOf]; omega
        · have h1' : lo ≤ (s[i].toNat : Int) := by omega
          have h2' : ¬ (s[i].toNat : Int) ≤ 56 := by omega
          have hst := riseEnd_stop (s := s) (i := i) (lo := lo) (fun _ => by omega)
          have HR : Hid (i = riseEnd s i0 lo0) := hst.symm.trans hr.out
          clear hpk h1 h2 hpb hst
          simp only [nine]
          go_wp2
          exact bodyPost_ret (v := .tuple #[.agg (nine f), .int .i64 i]) (by simp [results, Try.results10, go_sem, nine]) rfl ⟨⟨f, by rw [← HR.out]⟩, ((Below.refl _ _).alloc (Nat.le_refl _) _).alloc (by simp) _⟩
      · have h1' : ¬ lo ≤ (s[i].toNat : Int) := by omega
        have hst := riseEnd_stop (s := s) (i := i) (lo := lo) (fun _ => by omega)
        have HR : Hid (i = riseEnd s i0 lo0) := hst.symm.trans hr.out
        clear hpk h1 hpb hst
        simp only [nine]
        go_wp2
        exact bodyPost_ret (v := .tuple #[.agg (nine f), .int .i64 i]) (by simp [results, Try.results10, go_sem, nine]) rfl ⟨⟨f, by rw [← HR.out]⟩, ((Below.refl _ _).alloc (Nat.le_refl _) _).alloc (by simp) _⟩
    · have hst := riseEnd_stop (s := s) (i := i) (lo := lo) (fun h => absurd h hlt)
      have HR : Hid (i = riseEnd s i0 lo0) := hst.symm.trans hr.out
      clear hpb hst
      simp only [nine]
      go_wp2
      exact bodyPost_ret (v := .tuple #[.agg (nine f), .int .i64 i]) (by simp [results, Try.results10, go_sem, nine]) rfl ⟨⟨f, by rw [← HR.out]⟩, ((Below.refl _ _).alloc (Nat.le_refl _) _).alloc (by simp) _⟩

theorem nine_size (f : Nat → Bool) : (nine f).size = 9 := rfl
theorem nine_one (f : Nat → Bool) : (nine f).all (·.oneCell') = true := by simp [nine, Value.oneCell']
end Go.Proofs.Ytggijopbcannfaa

import Derived.Test.YtggijopbcannfaaReader
namespace Go.Proofs.Ytggijopbcannfaa
set_option linter.unusedVariables false
open Go.RowKit

/-- What a refusal panics with. -/
def refusal (k i : Int) : List PanicEntry := [{ v := .iface 37 (.agg #[.int .i64 k, .int .i64 i]), recovered := false }]

set_option maxHeartbeats 400000 in
theorem expect_hit (b : Nat) (s : ByteArray) (i : Nat) (c : Int) (w : World) (h : At w b s i) (hi : i ≤ s.size) (hs : s.size ≤ 24) (hc : pk s i = c) :
    Calls Try.prog 13 #[.pointer (some ⟨b, 0, none⟩), .int .u8 c] w fun e w' => e = .returned (.tuple #[]) ∧ At w' b s (i + 1) ∧ Below b w w' := by
  have hnot : ∀ (x : Bool) (w : World), (Op.unary .not (.bool x)).run Try.prog w = .ok (.bool (!x)) w := fun _ _ => rfl
  go_enter Try.func13, Try.ntmps13
  go_wp2_with (go_at_call 16; refine (take_hit b s i c _ h hi hs hc).mono ?_; rintro e w' ⟨rfl, ha, hb⟩)
  go_end0
  exact ⟨rfl, ha, hb⟩

set_option maxHeartbeats 400000 in
theorem expect_miss (b : Nat) (s : ByteArray) (i : Nat) (c : Int) (w : World) (h : At w b s i) (hi : i ≤ s.size) (hs : s.size ≤ 24) (hc : (pk s i == c) = false) :
    Calls Try.prog 13 #[.pointer (some ⟨b, 0, none⟩), .int .u8 c] w fun e w' => e = .panicked (refusal 3 i) ∧ Below b w w' := by
  go_enter Try.func13, Try.ntmps13
  go_wp2_with (first | (go_at_call 16; refine (take_miss b s i c _ h hi hs hc).mono ?_; rintro e w' ⟨rfl, n, rfl⟩) | (go_at_call 17; refine (refuse_any b s i _ (h.drewN _)).mono ?_; rintro e w' ⟨rfl, m, rfl⟩))
  exact ⟨rfl, rfl, below_drewN (Below.refl _ _) _⟩

set_option maxHeartbeats 400000 in
theorem expectEnd_hit (b : Nat) (s : ByteArray) (i : Nat) (w : World) (h : At w b s i) (hi : i = s.size) (hs : s.size ≤ 24) :
    Calls Try.prog 15 #[.pointer (some ⟨b, 0, none⟩)] w fun e w' => e = .returned (.tuple #[]) ∧ Below b w w' := by
  obtain ⟨c0, c1, c2, fz⟩ := h
  subst hi
  go_enter Try.func15, Try.ntmps15
  go_wp2
  go_quiet (fail)
  go_wp2
  go_end0
  exact ⟨rfl, below_drewN (Below.refl _ _) _⟩

set_option maxHeartbeats 400000 in
theorem expectEnd_miss (b : Nat) (s : ByteArray) (i : Nat) (w : World) (h : At w b s i) (hi : i < s.size) (hs : s.size ≤ 24) :
    Calls Try.prog 15 #[.pointer (some ⟨b, 0, none⟩)] w fun e w' => e = .panicked (refusal 3 i) ∧ Below b w w' := by
  have h' := h
  obtain ⟨c0, c1, c2, fz⟩ := h
  go_enter Try.func15, Try.ntmps15
  go_wp2
  go_quiet (fail)
  go_wp2_with (go_at_call 17; refine (refuse_any b s i _ (h'.drewN _)).mono ?_; rintro e w' ⟨rfl, m, rfl⟩)
  exact ⟨rfl, rfl, below_drewN (Below.refl _ _) _⟩

set_option maxHeartbeats 800000 in
theorem rising_any (b : Nat) (s : ByteArray) (i0 : Nat) (lo0 : Int) (w : World) (h : At w b s i0) (hi0 : i0 ≤ s.size) (hs : s.size ≤ 24) (hl0 : 1 ≤ lo0) (hl1 : lo0 ≤ 57) :
    Calls Try.prog 14 #[.pointer (some ⟨b, 0, none⟩), .int .u8 lo0] w fun e w' => e = .returned (.tuple #[]) ∧ At w' b s (riseEnd s i0 lo0) ∧ Below b w w' := by
  go_enter Try.func14, Try.ntmps14
  go_wp2
  go_loopw [1] (fun v wr => ∃ (i : Nat) (lo : Int), v = .int .u8 lo ∧ i ≤ s.size ∧ 1 ≤ lo ∧ lo ≤ 57 ∧ At wr b s i ∧ Below b w wr ∧ Hid (riseEnd s i lo = riseEnd s i0 lo0)) (fun v _ => (57 - intOf v).toNat)
  case atStart => exact ⟨i0, lo0, rfl, hi0, hl0, hl1, h, Below.refl _ _, rfl⟩
  case round =>
    obtain ⟨i, lo, rfl, hi, hl, hl', ha, hb, hr⟩ := hrel
    have hpb := pk_bd s i
    by_cases h1 : lo ≤ pk s i
    · by_cases h2 : pk s i ≤ 56
      · have hlt : i < s.size := by
          by_cases hlt : i < s.size
          · exact hlt
          · have := pk_out hlt; omega
        have ⟨c0, c1, c2, fz⟩ := ha
        go_wp2_with (go_at_call 18; refine (peek_any b s i _ ?_ hi hs).mono ?_; (first | exact ha | exact ha.drewN _); rintro e w' ⟨rfl, n, rfl⟩)
        go_roundw
        case rel => exact ⟨i + 1, pk s i + 1, rfl, by omega, by omega, by omega, (ha.drewN _).step, (below_drewN hb _).setCell (p := ⟨b, 1, none⟩) (Nat.le_refl b) _, (riseEnd_go hlt h1 h2).symm.trans hr.out⟩
        case measure => simp [intOf]; omega
      · go_wp2_with (go_at_call 18; refine (peek_any b s i _ ?_ hi hs).mono ?_; (first | exact ha | exact ha.drewN _); rintro e w' ⟨rfl, n, rfl⟩)
        go_end0
        have hst := riseEnd_stop (s := s) (i := i) (lo := lo) (fun _ => by omega)
        exact ⟨rfl, by rw [← hr.out, hst]; exact ha.drewN _, below_drewN hb _⟩
    · go_wp2_with (go_at_call 18; refine (peek_any b s i _ ?_ hi hs).mono ?_; (first | exact ha | exact ha.drewN _); rintro e w' ⟨rfl, n, rfl⟩)
      go_end0
      have hst := riseEnd_stop (s := s) (i := i) (lo := lo) (fun _ => by omega)
      exact ⟨rfl, by rw [← hr.out, hst]; exact ha.drewN _, below_drewN hb _⟩
end Go.Proofs.Ytggijopbcannfaa

import Derived.Test.YtggijopbcannfaaPlain
import Derived.Deep.QuietTactic
import Derived.BigQuiet
import Derived.Deep.RegionWith
namespace Go.Proofs.Ytggijopbcannfaa
set_option linter.unusedVariables false
open Go.RowKit

theorem ret_int {k : IntKind} {a b : Int} (h : a = b) : Ending.returned (.int k a) = .returned (.int k b) := by rw [h]

theorem At.step {w : World} {b : Nat} {s : ByteArray} {i : Nat} (h : At w b s i) : At (w.setCell ⟨b, 1, none⟩ (.int .i64 ((i : Int) + 1))) b s (i + 1) :=
  ⟨by rw [World.cell?_setCell_other _ _ _ _ (by simp)]; exact h.c0, by rw [World.cell?_setCell_same _ _ _ h.c1]; simp,
    by rw [World.cell?_setCell_other _ _ _ _ (by simp)]; exact h.c2, by simpa using h.fz⟩

set_option maxHeartbeats 400000 in
theorem peek_any (b : Nat) (s : ByteArray) (i : Nat) (w : World) (h : At w b s i) (hi : i ≤ s.size) (hs : s.size ≤ 24) :
    Calls Try.prog 18 #[.pointer (some ⟨b, 0, none⟩)] w fun e w' => e = .returned (.int .u8 (pk s i)) ∧ ∃ n, w' = w.drewN n := by
  obtain ⟨c0, c1, c2, fz⟩ := h
  by_cases hlt : i < s.size
  · have hne : ((i : Int) == (s.size : Int)) = false := by simp; omega
    have hpk := pk_in hlt
    go_enter Try.func18, Try.ntmps18
    go_wp2
    go_quiet (fail)
    go_wp2
    go_quiet (fail)
    go_wp2
    go_ret
    exact ⟨ret_int hpk.symm, _, World.drewN_drewN _ _ _⟩
  · have hne : i = s.size := by omega
    subst hne
    have hpk := pk_out hlt
    go_enter Try.func18, Try.ntmps18
    go_wp2
    go_quiet (fail)
    go_wp2
    go_ret
    exact ⟨ret_int hpk.symm, _, rfl⟩

set_option maxHeartbeats 400000 in
theorem giveUp_any (k i : Int) (w : World) :
    Calls Try.prog 12 #[.int .i64 k, .int .i64 i] w fun e w' => e = .panicked [{ v := .iface 37 (.agg #[.int .i64 k, .int .i64 i]), recovered := false }] ∧ w' = w := by
  go_enter Try.func12, Try.ntmps12
  go_wp2
  exact ⟨rfl, rfl, rfl⟩

set_option maxHeartbeats 400000 in
theorem refuse_any (b : Nat) (s : ByteArray) (i : Nat) (w : World) (h : At w b s i) :
    Calls Try.prog 17 #[.pointer (some ⟨b, 0, none⟩)] w fun e w' => e = .panicked [{ v := .iface 37 (.agg #[.int .i64 3, .int .i64 i]), recovered := false }] ∧ ∃ n, w' = w.drewN n := by
  obtain ⟨c0, c1, c2, fz⟩ := h
  go_enter Try.func17, Try.ntmps17
  go_wp2
  refine wp_region_any (by kernel_rfl) ?_
  change wpAny _ _ _ _ _ _ _ (World.drew _)
  refine wpAny_take (i := 0) (v := .pointer (some ⟨b, 0, none⟩)) rfl (by kernel_rfl) (by kernel_rfl) (by kernel_rfl) (fun _ _ _ h => h) (Or.inl ⟨by rfl, fun w => by go_simp⟩) ?_
  refine wpAny_take (i := 1) (v := .pointer (some ⟨b, 0, none⟩)) rfl (by kernel_rfl) (by kernel_rfl) (by kernel_rfl) (fun _ _ _ h => h) (Or.inl ⟨by rfl, fun w => by go_simp⟩) ?_
  refine wpAny_take (i := 2) (v := .pointer (some ⟨b, 2, none⟩)) rfl (by kernel_rfl) (by kernel_rfl) (by kernel_rfl) (fun _ _ _ h => h) (Or.inl ⟨by rfl, fun w => by go_simp⟩) ?_
  refine wpAny_take (i := 4) (v := .pointer (some ⟨b, 0, none⟩)) rfl (by kernel_rfl) (by kernel_rfl) (by kernel_rfl) (fun _ _ _ h => h) (Or.inl ⟨by rfl, fun w => by go_simp⟩) ?_
  refine wpAny_take (i := 5) (v := .pointer (some ⟨b, 0, none⟩)) rfl (by kernel_rfl) (by kernel_rfl) (by kernel_rfl) (fun _ _ _ h => h) (Or.inl ⟨by rfl, fun w => by go_simp⟩) ?_
  refine wpAny_take (i := 6) (v := .pointer (some ⟨b, 1, none⟩)) rfl (by kernel_rfl) (by kernel_rfl) (by kernel_rfl) (fun _ _ _ h => h) (Or.inl ⟨by rfl, fun w => by go_simp⟩) ?_
  refine wpAny_ready (rs := [3, 7]) (by kernel_rfl) (by simp) (AllReady.cons rfl (fun K hK => ?_) (AllReady.cons rfl (fun K hK => ?_) AllReady.nil))
  · go_simp
    refine hK _ _ ?_; clear hK K
    refine wpAny_ready (rs := [7]) (by kernel_rfl) (by simp) (AllReady.cons rfl (fun K hK => ?_) AllReady.nil)
    go_simp
    refine hK _ _ ?_; clear hK K
    refine wpAny_ready (rs := [8]) (by kernel_rfl) (by simp) (AllReady.cons rfl (fun K hK => ?_) AllReady.nil)
    go_simp
    go_wp2_with (go_at_call 12; refine (giveUp_any _ _ _).mono ?_; rintro e w' ⟨rfl, rfl⟩)
    exact ⟨rfl, rfl, 1, rfl⟩
  · go_simp
    refine hK _ _ ?_; clear hK K
    refine wpAny_ready (rs := [3]) (by kernel_rfl) (by simp) (AllReady.cons rfl (fun K hK => ?_) AllReady.nil)
    go_simp
    refine hK _ _ ?_; clear hK K
    refine wpAny_ready (rs := [8]) (by kernel_rfl) (by simp) (AllReady.cons rfl (fun K hK => ?_) AllReady.nil)
    go_simp
    go_wp2_with (go_at_call 12; refine (giveUp_any _ _ _).mono ?_; rintro e w' ⟨rfl, rfl⟩)
    exact ⟨rfl, rfl, 1, rfl⟩

set_option maxHeartbeats 400000 in
theorem take_hit (b : Nat) (s : ByteArray) (i : Nat) (c : Int) (w : World) (h : At w b s i) (hi : i ≤ s.size) (hs : s.size ≤ 24) (hc : pk s i = c) :
    Calls Try.prog 16 #[.pointer (some ⟨b, 0, none⟩), .int .u8 c] w fun e w' => e = .returned (.bool true) ∧ At w' b s (i + 1) ∧ Below b w w' := by
  have h' := h
  obtain ⟨c0, c1, c2, fz⟩ := h
  subst hc
  go_enter Try.func16, Try.ntmps16
  go_wp2_with (go_at_call 18; refine (peek_any b s i _ h' hi hs).mono ?_; rintro e w' ⟨rfl, n, rfl⟩)
  go_ret
  exact ⟨rfl, (h'.drewN n).step, (below_drewN (Below.refl b w) n).setCell (p := ⟨b, 1, none⟩) (Nat.le_refl b) _⟩

set_option maxHeartbeats 400000 in
theorem take_miss (b : Nat) (s : ByteArray) (i : Nat) (c : Int) (w : World) (h : At w b s i) (hi : i ≤ s.size) (hs : s.size ≤ 24) (hc : (pk s i == c) = false) :
    Calls Try.prog 16 #[.pointer (some ⟨b, 0, none⟩), .int .u8 c] w fun e w' => e = .returned (.bool false) ∧ ∃ n, w' = w.drewN n := by
  go_enter Try.func16, Try.ntmps16
  go_wp2_with (go_at_call 18; refine (peek_any b s i _ h hi hs).mono ?_; rintro e w' ⟨rfl, n, rfl⟩)
  go_ret
  exact ⟨rfl, _, rfl⟩
end Go.Proofs.Ytggijopbcannfaa

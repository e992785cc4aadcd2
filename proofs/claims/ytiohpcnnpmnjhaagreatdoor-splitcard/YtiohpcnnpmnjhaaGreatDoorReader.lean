import Derived.Test.YtiohpcnnpmnjhaaGreatDoorBytes
import Derived.Deep.QuietTactic
import Derived.BigQuiet
import Derived.Deep.RegionWith
namespace Go.Proofs.YtiohpcnnpmnjhaaGreatDoor
open Go.RowKit
set_option linter.unusedVariables false

theorem ret_int {k : IntKind} {a b : Int} (h : a = b) : Ending.returned (.int k a) = .returned (.int k b) := by rw [h]
theorem ret_bool {a b : Bool} (h : a = b) : Ending.returned (.bool a) = .returned (.bool b) := by rw [h]

/-- The reader's block: the text, the place, the error. -/
structure At (w : World) (b : Nat) (s : ByteArray) (k : Int) (i : Nat) : Prop where
  c0 : w.cell? ⟨b, 0, none⟩ = some (.string s)
  c1 : w.cell? ⟨b, 1, none⟩ = some (.int .i64 (i : Int))
  c2 : w.cell? ⟨b, 2, none⟩ = some (.int .i64 k)
  fz : w.frozen? ⟨b, 1, none⟩ = false

theorem At.drewN {w : World} {b : Nat} {s : ByteArray} {k : Int} {i : Nat} (h : At w b s k i) (n : Nat) : At (w.drewN n) b s k i := ⟨h.c0, h.c1, h.c2, h.fz⟩
theorem At.step {w : World} {b : Nat} {s : ByteArray} {k : Int} {i : Nat} (h : At w b s k i) : At (w.setCell ⟨b, 1, none⟩ (.int .i64 ((i : Int) + 1))) b s k (i + 1) :=
  ⟨by rw [World.cell?_setCell_other _ _ _ _ (by simp)]; exact h.c0, by rw [World.cell?_setCell_same _ _ _ h.c1]; simp,
    by rw [World.cell?_setCell_other _ _ _ _ (by simp)]; exact h.c2, by simpa using h.fz⟩
theorem At.lt {w : World} {b : Nat} {s : ByteArray} {k : Int} {i : Nat} (h : At w b s k i) : b < w.heap.size := World.block_lt_of_cell? w _ h.c0

/-- Nothing but block b has turned, and none has been laid. -/
structure Near (b : Nat) (w w' : World) : Prop where
  os : w'.os = w.os
  tape : w'.tape = w.tape
  output : w'.output = w.output
  size : w'.heap.size = w.heap.size
  block : ∀ k, k ≠ b → w'.heap[k]? = w.heap[k]?
theorem Near.refl (b : Nat) (w : World) : Near b w w := ⟨rfl, rfl, rfl, rfl, fun _ _ => rfl⟩
theorem Near.trans {g : Nat} {a b c : World} (h : Near g a b) (k : Near g b c) : Near g a c :=
  ⟨k.os.trans h.os, k.tape.trans h.tape, k.output.trans h.output, k.size.trans h.size, fun i hi => (k.block i hi).trans (h.block i hi)⟩
theorem Near.drewN {b : Nat} {w w' : World} (h : Near b w w') (n : Nat) : Near b w (w'.drewN n) := ⟨h.os, h.tape, h.output, h.size, h.block⟩
theorem Near.setCell {b : Nat} {w w' : World} (h : Near b w w') (i : Nat) (v : Value) : Near b w (w'.setCell ⟨b, i, none⟩ v) :=
  h.trans ⟨rfl, rfl, rfl, by simp [World.setCell], fun k hk => Below.heap_setCell _ _ _ _ hk⟩
theorem Near.below {b B : Nat} {w w' : World} (h : Near b w w') (hB : B ≤ b) : Below B w w' :=
  ⟨h.os, h.tape, h.output, Nat.le_of_eq h.size.symm, fun k hk => h.block k (by omega)⟩
theorem Near.cell {b : Nat} {w w' : World} (h : Near b w w') {p : Addr} (hp : p.block ≠ b) : w'.cell? p = w.cell? p := World.cell?_of_block (w := w) (h.block p.block hp)
theorem Near.frozen {b : Nat} {w w' : World} (h : Near b w w') {p : Addr} (hp : p.block ≠ b) : w'.frozen? p = w.frozen? p := World.frozen?_of_block (w := w) (h.block p.block hp)

/-- What a refusal panics with. -/
def refusal (k i : Int) : List PanicEntry := [{ v := .iface 111 (.agg #[.int .i64 k, .int .i64 i]), recovered := false }]

set_option maxHeartbeats 400000 in
theorem peek_any (b : Nat) (s : ByteArray) (k : Int) (i : Nat) (w : World) (h : At w b s k i) (hi : i ≤ s.size) (hs : s.size ≤ 1500) :
    Calls Tryz.prog 116 #[.pointer (some ⟨b, 0, none⟩)] w fun e w' => e = .returned (.int .u8 (pk s i)) ∧ ∃ n, w' = w.drewN n := by
  obtain ⟨c0, c1, c2, fz⟩ := h
  by_cases hlt : i < s.size
  · have hne : ((i : Int) == (s.size : Int)) = false := by simp; omega
    have hpk := pk_in hlt
    go_enter Tryz.func116, Tryz.ntmps116
    go_wp2
    go_quiet (fail)
    go_wp2
    go_quiet (fail)
    go_wp2
    go_ret
    exact ⟨ret_int hpk.symm, _, World.drewN_drewN _ _ _⟩
  · have hne : i = s.size := by omega
    subst hne
    have hpk := pk_out hlt
    go_enter Tryz.func116, Tryz.ntmps116
    go_wp2
    go_quiet (fail)
    go_wp2
    go_ret
    exact ⟨ret_int hpk.symm, _, rfl⟩

set_option maxHeartbeats 400000 in
theorem giveUp_any (k i : Int) (w : World) :
    Calls Tryz.prog 71 #[.int .i64 k, .int .i64 i] w fun e w' => e = .panicked (refusal k i) ∧ w' = w := by
  go_enter Tryz.func71, Tryz.ntmps71
  go_wp2
  exact ⟨rfl, rfl, rfl⟩

set_option maxHeartbeats 400000 in
theorem refuse_any (b : Nat) (s : ByteArray) (k : Int) (i : Nat) (w : World) (h : At w b s k i) :
    Calls Tryz.prog 115 #[.pointer (some ⟨b, 0, none⟩)] w fun e w' => e = .panicked (refusal k i) ∧ ∃ n, w' = w.drewN n := by
  obtain ⟨c0, c1, c2, fz⟩ := h
  go_enter Tryz.func115, Tryz.ntmps115
  go_wp2
  refine wp_region_any (by kernel_rfl) ?_
  change wpAny _ _ _ _ _ _ _ (World.drew _)
  refine wpAny_take (i := 0) (v := .pointer (some ⟨b, 0, none⟩)) rfl (by kernel_rfl) (by kernel_rfl) (by kernel_rfl) (fun _ _ _ h => h) (Or.inl ⟨by rfl, fun w => by go_simp⟩) ?_
  refine wpAny_take (i := 1) (v := .pointer (some ⟨b, 0, none⟩)) rfl (by kernel_rfl) (by kernel_rfl) (by kernel_rfl) (fun _ _ _ h => h) (Or.inl ⟨by rfl, fun w => by go_simp⟩) ?_
  refine wpAny_take (i := 2) (v := .pointer (some ⟨b, 2, none⟩)) rfl (by kernel_rfl) (by kernel_rfl) (by kernel_rfl) (fun _ _ _ h => h) (Or.inl ⟨by rfl, fun w => by go_simp⟩) ?_
  refine wpAny_take (i := 4) (v := .pointer (some ⟨b, 0, none⟩)) rfl (by kernel_rfl) (by kernel_rfl) (by kernel_rfl) (fun _ _ _ h => h) (Or.inl ⟨by rfl, fun w => by go_simp⟩) ?_
  refine wpAny_take (i := 5) (v := .pointer (some ⟨b, 0, none⟩)) rfl (by kernel_rfl) (by kernel_rfl) (by kernel_rfl) (fun _ _ _ h => h) (Or.inl ⟨by rfl, fun w => by go_simp⟩) ?_
  refine wpAny_take (i := 6) (v := .pointer (some ⟨b, 1, none⟩)) rfl (by kernel_rfl) (by kernel_rfl) (by kernel_rfl) (fun _ _ _ h => h) (Or.inl ⟨by rfl, fun w => by go_simp⟩) ?_
  refine wpAny_ready (rs := [3, 7]) (by kernel_rfl) (by simp) (AllReady.cons rfl (fun K hK => ?_) (AllReady.cons rfl (fun K hK => ?_) AllReady.nil))
  · go_simp
    refine hK _ _ ?_; clear hK K
    refine wpAny_ready (rs := [7]) (by kernel_rfl) (by simp) (AllReady.cons rfl (fun K hK => ?_) AllReady.nil)
    go_simp
    refine hK _ _ ?_; clear hK K
    refine wpAny_ready (rs := [8]) (by kernel_rfl) (by simp) (AllReady.cons rfl (fun K hK => ?_) AllReady.nil)
    go_simp
    go_wp2_with (go_at_call 71; refine (giveUp_any _ _ _).mono ?_; rintro e w' ⟨rfl, rfl⟩)
    exact ⟨rfl, rfl, 1, rfl⟩
  · go_simp
    refine hK _ _ ?_; clear hK K
    refine wpAny_ready (rs := [3]) (by kernel_rfl) (by simp) (AllReady.cons rfl (fun K hK => ?_) AllReady.nil)
    go_simp
    refine hK _ _ ?_; clear hK K
    refine wpAny_ready (rs := [8]) (by kernel_rfl) (by simp) (AllReady.cons rfl (fun K hK => ?_) AllReady.nil)
    go_simp
    go_wp2_with (go_at_call 71; refine (giveUp_any _ _ _).mono ?_; rintro e w' ⟨rfl, rfl⟩)
    exact ⟨rfl, rfl, 1, rfl⟩

set_option maxHeartbeats 400000 in
theorem take_hit (b : Nat) (s : ByteArray) (k : Int) (i : Nat) (c : Int) (w : World) (h : At w b s k i) (hi : i ≤ s.size) (hs : s.size ≤ 1500) (hc : pk s i = c) :
    Calls Tryz.prog 114 #[.pointer (some ⟨b, 0, none⟩), .int .u8 c] w fun e w' => e = .returned (.bool true) ∧ At w' b s k (i + 1) ∧ Near b w w' := by
  have h' := h
  obtain ⟨c0, c1, c2, fz⟩ := h
  subst hc
  go_enter Tryz.func114, Tryz.ntmps114
  go_wp2_with (go_at_call 116; refine (peek_any b s k i _ h' hi hs).mono ?_; rintro e w' ⟨rfl, n, rfl⟩)
  go_ret
  exact ⟨rfl, (h'.drewN n).step, ((Near.refl b w).drewN n).setCell _ _⟩

set_option maxHeartbeats 400000 in
theorem take_miss (b : Nat) (s : ByteArray) (k : Int) (i : Nat) (c : Int) (w : World) (h : At w b s k i) (hi : i ≤ s.size) (hs : s.size ≤ 1500) (hc : (pk s i == c) = false) :
    Calls Tryz.prog 114 #[.pointer (some ⟨b, 0, none⟩), .int .u8 c] w fun e w' => e = .returned (.bool false) ∧ ∃ n, w' = w.drewN n := by
  go_enter Tryz.func114, Tryz.ntmps114
  go_wp2_with (go_at_call 116; refine (peek_any b s k i _ h hi hs).mono ?_; rintro e w' ⟨rfl, n, rfl⟩)
  go_ret
  exact ⟨rfl, _, rfl⟩

set_option maxHeartbeats 400000 in
theorem expectEnd_hit (b : Nat) (s : ByteArray) (k : Int) (i : Nat) (w : World) (h : At w b s k i) (hi : i = s.size) (hs : s.size ≤ 1500) :
    Calls Tryz.prog 89 #[.pointer (some ⟨b, 0, none⟩)] w fun e w' => e = .returned (.tuple #[]) ∧ ∃ n, w' = w.drewN n := by
  obtain ⟨c0, c1, c2, fz⟩ := h
  subst hi
  go_enter Tryz.func89, Tryz.ntmps89
  go_wp2
  go_quiet (fail)
  go_wp2
  go_end0
  exact ⟨rfl, _, rfl⟩

set_option maxHeartbeats 400000 in
theorem expectEnd_miss (b : Nat) (s : ByteArray) (k : Int) (i : Nat) (w : World) (h : At w b s k i) (hi : i < s.size) (hs : s.size ≤ 1500) :
    Calls Tryz.prog 89 #[.pointer (some ⟨b, 0, none⟩)] w fun e w' => e = .panicked (refusal k i) ∧ ∃ n, w' = w.drewN n := by
  have h' := h
  obtain ⟨c0, c1, c2, fz⟩ := h
  go_enter Tryz.func89, Tryz.ntmps89
  go_wp2
  go_quiet (fail)
  go_wp2_with (go_at_call 115; refine (refuse_any b s k i _ (h'.drewN _)).mono ?_; rintro e w' ⟨rfl, m, rfl⟩)
  exact ⟨rfl, rfl, _, rfl⟩

theorem isDigit_any (c : Int) (hc0 : 0 ≤ c) (hc1 : c ≤ 255) (w : World) :
    Calls Tryz.prog 134 #[.int .u8 c] w fun e w' => e = .returned (.bool (isDg c)) ∧ w' = w := by
  by_cases h1 : 48 ≤ c
  · by_cases h2 : c ≤ 57
    · go_enter Tryz.func134, Tryz.ntmps134
      go_wp2
      go_ret
      exact ⟨ret_bool (by simp [isDg, h1, h2]), rfl⟩
    · go_enter Tryz.func134, Tryz.ntmps134
      go_wp2
      go_ret
      exact ⟨ret_bool (by simp [isDg, h1, h2]), rfl⟩
  · go_enter Tryz.func134, Tryz.ntmps134
    go_wp2
    go_ret
    exact ⟨ret_bool (by simp [isDg]; omega), rfl⟩

end Go.Proofs.YtiohpcnnpmnjhaaGreatDoor

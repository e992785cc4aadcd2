import Derived.Test.YtiohpcnnpmnjhaaGreatDoorRStM
import Derived.Test.YtiohpcnnpmnjhaaGreatDoorAftM
namespace Go.Proofs.YtiohpcnnpmnjhaaGreatDoor
open Go.RowKit Go.Shelf
set_option linter.unusedVariables false
attribute [local go_sem] Oper.semAt_some

set_option maxRecDepth 100000 in
set_option maxHeartbeats 1600000 in
/-- The reference's Step above 200, where the pattern comes back. -/
theorem refStep_late (rule text : ByteArray) (n : Int) (w : World) (L : Array Value) (p q d1 d2 m1 m2 : Int) (j : Nat) (C D : List Cel)
    (HL : Hid ((Tryz.prog.info? 77).map (·.size) = some L.size)) (H1 : Hid (L.all (·.oneCell') = true)) (HS : Hid ((twoN noD noD).size = L.size))
    (hG : ∀ w, Calls Tryz.prog 43 #[.string rule, .string text] w fun e w' => ∃ v, e = .returned (.tuple #[.agg L, v, .int .i64 0, .int .i64 0]) ∧ Below w.heap.size w w' ∧ w'.ownsRow w.heap.size 44 2 v C.length (flatC C))
    (HC : Hid (∀ v (w : World), w.ownsRow 0 44 2 v C.length (flatC C) → Calls Tryz.prog 45 #[.agg L, v] w fun e w' => ∃ gb cg ng aj cj, e = .returned (.tuple #[.slice (some ⟨gb, 0, none⟩) ng cg, .agg #[.int .i64 p, .int .i64 q, .int .i64 d1, .int .i64 d2], .int .i64 0]) ∧ gb < w'.heap.size ∧ w'.cell? ⟨gb, j, none⟩ = some (.slice aj D.length cj) ∧ w'.ownsRow 0 44 2 (.slice aj D.length cj) D.length (flatC D) ∧ j < ng ∧ Below w.heap.size w w'))
    (hn1 : 200 < n) (hn2 : n ≤ 1000000000000000000) (hp : 0 ≤ p ∧ p ≤ 200) (hq : 1 ≤ q ∧ q ≤ 200) (HJ : Hid (p + (n - p) % q = (j : Int))) (HM1 : Hid ((n - p) / q * d1 = m1)) (HM2 : Hid ((n - p) / q * d2 = m2)) (hm1 : -9223372036854775808 ≤ m1 ∧ m1 ≤ 9223372036854775807) (hm2 : -9223372036854775808 ≤ m2 ∧ m2 ≤ 9223372036854775807) (hl : D.length ≤ 1000000) (hF : Fits m1 m2 D) :
    Calls Tryz.prog 13 #[.string rule, .string text, .int .i64 n] w (RStepOut (if farL (D.map (sh m1 m2)) = true then .inl 4 else .inr (D.map (sh m1 m2))) w) := by
  obtain ⟨R, hR⟩ : ∃ R, (if farL (D.map (sh m1 m2)) = true then .inl 4 else .inr (D.map (sh m1 m2)) : Int ⊕ List Cel) = R := ⟨_, rfl⟩
  rw [hR]
  have HR : Hid ((if farL (D.map (sh m1 m2)) = true then .inl 4 else .inr (D.map (sh m1 m2)) : Int ⊕ List Cel) = R) := hR
  clear hR
  have e1 : decide (n < 0) = false := decide_eq_false (by omega)
  have e2 : decide ((1000000000000000000 : Int) < n) = false := decide_eq_false (by omega)
  have e3 : decide (n ≤ 200) = false := decide_eq_false (by omega)
  have hq0 : (q == 0) = false := by have : ¬ q = 0 := by omega
                                    simpa using this
  obtain ⟨k, hk⟩ : ∃ k, (n - p) / q = k := ⟨_, rfl⟩
  rw [hk] at HM1 HM2
  have HWX : Hid (IntKind.i64.wrap (k * d1) = m1) := by show _ = _; rw [HM1.out]; simp [IntKind.wrap, IntKind.bits, IntKind.signed]; omega
  have HWY : Hid (IntKind.i64.wrap (k * d2) = m2) := by show _ = _; rw [HM2.out]; simp [IntKind.wrap, IntKind.bits, IntKind.signed]; omega
  have HWJ : Hid (IntKind.i64.wrap (p + (n - p) % q) = (j : Int)) := by
    show _ = _; rw [HJ.out]; have := HJ.out; have := Int.emod_nonneg (n - p) (b := q) (by omega); have := Int.emod_lt_of_pos (n - p) (b := q) (by omega)
    simp [IntKind.wrap, IntKind.bits, IntKind.signed]; omega
  go_enter Tryz.func13, Tryz.ntmps13
  go_wp2_with (first
    | (go_at_call 43; refine (hG _).mono ?_; rintro e w1 ⟨v, rfl, b1, own⟩)
    | (refine wpList_store_row rfl 77 (Operand.tmp 9) (Operand.tmp 23) rfl w1.heap.size L rfl rfl 77 (twoN noD noD) (z18_new w1) HL.out HS.out H1.out ?_; go_frame
       have b8 := setRow_heap (w1.alloc (.cells Z18 77)) w1.heap.size (twoN noD noD) L 77 (0, 0) (z18_new w1)
       have own2 := law_rowS own L
       have be2 : Below w.heap.size w ((w1.alloc (.cells Z18 77)).setRow w1.heap.size L) := below_row (b1.alloc b1.size _) b1.size L
       clear b1 own
       generalize ((w1.alloc (.cells Z18 77)).setRow w1.heap.size L) = W2 at *)
    | (refine wpList_load_row rfl 77 (Operand.tmp 9) rfl w1.heap.size rfl 77 L (0, 0) _ b8 Tryz.underlying77 rfl HL.out ?_)
    | (go_at_call 45; refine (HC.out _ _ own2).mono ?_; rintro e w3 ⟨gb, cg, ng, aj, cj, rfl, hgb, hcell, hrow, hj, b3⟩))
  have t5 := blk_new w3 (.cells #[.int .i64 p, .int .i64 q, .int .i64 d1, .int .i64 d2] 54)
  have hb3 : Below w.heap.size w (w3.alloc (.cells #[.int .i64 p, .int .i64 q, .int .i64 d1, .int .i64 d2] 54)) := (be2.trans (b3.mono be2.size)).alloc (Nat.le_trans be2.size b3.size) _
  have hrow4 : (w3.alloc (.cells #[.int .i64 p, .int .i64 q, .int .i64 d1, .int .i64 d2] 54)).ownsRow 0 44 2 (.slice aj D.length cj) D.length (flatC D) := hrow.alloc _
  have hcell4 : (w3.alloc (.cells #[.int .i64 p, .int .i64 q, .int .i64 d1, .int .i64 d2] 54)).cell? ⟨gb, j, none⟩ = some (.slice aj D.length cj) := (World.cell?_of_block (((Below.refl w3.heap.size w3).alloc (Nat.le_refl _) _).block _ hgb)).trans hcell
  have hW4 : w3.heap.size ≤ (w3.alloc (.cells #[.int .i64 p, .int .i64 q, .int .i64 d1, .int .i64 d2] 54)).heap.size := by simp
  clear hcell hrow own2 be2 b8 HC hG HL H1 HS
  generalize (w3.alloc (.cells #[.int .i64 p, .int .i64 q, .int .i64 d1, .int .i64 d2] 54)) = W4 at *
  have HK : Hid ((n - p) / q = k) := hk
  have hqn : ¬ q = 0 := by omega
  have hwn : IntKind.i64.wrap (n - p) = n - p := IntWalk.i64_in _ ⟨by omega, by omega⟩
  have htm : (n - p).tmod q = (n - p) % q := Int.tmod_eq_emod_of_nonneg (by omega)
  clear hk HM1 HM2 HJ e1 e2 e3
  refine wpIn_wide (n := 9).1 ?_
  refine wpIn_region_any (by kernel_rfl) (wpAnyC.any (C := fun W => W.heap[w3.heap.size]? = some (.cells #[.int .i64 p, .int .i64 q, .int .i64 d1, .int .i64 d2] 54 (0, 0)) ∧ W.cell? ⟨gb, j, none⟩ = some (.slice aj D.length cj)) ?_)
  change wpAnyC _ _ _ _ _ _ _ _ _ _ (World.drew _)
  have hC : W4.drew.heap[w3.heap.size]? = some (.cells #[.int .i64 p, .int .i64 q, .int .i64 d1, .int .i64 d2] 54 (0, 0)) ∧ W4.drew.cell? ⟨gb, j, none⟩ = some (.slice aj D.length cj) := ⟨t5, hcell4⟩
  have hji : (j : Int) < (ng : Int) := by omega
  refine wpAnyC_take (i := 0) (v := (.slice (some ⟨gb, 0, none⟩) ng cg : Value)) hC rfl rfl (by kernel_rfl) (by kernel_rfl) (by kernel_rfl) (fun _ _ _ h => h) ⟨by rfl, fun W hW => ⟨rfl, by obtain ⟨k0, k1⟩ := hW; have a0 := cell_of k0 0; have a1 := cell_of k0 1; have a2 := cell_of k0 2; have a3 := cell_of k0 3; go_simp⟩⟩ ?_
  refine wpAnyC_take (i := 1) (v := (.pointer (some ⟨w3.heap.size, 0, none⟩) : Value)) hC rfl rfl (by kernel_rfl) (by kernel_rfl) (by kernel_rfl) (fun _ _ _ h => h) ⟨by rfl, fun W hW => ⟨rfl, by obtain ⟨k0, k1⟩ := hW; have a0 := cell_of k0 0; have a1 := cell_of k0 1; have a2 := cell_of k0 2; have a3 := cell_of k0 3; go_simp⟩⟩ ?_
  refine wpAnyC_take (i := 2) (v := (.int .i64 p : Value)) hC rfl rfl (by kernel_rfl) (by kernel_rfl) (by kernel_rfl) (fun _ _ _ h => h) ⟨by rfl, fun W hW => ⟨rfl, by obtain ⟨k0, k1⟩ := hW; have a0 := cell_of k0 0; have a1 := cell_of k0 1; have a2 := cell_of k0 2; have a3 := cell_of k0 3; go_simp⟩⟩ ?_
  refine wpAnyC_take (i := 3) (v := (.int .i64 n : Value)) hC rfl rfl (by kernel_rfl) (by kernel_rfl) (by kernel_rfl) (fun _ _ _ h => h) ⟨by rfl, fun W hW => ⟨rfl, by obtain ⟨k0, k1⟩ := hW; have a0 := cell_of k0 0; have a1 := cell_of k0 1; have a2 := cell_of k0 2; have a3 := cell_of k0 3; go_simp⟩⟩ ?_
  refine wpAnyC_take (i := 4) (v := (.pointer (some ⟨w3.heap.size, 0, none⟩) : Value)) hC rfl rfl (by kernel_rfl) (by kernel_rfl) (by kernel_rfl) (fun _ _ _ h => h) ⟨by rfl, fun W hW => ⟨rfl, by obtain ⟨k0, k1⟩ := hW; have a0 := cell_of k0 0; have a1 := cell_of k0 1; have a2 := cell_of k0 2; have a3 := cell_of k0 3; go_simp⟩⟩ ?_
  refine wpAnyC_take (i := 5) (v := (.int .i64 p : Value)) hC rfl rfl (by kernel_rfl) (by kernel_rfl) (by kernel_rfl) (fun _ _ _ h => h) ⟨by rfl, fun W hW => ⟨rfl, by obtain ⟨k0, k1⟩ := hW; have a0 := cell_of k0 0; have a1 := cell_of k0 1; have a2 := cell_of k0 2; have a3 := cell_of k0 3; go_simp⟩⟩ ?_
  refine wpAnyC_take (i := 6) (v := (.int .i64 (n - p) : Value)) hC rfl rfl (by kernel_rfl) (by kernel_rfl) (by kernel_rfl) (fun _ _ _ h => h) ⟨by rfl, fun W hW => ⟨rfl, by obtain ⟨k0, k1⟩ := hW; have a0 := cell_of k0 0; have a1 := cell_of k0 1; have a2 := cell_of k0 2; have a3 := cell_of k0 3; go_simp⟩⟩ ?_
  refine wpAnyC_take (i := 7) (v := (.pointer (some ⟨w3.heap.size, 1, none⟩) : Value)) hC rfl rfl (by kernel_rfl) (by kernel_rfl) (by kernel_rfl) (fun _ _ _ h => h) ⟨by rfl, fun W hW => ⟨rfl, by obtain ⟨k0, k1⟩ := hW; have a0 := cell_of k0 0; have a1 := cell_of k0 1; have a2 := cell_of k0 2; have a3 := cell_of k0 3; go_simp⟩⟩ ?_
  refine wpAnyC_take (i := 8) (v := (.int .i64 q : Value)) hC rfl rfl (by kernel_rfl) (by kernel_rfl) (by kernel_rfl) (fun _ _ _ h => h) ⟨by rfl, fun W hW => ⟨rfl, by obtain ⟨k0, k1⟩ := hW; have a0 := cell_of k0 0; have a1 := cell_of k0 1; have a2 := cell_of k0 2; have a3 := cell_of k0 3; go_simp⟩⟩ ?_
  refine wpAnyC_take (i := 9) (v := (.int .i64 ((n - p) % q) : Value)) hC rfl rfl (by kernel_rfl) (by kernel_rfl) (by kernel_rfl) (fun _ _ _ h => h) ⟨by rfl, fun W hW => ⟨rfl, by obtain ⟨k0, k1⟩ := hW; have a0 := cell_of k0 0; have a1 := cell_of k0 1; have a2 := cell_of k0 2; have a3 := cell_of k0 3; go_simp⟩⟩ ?_
  refine wpAnyC_take (i := 10) (v := (.int .i64 (j : Int) : Value)) hC rfl rfl (by kernel_rfl) (by kernel_rfl) (by kernel_rfl) (fun _ _ _ h => h) ⟨by rfl, fun W hW => ⟨rfl, by obtain ⟨k0, k1⟩ := hW; have a0 := cell_of k0 0; have a1 := cell_of k0 1; have a2 := cell_of k0 2; have a3 := cell_of k0 3; have hJ : IntKind.i64.wrap (p + (n - p) % q) = (j : Int) := HWJ.out; go_simp⟩⟩ ?_
  refine wpAnyC_take (i := 11) (v := (.pointer (some ⟨gb, j, none⟩) : Value)) hC rfl rfl (by kernel_rfl) (by kernel_rfl) (by kernel_rfl) (fun _ _ _ h => h) ⟨by rfl, fun W hW => ⟨rfl, by obtain ⟨k0, k1⟩ := hW; have a0 := cell_of k0 0; have a1 := cell_of k0 1; have a2 := cell_of k0 2; have a3 := cell_of k0 3; go_simp⟩⟩ ?_
  refine wpAnyC_take (i := 12) (v := (.slice aj D.length cj : Value)) hC rfl rfl (by kernel_rfl) (by kernel_rfl) (by kernel_rfl) (fun _ _ _ h => h) ⟨by rfl, fun W hW => ⟨rfl, by obtain ⟨k0, k1⟩ := hW; have a0 := cell_of k0 0; have a1 := cell_of k0 1; have a2 := cell_of k0 2; have a3 := cell_of k0 3; go_simp⟩⟩ ?_
  refine wpAnyC_take (i := 13) (v := (.int .i64 k : Value)) hC rfl rfl (by kernel_rfl) (by kernel_rfl) (by kernel_rfl) (fun _ _ _ h => h) ⟨by rfl, fun W hW => ⟨rfl, by obtain ⟨k0, k1⟩ := hW; have a0 := cell_of k0 0; have a1 := cell_of k0 1; have a2 := cell_of k0 2; have a3 := cell_of k0 3; go_simp; try exact HK.out⟩⟩ ?_
  refine wpAnyC_take (i := 14) (v := (.pointer (some ⟨w3.heap.size, 2, none⟩) : Value)) hC rfl rfl (by kernel_rfl) (by kernel_rfl) (by kernel_rfl) (fun _ _ _ h => h) ⟨by rfl, fun W hW => ⟨rfl, by obtain ⟨k0, k1⟩ := hW; have a0 := cell_of k0 0; have a1 := cell_of k0 1; have a2 := cell_of k0 2; have a3 := cell_of k0 3; go_simp⟩⟩ ?_
  refine wpAnyC_take (i := 15) (v := (.int .i64 d1 : Value)) hC rfl rfl (by kernel_rfl) (by kernel_rfl) (by kernel_rfl) (fun _ _ _ h => h) ⟨by rfl, fun W hW => ⟨rfl, by obtain ⟨k0, k1⟩ := hW; have a0 := cell_of k0 0; have a1 := cell_of k0 1; have a2 := cell_of k0 2; have a3 := cell_of k0 3; go_simp⟩⟩ ?_
  refine wpAnyC_take (i := 16) (v := (.int .i64 m1 : Value)) hC rfl rfl (by kernel_rfl) (by kernel_rfl) (by kernel_rfl) (fun _ _ _ h => h) ⟨by rfl, fun W hW => ⟨rfl, by obtain ⟨k0, k1⟩ := hW; have a0 := cell_of k0 0; have a1 := cell_of k0 1; have a2 := cell_of k0 2; have a3 := cell_of k0 3; have hX : IntKind.i64.wrap (k * d1) = m1 := HWX.out; go_simp⟩⟩ ?_
  refine wpAnyC_take (i := 17) (v := (.int .i64 k : Value)) hC rfl rfl (by kernel_rfl) (by kernel_rfl) (by kernel_rfl) (fun _ _ _ h => h) ⟨by rfl, fun W hW => ⟨rfl, by obtain ⟨k0, k1⟩ := hW; have a0 := cell_of k0 0; have a1 := cell_of k0 1; have a2 := cell_of k0 2; have a3 := cell_of k0 3; go_simp; try exact HK.out⟩⟩ ?_
  refine wpAnyC_take (i := 18) (v := (.pointer (some ⟨w3.heap.size, 3, none⟩) : Value)) hC rfl rfl (by kernel_rfl) (by kernel_rfl) (by kernel_rfl) (fun _ _ _ h => h) ⟨by rfl, fun W hW => ⟨rfl, by obtain ⟨k0, k1⟩ := hW; have a0 := cell_of k0 0; have a1 := cell_of k0 1; have a2 := cell_of k0 2; have a3 := cell_of k0 3; go_simp⟩⟩ ?_
  refine wpAnyC_take (i := 19) (v := (.int .i64 d2 : Value)) hC rfl rfl (by kernel_rfl) (by kernel_rfl) (by kernel_rfl) (fun _ _ _ h => h) ⟨by rfl, fun W hW => ⟨rfl, by obtain ⟨k0, k1⟩ := hW; have a0 := cell_of k0 0; have a1 := cell_of k0 1; have a2 := cell_of k0 2; have a3 := cell_of k0 3; go_simp⟩⟩ ?_
  refine wpAnyC_take (i := 20) (v := (.int .i64 m2 : Value)) hC rfl rfl (by kernel_rfl) (by kernel_rfl) (by kernel_rfl) (fun _ _ _ h => h) ⟨by rfl, fun W hW => ⟨rfl, by obtain ⟨k0, k1⟩ := hW; have a0 := cell_of k0 0; have a1 := cell_of k0 1; have a2 := cell_of k0 2; have a3 := cell_of k0 3; have hY : IntKind.i64.wrap (k * d2) = m2 := HWY.out; go_simp⟩⟩ ?_
  have hM := rmoved_any (.slice aj D.length cj) D m1 m2 W4.drew (RowAt.of_owns (rowBelow hrow4 ((Below.refl _ _).drew))) hl hF
  refine wpAnyC_one (i := 21) (by kernel_rfl) rfl (by rfl) (fun K hK => ?_)
  go_simp
  refine ⟨trivial, (callsIn_wide.2 hM).mono ?_⟩
  rintro e w5 ⟨⟨v5, rfl, own5⟩, b5⟩
  have hC5 : w5.heap[w3.heap.size]? = some (.cells #[.int .i64 p, .int .i64 q, .int .i64 d1, .int .i64 d2] 54 (0, 0)) ∧ w5.cell? ⟨gb, j, none⟩ = some (.slice aj D.length cj) := ⟨(b5.block _ (blk_lt hC.1)).trans hC.1, (World.cell?_of_block (b5.block _ (Nat.lt_of_lt_of_le hgb hW4))).trans hC.2⟩
  refine hK _ _ hC5 ?_
  clear hK K
  refine wpAnyC_one (i := 22) (by kernel_rfl) rfl (by rfl) (fun K hK => ?_)
  go_simp
  refine hK _ _ hC5 ?_
  clear hK K
  refine wpAnyC_done (by kernel_rfl) ?_ _
  have hb5 : Below w.heap.size w w5 := hb3.drew.trans (b5.mono hb3.size)
  have hlen : (D.map (sh m1 m2)).length ≤ 1000000 := by rw [List.length_map]; exact hl
  have hNr := refNear_any v5 (D.map (sh m1 m2)) w5 (RowAt.of_owns own5) hlen
  clear hC hC5 hM hcell4 hrow4 t5 HWX HWY HWJ
  generalize D.map (sh m1 m2) = E at *
  obtain ⟨a5, c5, rfl⟩ := row_slice own5
  cases hfd : farL E with
  | true =>
    rw [hfd] at hNr HR
    go_wp2_with (go_at_call 28; refine hNr.mono ?_; rintro e w6 ⟨rfl, b6⟩)
    exact bodyPost_ret (v := .tuple #[.slice none 0 0, .int .i64 4, .int .i64 0]) (by simp [results, Tryz.results13]) rfl (by rw [← HR.out]; exact ⟨hb5.trans (b6.mono hb5.size), rfl⟩)
  | false =>
    rw [hfd] at hNr HR
    go_wp2_with (go_at_call 28; refine hNr.mono ?_; rintro e w6 ⟨rfl, b6⟩)
    exact bodyPost_ret (v := .tuple #[.slice a5 E.length c5, .int .i64 0, .int .i64 0]) (by simp [results, Tryz.results13]) rfl (by rw [← HR.out]; exact ⟨hb5.trans (b6.mono hb5.size), _, rfl, rowBelow (ownsRow_low own5 (Nat.zero_le _)) b6⟩)

end Go.Proofs.YtiohpcnnpmnjhaaGreatDoor

namespace Go.Proofs.YtiohpcnnpmnjhaaGreatDoor
open Go.RowKit Go.Shelf
set_option linter.unusedVariables false

set_option maxRecDepth 100000 in
set_option maxHeartbeats 1600000 in
/-- The reference's Step above 200, where the pattern does not come back. -/
theorem refStep_lost (rule text : ByteArray) (n : Int) (w : World) (L : Array Value) (k : Int) (C : List Cel)
    (HL : Hid ((Tryz.prog.info? 77).map (·.size) = some L.size)) (H1 : Hid (L.all (·.oneCell') = true)) (HS : Hid ((twoN noD noD).size = L.size))
    (hG : ∀ w, Calls Tryz.prog 43 #[.string rule, .string text] w fun e w' => ∃ v, e = .returned (.tuple #[.agg L, v, .int .i64 0, .int .i64 0]) ∧ Below w.heap.size w w' ∧ w'.ownsRow w.heap.size 44 2 v C.length (flatC C))
    (HC : Hid (∀ v (w : World), w.ownsRow 0 44 2 v C.length (flatC C) → Calls Tryz.prog 45 #[.agg L, v] w fun e w' => e = .returned (.tuple #[.slice none 0 0, .agg #[.int .i64 0, .int .i64 0, .int .i64 0, .int .i64 0], .int .i64 k]) ∧ Below w.heap.size w w'))
    (hk : k ≠ 0) (hn1 : 200 < n) (hn2 : n ≤ 1000000000000000000) :
    Calls Tryz.prog 13 #[.string rule, .string text, .int .i64 n] w (RStepOut (.inl k) w) := by
  have e1 : decide (n < 0) = false := decide_eq_false (by omega)
  have e2 : decide ((1000000000000000000 : Int) < n) = false := decide_eq_false (by omega)
  have e3 : decide (n ≤ 200) = false := decide_eq_false (by omega)
  have hk0 : (k == 0) = false := by simpa using hk
  have hk1 : (k != 0) = true := by simp [hk]
  go_enter Tryz.func13, Tryz.ntmps13
  go_wp2_with (first
    | (go_at_call 43; refine (hG _).mono ?_; rintro e w1 ⟨v, rfl, b1, own⟩)
    | (refine wpList_store_row rfl 77 (Operand.tmp 9) (Operand.tmp 23) rfl w1.heap.size L rfl rfl 77 (twoN noD noD) (z18_new w1) HL.out HS.out H1.out ?_; go_frame
       have b8 := setRow_heap (w1.alloc (.cells Z18 77)) w1.heap.size (twoN noD noD) L 77 (0, 0) (z18_new w1)
       have own2 := law_rowS own L
       have be2 : Below w.heap.size w ((w1.alloc (.cells Z18 77)).setRow w1.heap.size L) := below_row (b1.alloc b1.size _) b1.size L
       clear b1 own
       generalize ((w1.alloc (.cells Z18 77)).setRow w1.heap.size L) = W2 at *)
    | (refine wpList_load_row rfl 77 (Operand.tmp 9) rfl w1.heap.size rfl 77 L (0, 0) _ b8 Tryz.underlying77 rfl HL.out ?_)
    | (go_at_call 45; refine (HC.out _ _ own2).mono ?_; rintro e w3 ⟨rfl, b3⟩))
  exact bodyPost_ret (v := .tuple #[.slice none 0 0, .int .i64 k, .int .i64 0]) (by simp [results, Tryz.results13]) rfl ⟨(be2.trans (b3.mono be2.size)).alloc (Nat.le_trans be2.size b3.size) _, rfl⟩

/-- The reference's Step of what is well given. -/
theorem refStep_good (rule text : ByteArray) (n : Int) (w : World) (f g : Nat → Bool) (C : List Cel) (X Y : Int) (hf : Fine C X Y)
    (hG : ∀ w, Calls Tryz.prog 43 #[.string rule, .string text] w fun e w' => ∃ v, e = .returned (.tuple #[.agg (twoN f g), v, .int .i64 0, .int .i64 0]) ∧ Below w.heap.size w w' ∧ w'.ownsRow w.heap.size 44 2 v C.length (flatC C)) :
    Calls Tryz.prog 13 #[.string rule, .string text, .int .i64 n] w (RStepOut (afterR f g C n) w) := by
  by_cases hr : n < 0 ∨ 1000000000000000000 < n
  · unfold afterR
    rw [if_pos hr]
    exact (refStep_range rule text n w f g C hr hG).mono fun e w' h => ⟨h.2, h.1⟩
  by_cases hn : n ≤ 200
  · obtain ⟨m, rfl⟩ : ∃ m : Nat, n = (m : Int) := ⟨n.toNat, by omega⟩
    have e : afterR f g C (m : Int) = nearR f g C m := by
      unfold afterR reachR nearR
      rw [if_neg hr, if_pos hn, Int.toNat_natCast]
      cases okTo f g C m <;> simp
    rw [e]
    exact refStep_near rule text m (by omega) w f g C X Y hf hG
  have hC : ∀ v (w : World), w.ownsRow 0 44 2 v C.length (flatC C) → Calls Tryz.prog 45 #[.agg (twoN f g), v] w (CourseOut f g C w) := fun v w own =>
    course_any v C f g X Y w own hf.asc ⟨hf.x1, hf.x2⟩ ⟨hf.y1, hf.y2⟩ (fun c hc => by have := hf.win c hc; unfold inWin at this; omega) (by have := hf.len; omega)
  cases hc : course f g C with
  | inl k =>
    have e : afterR f g C n = .inl k := by
      unfold afterR reachR
      rw [if_neg hr, if_neg hn, hc]
    rw [e]
    exact refStep_lost rule text n w (twoN f g) k C info27 (twoN_one _ _) rfl hG (fun v w own => (hC v w own).mono fun e w' h => by unfold CourseOut at h; rw [hc] at h; exact ⟨h.2, h.1⟩) (courseF_ne 201 0 hc) (by omega) (by omega)
  | inr x =>
    obtain ⟨t, s⟩ := x
    obtain ⟨ht, hcm⟩ := courseF_s 201 0 hc
    have hst := cameB_lt hcm
    have hw : wayB (gen f g C s) (gen f g C t) = true := by
      unfold cameB at hcm
      have := List.find?_some hcm
      simpa using this
    have hsm := way_small (Nat.le_of_lt hst) hw
    have e : afterR f g C n = if farL (lateL f g C t s n) = true then .inl 4 else .inr (lateL f g C t s n) := by
      unfold afterR reachR
      rw [if_neg hr, if_neg hn, hc]
    rw [e]
    obtain ⟨⟨d1, d2⟩, hd⟩ : ∃ d, wayD (gen f g C s) (gen f g C t) = d := ⟨_, rfl⟩
    have hmod := Int.emod_nonneg (n - (s : Int)) (b := (t : Int) - (s : Int)) (by omega)
    have hmod2 := Int.emod_lt_of_pos (n - (s : Int)) (b := (t : Int) - (s : Int)) (by omega)
    obtain ⟨j, hj⟩ : ∃ j : Nat, s + ((n - (s : Int)) % ((t : Int) - (s : Int))).toNat = j := ⟨_, rfl⟩
    have hji : (s : Int) + (n - (s : Int)) % ((t : Int) - (s : Int)) = (j : Int) := by omega
    have hm1 := rounds_small (x := n - (s : Int)) (q := (t : Int) - (s : Int)) (d := d1) (by omega) (by omega) (by rw [hd] at hsm; exact hsm.1.1) (by rw [hd] at hsm; exact hsm.1.2)
    have hm2 := rounds_small (x := n - (s : Int)) (q := (t : Int) - (s : Int)) (d := d2) (by omega) (by omega) (by rw [hd] at hsm; exact hsm.2.1) (by rw [hd] at hsm; exact hsm.2.2)
    have hlL : lateL f g C t s n = (gen f g C j).map (sh ((n - (s : Int)) / ((t : Int) - (s : Int)) * d1) ((n - (s : Int)) / ((t : Int) - (s : Int)) * d2)) := by unfold lateL; rw [hj, hd]
    rw [hlL]
    refine refStep_late rule text n w (twoN f g) (s : Int) ((t : Int) - (s : Int)) d1 d2 _ _ j C (gen f g C j) info27 (twoN_one _ _) rfl hG (fun v w own => (hC v w own).mono fun e w' h => ?_) (by omega) (by omega) (by omega) (by omega) hji rfl rfl (by omega) (by omega) (by have := courseF_len 201 0 hc j (Nat.zero_le _) (by omega); omega) (fun c hc' => ?_)
    · unfold CourseOut at h
      rw [hc] at h
      simp only at h
      obtain ⟨hb, va, vs, he, own', hvl, hall⟩ := h
      obtain ⟨gb, cg, hva, hgb, hget⟩ := all_get own' (by omega)
      subst hva
      obtain ⟨vj, hvj⟩ : ∃ vj, vs[j]? = some vj := ⟨vs[j]'(by omega), by simp [show j < vs.length by omega]⟩
      have hrow := hall j vj hvj
      obtain ⟨aj, cj, hva⟩ := row_slice hrow
      subst hva
      rw [hd] at he
      exact ⟨gb, cg, _, aj, cj, he, hgb, hget j _ hvj, hrow, by omega, hb⟩
    · have h3 := fine_roam (f := f) (g := g) hf j (by omega)
      have := h3.bx c hc'
      have := h3.x1; have := h3.x2; have := h3.y1; have := h3.y2
      omega

end Go.Proofs.YtiohpcnnpmnjhaaGreatDoor

import Derived.Test.YtiohpcnnpmnjhaaDoorNumbers
import Derived.Deep.RegionLaw
import Derived.Laws.AppendOwn
import Derived.RegionTactic
namespace Go.Proofs.YtiohpcnnpmnjhaaDoor
open Go.RowKit
set_option linter.unusedVariables false

set_option maxHeartbeats 800000 in
theorem readCount_good (b : Nat) (s : ByteArray) (k : Int) (i : Nat) (w : World) (h : At w b s k i) (hi : i ≤ s.size) (hs : s.size ≤ 1500) (hd : isDg (pk s i) = true) (h0 : ¬ pk s i = 48) (h4 : dg s i - i ≤ 4) :
    Calls Tryd.prog 51 #[.pointer (some ⟨b, 0, none⟩)] w fun e w' => e = .returned (.int .i64 ((dv s i (dg s i - i) : Nat) : Int)) ∧ At w' b s k (dg s i) ∧ Near b w w' := by
  have ⟨c0, c1, c2, fz⟩ := h
  have hlt0 := lt_of_pk (isDg_pos hd)
  have hgo := dg_go hlt0 hd
  have hge := dg_le s (i + 1) (by omega)
  rw [← hgo] at hge
  have hT := takeDigits_any b s k i w h hi hs
  obtain ⟨t1, t2, t3⟩ := digits_t hi
  have hp0 := pk_extract (s := s) (i := i) (j := dg s i) (k := 0) (by omega) hge.2
  obtain ⟨t, ht⟩ : ∃ t, s.extract i (dg s i) = t := ⟨_, rfl⟩
  rw [ht] at t1 t2 t3 hT hp0
  have hV := value_any t (by omega) t2
  rw [t3] at hV
  have hlt := dv_lt s i (dg s i - i) (fun j hj => skip_all hi (by omega) (by show i + j < dg s i; omega))
  have hpw : 10 ^ (dg s i - i) ≤ 10000 := Nat.pow_le_pow_right (n := 10) (by omega) h4
  have z0 : 0 < t.size := by omega
  rw [pk_in z0] at hp0
  have z1 : ((t[0].toNat : Int) == 48) = false := by rw [hp0]; simpa using h0
  have z2 : (t.size : Int) ≤ 4 := by omega
  obtain ⟨d, hd'⟩ : ∃ d : Nat, dv s i (dg s i - i) = d := ⟨_, rfl⟩
  rw [hd'] at hV hlt ⊢
  have hdb : (d : Int) ≤ 10000 := by omega
  clear t1 t2 t3 hp0 hgo
  go_enter Tryd.func51, Tryd.ntmps51
  go_wp2_with (first
    | (go_at_call 47; refine hT.mono ?_; rintro e w2 ⟨rfl, ha, hb⟩)
    | (go_at_call 48; refine (hV _).mono ?_; rintro e w3 ⟨rfl, rfl⟩))
  go_ret
  exact ⟨rfl, ha, hb⟩

set_option maxHeartbeats 800000 in
theorem readCount_bad (b : Nat) (s : ByteArray) (k : Int) (i : Nat) (w : World) (h : At w b s k i) (hi : i ≤ s.size) (hs : s.size ≤ 1500) (hd : isDg (pk s i) = true) (h0 : pk s i = 48 ∨ 4 < dg s i - i) :
    Calls Tryd.prog 51 #[.pointer (some ⟨b, 0, none⟩)] w fun e w' => e = .panicked (refusal k i) ∧ Near b w w' := by
  have ⟨c0, c1, c2, fz⟩ := h
  have hlt0 := lt_of_pk (isDg_pos hd)
  have hgo := dg_go hlt0 hd
  have hge := dg_le s (i + 1) (by omega)
  rw [← hgo] at hge
  have hT := takeDigits_any b s k i w h hi hs
  obtain ⟨t1, t2, t3⟩ := digits_t hi
  have hp0 := pk_extract (s := s) (i := i) (j := dg s i) (k := 0) (by omega) hge.2
  obtain ⟨t, ht⟩ : ∃ t, s.extract i (dg s i) = t := ⟨_, rfl⟩
  rw [ht] at t1 t2 t3 hT hp0
  have z0 : 0 < t.size := by omega
  rw [pk_in z0] at hp0
  by_cases h0' : pk s i = 48
  · have z1 : ((t[0].toNat : Int) == 48) = true := by rw [hp0]; simpa using h0'
    clear t1 t2 t3 hp0 hgo h0 h0'
    go_enter Tryd.func51, Tryd.ntmps51
    go_wp2_with (first
      | (go_at_call 47; refine hT.mono ?_; rintro e w2 ⟨rfl, ha, hb⟩; have e2 := ha.c2)
      | (go_at_call 23; refine (giveUp_any _ _ _).mono ?_; rintro e w3 ⟨rfl, rfl⟩))
    exact ⟨rfl, rfl, hb⟩
  · have z1 : ((t[0].toNat : Int) == 48) = false := by rw [hp0]; simpa using h0'
    have z2 : 4 < (t.size : Int) := by omega
    clear t1 t2 t3 hp0 hgo h0 h0'
    go_enter Tryd.func51, Tryd.ntmps51
    go_wp2_with (first
      | (go_at_call 47; refine hT.mono ?_; rintro e w2 ⟨rfl, ha, hb⟩; have e2 := ha.c2)
      | (go_at_call 23; refine (giveUp_any _ _ _).mono ?_; rintro e w3 ⟨rfl, rfl⟩))
    exact ⟨rfl, rfl, hb⟩

set_option maxHeartbeats 800000 in
theorem readLetter_hit (b : Nat) (s : ByteArray) (k : Int) (i : Nat) (w : World) (h : At w b s k i) (hi : i ≤ s.size) (hs : s.size ≤ 1500) (hl : isLt (pk s i) = true) :
    Calls Tryd.prog 53 #[.pointer (some ⟨b, 0, none⟩)] w fun e w' => e = .returned (.int .u8 (pk s i)) ∧ At w' b s k (i + 1) ∧ Near b w w' := by
  have ⟨c0, c1, c2, fz⟩ := h
  have hlt := lt_of_pk (isLt_pos hl)
  obtain ⟨c, hc⟩ : ∃ c, pk s i = c := ⟨_, rfl⟩
  have hP := peek_any b s k i w h hi hs
  rw [hc] at hl hP ⊢
  have hcs : c = 98 ∨ c = 111 ∨ c = 36 := by unfold isLt at hl; simpa [or_assoc] using hl
  clear hc hl
  rcases hcs with rfl | rfl | rfl
  all_goals
    go_enter Tryd.func53, Tryd.ntmps53
    go_wp2_with (go_at_call 49; refine hP.mono ?_; rintro e w1 ⟨rfl, n1, rfl⟩)
    go_ret
    exact ⟨rfl, (h.drewN _).step, ((Near.refl b w).drewN _).setCell _ _⟩

set_option maxHeartbeats 800000 in
theorem readLetter_miss (b : Nat) (s : ByteArray) (k : Int) (i : Nat) (w : World) (h : At w b s k i) (hi : i ≤ s.size) (hs : s.size ≤ 1500) (hl : isLt (pk s i) = false) :
    Calls Tryd.prog 53 #[.pointer (some ⟨b, 0, none⟩)] w fun e w' => e = .panicked (refusal k i) ∧ Near b w w' := by
  have hP := peek_any b s k i w h hi hs
  have hcs : (pk s i == 98) = false ∧ (pk s i == 111) = false ∧ (pk s i == 36) = false := by unfold isLt at hl; simpa [and_assoc] using hl
  obtain ⟨h1, h2, h3⟩ := hcs
  go_enter Tryd.func53, Tryd.ntmps53
  go_wp2_with (first
    | (go_at_call 49; refine hP.mono ?_; rintro e w1 ⟨rfl, n1, rfl⟩)
    | (go_at_call 38; refine (refuse_any b s k i _ (h.drewN _)).mono ?_; rintro e w' ⟨rfl, m, rfl⟩))
  exact ⟨rfl, rfl, (Near.refl b w).drewN _⟩

end Go.Proofs.YtiohpcnnpmnjhaaDoor

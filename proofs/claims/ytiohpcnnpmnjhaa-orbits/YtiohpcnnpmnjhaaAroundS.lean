import Derived.Test.YtiohpcnnpmnjhaaAroundM
namespace Go.Proofs.Ytiohpcnnpmnjhaa
open Go.RowKit Go.Shelf
set_option linter.unusedVariables false
attribute [local go_sem] Oper.semAt_some

/-- One of the eight cells around a cell. -/
abbrev NearC (d : Cel) := { c : Cel // c ∈ eight d }
/-- The iterator over the eight cells around a cell, as a range over it asks. -/
theorem neighbours_stops (n : Nat) (hn : 2 ≤ n) (Bs n₀ : Nat) (x y : Int) (hx : -4000000000000000000 ≤ x ∧ x ≤ 4000000000000000000) (hy : -4000000000000000000 ≤ y ∧ y ≤ 4000000000000000000) (w0 : World)
    (hn0 : n₀ ≤ w0.heap.size) (hBs : w0.heap[Bs]? = some (.cells #[.int .i64 x, .int .i64 y] 99 (0, 0))) :
    SeqStopsK Fence.wide n Try.prog 82 #[.pointer (some ⟨Bs, 0, none⟩)] (fun c : NearC (x, y) => encN c.1) (KpN n₀ Bs) (fun xs => xs.map (·.1) = eight (x, y)) (fun _ => True) 9 w0 := fun l J Jx W hW hJ hJx hY h0 => by
  have hBs' : W.heap[Bs]? = some (.cells #[.int .i64 x, .int .i64 y] 99 (0, 0)) := (hW.block Bs (blk_lt hBs)).trans hBs
  refine (neighbours1_in n hn l Bs n₀ x y hx hy (fun pre W => ∃ q : List (NearC (x, y)), q.map (·.1) = pre ∧ J q W) (fun pre W => ∃ q : List (NearC (x, y)), q.map (·.1) = pre ∧ Jx q W) W
    (fun s A B row ⟨q, hq, hj⟩ hg hr => ⟨q, hq, hJ q A B row hj hg hr⟩) ?_ (Nat.le_trans hn0 hW.size) hBs' ⟨[], rfl, h0⟩).mono ?_
  · rintro pre c W1 ⟨q, hq, hj⟩ hc hlen
    refine (hY q ⟨c, hc⟩ W1 hj (by rw [← hq] at hlen; simpa using hlen)).mono ?_
    rintro e W' (⟨he, hj', hk⟩ | ⟨he, hj'⟩)
    · exact .inl ⟨he, ⟨q ++ [⟨c, hc⟩], by simp [hq], hj'⟩, hk⟩
    · exact .inr ⟨he, q ++ [⟨c, hc⟩], by simp [hq], hj'⟩
  rintro e W' ⟨he, ⟨q, hq, hj⟩ | ⟨pre, q, hq, hj⟩⟩
  · exact ⟨he, .inl ⟨q, hq, hj⟩⟩
  · exact ⟨he, .inr ⟨q, trivial, hj⟩⟩

set_option maxHeartbeats 400000 in
theorem neighbours_any (x y : Int) (w : World) :
    Calls Try.prog 75 #[.agg #[.int .i64 x, .int .i64 y]] w fun e w' => e = .returned (.func (.func 82) #[] #[.pointer (some ⟨w.heap.size, 0, none⟩)]) ∧ w' = w.alloc (.cells #[.int .i64 x, .int .i64 y] 99) := by
  have hmf : ∀ (fn : Fn) (first cap : Array Value) (w : World), (Instr.makeFunc fn first cap).run Try.prog w = .ok (.func fn first cap) w := fun _ _ _ _ => rfl
  go_enter Try.func75, Try.ntmps75
  go_wp2
  go_ret
  exact ⟨rfl, rfl⟩

end Go.Proofs.Ytiohpcnnpmnjhaa

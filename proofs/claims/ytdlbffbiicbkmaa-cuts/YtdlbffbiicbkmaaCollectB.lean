import Derived.Test.YtdlbffbiicbkmaaCollect
namespace Go.Proofs.Ytdlbffbiicbkmaa
open Go.RowKit Go.Shelf
attribute [local go_sem] Oper.semAt_some

set_option maxHeartbeats 1000000 in
/-- Collect, no piece wanted. -/
theorem collect_zero (a : Option Addr) (len c : Nat) (m most : Int) (hmost : most ≤ 0) (w : World) :
    CallsIn Fence.wide 9 Try.prog 5 #[.slice a len c, .int .i64 m, .int .i64 most] w fun e w' => e = .returned (.slice none 0 0) ∧ Below w.heap.size w w' := by
  refine callsIn_of_wp Try.func5 rfl trivial ?_ rfl
  simp only [Try.ntmps5, List.size_toArray, List.length_cons, List.length_nil, Nat.reduceAdd, Nat.reduceSub, Array.replicate_succ, Array.replicate_zero, List.push_toArray, List.append_toArray, List.nil_append, List.cons_append]
  gi_wp2
  go_ret
  exact ⟨rfl, ((Below.refl _ w).alloc (Nat.le_refl _) _).alloc (by simp) _⟩

set_option maxHeartbeats 4000000 in
set_option maxRecDepth 100000 in
/-- Collect, n below 1: nothing comes. -/
theorem collect_idle (a : Option Addr) (len c : Nat) (m most : Int) (hmost : 0 < most) (hm : m < 1) (w : World) :
    CallsIn Fence.wide 9 Try.prog 5 #[.slice a len c, .int .i64 m, .int .i64 most] w fun e w' => e = .returned (.slice none 0 0) ∧ Below w.heap.size w w' := by
  have hdec : decide (most ≤ 0) = false := by simp; omega
  refine callsIn_of_wp_marks Try.func5 rfl trivial ?_ rfl
  simp only [Try.ntmps5, List.size_toArray, List.length_cons, List.length_nil, Nat.reduceAdd, Nat.reduceSub, Array.replicate_succ, Array.replicate_zero, List.push_toArray, List.append_toArray, List.nil_append, List.cons_append]
  gi_wp2_with (refine ⟨trivial, ?_⟩; gi_at_call 8; refine (pieces_none _ _ _ _ _ hm _).mono ?_; rintro e w' ⟨rfl, rfl⟩)
  have bL := (Boxed.new (w.alloc (.cells #[.int .i64 most] 3)) 24 (.slice none 0 0)).alloc (.cells #[.int .i64 m] 3)
  simp only [World.size_alloc] at bL
  have hbel : Below w.heap.size w (((w.alloc (.cells #[.int .i64 most] 3)).alloc (.cells #[.slice none 0 0] 24)).alloc (.cells #[.int .i64 m] 3)) := (((Below.refl _ w).alloc (Nat.le_refl _) _).alloc (by simp) _).alloc (by simp; omega) _
  have hVs : (((w.alloc (.cells #[.int .i64 most] 3)).alloc (.cells #[.slice none 0 0] 24)).alloc (.cells #[.int .i64 m] 3)).heap.size = w.heap.size + 3 := by simp
  generalize ((w.alloc (.cells #[.int .i64 most] 3)).alloc (.cells #[.slice none 0 0] 24)).alloc (.cells #[.int .i64 m] 3) = V at *
  refine range_runs rfl (by decide) (gf := 9) (lb := #[]) rfl trivial (enters_of Try.func9 (by kernel_rfl) rfl) (idle_runs 8 V) (Agr.refl _ _) rfl (fun _ _ _ _ _ h _ => h)
    (fun _ S A => (∀ b, ¬ S b) ∧ Boxed A (w.heap.size + 1) 24 (.slice none 0 0) ∧ Below w.heap.size w A) (fun _ _ _ _ => False) (fun _ => False) (fun _ h => h.elim) (fun _ h => h.elim) ?hI (fun _ _ _ _ _ h _ => h) ⟨fun _ h => h, bL, hbel⟩
    (fun v => { tmps := #[.slice a len c, .int .i64 m, .int .i64 most, undef, undef, .pointer (some ⟨w.heap.size, 0, none⟩), .slice none 0 0, .pointer (some ⟨w.heap.size + 1, 0, none⟩), v, .int .i64 most, .bool false, undef, .slice a len c, .int .i64 m, .func (.func 9) #[] #[], v, undef, undef, undef, undef, undef, undef, undef, undef, undef], defers := [] }) ?assign ?body ?done ?stop
  case hI =>
    rintro k S A B ⟨j1, j2, j3⟩ hg
    exact ⟨j1, hg.obj j2 (.inr (by omega)), j3.trans ⟨hg.os, hg.tape, hg.output, hg.size, fun b hb => hg.same b (by have := j3.size; omega) (.inr (by omega))⟩⟩
  case assign =>
    intro l v W' K hK
    gi_wp2
    exact hK
  case body =>
    rintro l k S v A B hk
    omega
  case done =>
    rintro D S W' hD hSD ⟨_, j2, j3⟩ hK
    have jc := j2.cell
    gi_wp2
    refine ⟨by simp, .inl ⟨_, _, rfl, run_takeDeferred hK, ?_⟩⟩
    refine ⟨_, results_tmp rfl _ _ _, rfl, j3.trans ⟨(Agr.put W' D _).os, (Agr.put W' D _).tape, (Agr.put W' D _).output, (Agr.put W' D _).size, fun b hb => (Agr.put W' D _).same b (by have := j3.size; omega) (by omega)⟩⟩
  case stop =>
    rintro D k c' S W' hD hSD hk h
    exact h.elim
end Go.Proofs.Ytdlbffbiicbkmaa

import Derived.Test.YtdlbffbiicbkmaaGot
namespace Go.Proofs.Ytdlbffbiicbkmaa
open Go.RowKit Go.Shelf
attribute [local go_sem] Oper.semAt_some

theorem info22 : (Try.prog.info? 22).map (fun i => (i.zero, i.size, i.bytes)) = some (some (.slice none 0 0), 1, 24) := by kernel_rfl

set_option maxHeartbeats 1000000 in
/-- Pieces at n below 1: a function that does nothing. -/
theorem pieces_none (n : Nat) (a : Option Addr) (len cap : Nat) (m : Int) (hm : m < 1) (w : World) :
    CallsIn Fence.wide n Try.prog 8 #[.slice a len cap, .int .i64 m] w fun e w' => e = .returned (.func (.func 9) #[] #[]) ∧ w' = w.alloc (.cells #[.int .i64 m] 3) := by
  refine callsIn_of_wp Try.func8 rfl trivial ?_ rfl
  simp only [Try.ntmps8, List.size_toArray, List.length_cons, List.length_nil, Nat.reduceAdd, Nat.reduceSub, Array.replicate_succ, Array.replicate_zero, List.push_toArray, List.append_toArray, List.nil_append, List.cons_append]
  gi_wp2
  go_ret
  exact ⟨rfl, rfl⟩

set_option maxHeartbeats 1000000 in
/-- What it does. -/
theorem idle_runs (n : Nat) (w : World) : Runs Fence.wide n Try.prog 9 #[] (fun _ => False) 0 (fun _ _ _ _ => False) w := by
  intro l J Jx S₀ W hAg hS0 hM hJ hJx hY h0
  have H0 := hid h0
  clear hJ hJx hY h0 hM hS0 hAg
  refine callsIn_of_wp Try.func9 rfl trivial ?_ rfl
  simp only [Try.ntmps9, List.size_toArray, List.length_cons, List.length_nil, Nat.reduceAdd, Nat.reduceSub, Array.replicate_succ, Array.replicate_zero, List.push_toArray, List.append_toArray, List.nil_append, List.cons_append]
  gi_wp2
  go_end0
  exact ⟨⟨_, rfl⟩, 0, _, Nat.le_refl _, .inl ⟨rfl, H0.out⟩⟩

theorem row_form {f : Nat → Int} {len base : Nat} {v : Value} {B : World} (h : B.ownsRow base 5 1 v len (row f len)) (hv : v ≠ .slice none 0 0) :
    ∃ g cap, v = .slice (some ⟨g, 0, none⟩) len cap ∧ Hid (∃ cur, base ≤ g ∧ B.heap[g]? = some (.cells cur 5 (0, 0)) ∧ len ≤ cap ∧ ∀ j, j < len → cur[j]? = some (.int .u8 (f j))) := by
  rcases h.2 with ⟨rfl, _⟩ | ⟨g, cap, cur, rfl, hg, hh, h1, h2, h3, h4⟩
  · exact absurd rfl hv
  · refine ⟨g, cap, rfl, cur, hg, hh, h1, fun j hj => ?_⟩
    have e : (cur.toList.take (len * 1))[j]? = some (.int .u8 (f j)) := by rw [h4]; exact row_get _ _ _ hj
    rw [List.getElem?_take_of_lt (by omega)] at e
    simpa using e

set_option maxHeartbeats 2000000 in
/-- Pieces at n of 1 or more: the patch's bytes once more, two boxes, a function that has captured them. -/
theorem pieces_some (n : Nat) (hn : 5 ≤ n) (b0 len c : Nat) (f : Nat → Int) (m : Nat) (hm : 1 ≤ m) (w : World) (hlen : len ≤ 65536) (hc : ∀ j, j < len → w.cell? ⟨b0, 0 + j, none⟩ = some (.int .u8 (f j))) :
    CallsIn Fence.wide n Try.prog 8 #[.slice (some ⟨b0, 0, none⟩) len c, .int .i64 m] w fun e w' => ∃ Bo Bn b cap arr, e = .returned (.func (.func 11) #[] #[.pointer (some ⟨Bo, 0, none⟩), .pointer (some ⟨Bn, 0, none⟩)]) ∧
      Agr (fun _ => True) w w' ∧ Boxed w' Bo 22 (.slice (some ⟨b, 0, none⟩) len cap) ∧ Boxed w' Bn 3 (.int .i64 m) ∧ w'.heap[b]? = some (.cells arr 5 (0, 0)) ∧ len ≤ cap ∧
      (∀ j, j < len → arr[j]? = some (.int .u8 (f j))) ∧ w.heap.size ≤ Bo ∧ w.heap.size ≤ Bn ∧ w.heap.size ≤ b := by
  have h1 : 1 ≤ n := by omega
  have hm1 : ¬ ((m : Int) < 1) := by omega
  have HC := hid hc
  clear hc
  refine callsIn_of_wp Try.func8 rfl trivial ?_ rfl
  simp only [Try.ntmps8, List.size_toArray, List.length_cons, List.length_nil, Nat.reduceAdd, Nat.reduceSub, Array.replicate_succ, Array.replicate_zero, List.push_toArray, List.append_toArray, List.nil_append, List.cons_append]
  have hcl : ∀ j, j < len → (w.alloc (.cells #[.int .i64 m] 3)).cell? ⟨b0, 0 + j, none⟩ = some (.int .u8 (f j)) := fun j hj =>
    (Below.cell (B := w.heap.size) ((Below.refl _ w).alloc (Nat.le_refl _) _) (World.block_lt_of_cell? w _ (HC.out j hj))).trans (HC.out j hj)
  have HCL := hid hcl
  clear hcl
  gi_wp2_with (refine ⟨trivial, ?_⟩; gi_at_call 10; refine (clone_in Fence.wide _ trivial rfl b0 0 len c f _ hlen (by exact HCL.out)).mono ?_; rintro e w1 ⟨v', rfl, q1, q2, q3⟩; obtain ⟨g, cap, rfl, HG⟩ := row_form q1 q2; have H3 := hid q3; clear q1 q2 q3)
  go_ret
  obtain ⟨cur, g1, g2, g3, g4⟩ := HG.out
  have hsz := H3.out.size
  simp at hsz g1
  have gA : Agr (fun _ => True) w w1 := agr_below (((Below.refl _ w).alloc (Nat.le_refl _) _).trans (H3.out.mono (by simp)))
  have gB : Agr (fun _ => True) w1 (w1.alloc (.cells #[.slice (some ⟨g, 0, none⟩) len cap] 22)) := agr_below ((Below.refl _ w1).alloc (Nat.le_refl _) _)
  refine ⟨_, _, g, cap, cur, rfl, gA.trans gB fun _ _ _ => ⟨trivial, trivial⟩, Boxed.new w1 22 _, ?_, gB.obj g2 trivial, g3, g4, by omega, Nat.le_refl _, by omega⟩
  exact gB.obj ((H3.out.block w.heap.size (by simp)).trans (World.alloc_heap_new w _)) trivial
end Go.Proofs.Ytdlbffbiicbkmaa

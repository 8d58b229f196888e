import Derived.Test.YtdlbffbiicbkmaaLaw
import Derived.Test.YtdlbffbiicbkmaaStill
import Derived.Shelf.Abstract
import Derived.Shelf.RegionOpen
import Derived.WalkKit
import Derived.OwnWalkIn
import Derived.TacticsInMore
import Derived.LoopNIn
import Derived.LoopIn
import Derived.Maps.AppendAt
namespace Go.Proofs.Ytdlbffbiicbkmaa
open Go.RowKit Go.Shelf
attribute [local go_sem] Oper.semAt_some

/-- The bytes f 0, .., f (n - 1), as cells. -/
def row (f : Nat → Int) (n : Nat) : List Value := (List.range n).map (fun i => Value.int .u8 (f i))
theorem row_length (f : Nat → Int) (n : Nat) : (row f n).length = n := by simp [row]
theorem row_get (f : Nat → Int) (n j : Nat) (h : j < n) : (row f n)[j]? = some (.int .u8 (f j)) := by simp [row, h]
theorem row_get_inv {f : Nat → Int} {n j : Nat} {v : Value} (h : (row f n)[j]? = some v) : j < n ∧ v = .int .u8 (f j) := by
  have hj : j < n := by have := (List.getElem?_eq_some_iff.1 h).1; rwa [row_length] at this
  rw [row_get f n j hj] at h
  exact ⟨hj, by simpa using h.symm⟩

set_option maxHeartbeats 2000000 in
set_option maxRecDepth 100000 in
/-- slices.Clone of a row of bytes: a row of its own. -/
theorem clone_in (F : Fence) (n : Nat) (h10 : F.fn 10) (hro : F.round = none) (b o len c : Nat) (f : Nat → Int) (w : World) (hlen : len ≤ 65536) (hc : ∀ j, j < len → w.cell? ⟨b, o + j, none⟩ = some (.int .u8 (f j))) :
    CallsIn F n Try.prog 10 #[.slice (some ⟨b, o, none⟩) len c] w fun e w' => ∃ v', e = .returned v' ∧ w'.ownsRow w.heap.size 5 1 v' len (row f len) ∧ v' ≠ .slice none 0 0 ∧ Below w.heap.size w w' := by
  obtain ⟨i0, hi, hz0, hz1, hz2⟩ := info_parts info5
  have q22 : ∀ (w : World) (a : Option Addr) (n c n' c' : Nat), (binOp .eql 22 (.slice a n c) (.slice none n' c')).run Try.prog w = .ok (.bool a.isNone) w := fun w a n c n' c' => Lib.run_eql_slice_nil w _ _ a n c n' c' Try.underlying22
  have A : Hid (∀ j, j < len → w.cell? ⟨b, o + j, none⟩ = some (.int .u8 (f j))) := hc
  clear hc
  refine callsIn_of_wp Try.func10 rfl h10 ?_ hro
  simp only [Try.ntmps10, List.size_toArray, List.length_cons, List.length_nil, Nat.reduceAdd, Nat.reduceSub, Array.replicate_succ, Array.replicate_zero, List.push_toArray, List.append_toArray, List.nil_append, List.cons_append]
  gi_wp2_with (gi_at_builtin; refine wpListIn_append_own _ rfl _ _ 22 rfl w.heap.size 5 i0 (.int .u8 0) 1 1 Try.underlying22 hi hz0 hz1 hz2 rfl (by decide) _ _ _ rfl (World.ownsRow_made w #[] 0 (Nat.le_refl _) (Nat.zero_le _) rfl) ⟨b, o, none⟩ len c (row f len) rfl ?qc1 ?qc2 ?qc3 ?qc4 ?qc5 ?qc6 ?_)
  case qc1 => simp [row_length]
  case qc2 =>
    intro j u hj
    obtain ⟨hjn, rfl⟩ := row_get_inv hj
    have hj' := A.out j hjn
    rw [Addr.add_lit]
    exact (Below.cell (B := w.heap.size) ((Below.refl _ w).alloc (Nat.le_refl _) _) (World.block_lt_of_cell? w _ hj')).trans hj'
  case qc3 => intro u hu; obtain ⟨x, _, rfl⟩ := List.mem_map.1 hu; rfl
  case qc4 => unfold maxLen; omega
  case qc5 => omega
  case qc6 => simp
  intro v' w1 hown hgrow hnil
  gi_wp2
  go_ret
  refine ⟨v', rfl, by simpa using hown, ?_, ?_⟩
  · first | exact hnil | (intro e; exact absurd (hnil.1 e).1 (by simp))
  · exact ((Below.refl _ w).alloc (Nat.le_refl _) _).grown hgrow (by simp) (by intro k hk; simp [Value.ownBlock] at hk; omega)

set_option maxHeartbeats 1000000 in
/-- slices.Chunk at n of 1 or more: two boxes; a function that has captured them. -/
theorem chunk_in (F : Fence) (n : Nat) (h12 : F.fn 12) (hro : F.round = none) (a : Option Addr) (len cap : Nat) (m : Int) (hm : 1 ≤ m) (w : World) :
    CallsIn F n Try.prog 12 #[.slice a len cap, .int .i64 m] w fun e w' => e = .returned (.func (.func 13) #[] #[.pointer (some ⟨w.heap.size, 0, none⟩), .pointer (some ⟨w.heap.size + 1, 0, none⟩)]) ∧
      w' = (w.alloc (.cells #[.slice a len cap] 22)).alloc (.cells #[.int .i64 m] 3) := by
  refine callsIn_of_wp Try.func12 rfl h12 ?_ hro
  simp only [Try.ntmps12, List.size_toArray, List.length_cons, List.length_nil, Nat.reduceAdd, Nat.reduceSub, Array.replicate_succ, Array.replicate_zero, List.push_toArray, List.append_toArray, List.nil_append, List.cons_append]
  gi_wp2
  go_ret
  exact ⟨rfl, rfl⟩
end Go.Proofs.Ytdlbffbiicbkmaa

import Derived.Test.YtdlbffbiicbkmaaSame
import Derived.Deep.OwnRows
import Derived.Laws.CopyRow
namespace Go.Proofs.Ytdlbffbiicbkmaa
open Go.RowKit Go.Deep

theorem info5 : (Try.prog.info? 5).map (fun i => (i.zero, i.size, i.bytes)) = some (some (.int .u8 0), 1, 1) := by kernel_rfl
theorem size5 : (Try.prog.info? 5).map (·.size) = some 1 := by kernel_rfl

theorem setRow_alloc (w : World) (cur cs : Array Value) (t : TypeId) : (w.alloc (.cells cur t)).setRow w.heap.size cs = w.alloc (.cells cs t) := by
  simp only [World.setRow, World.alloc]
  congr 1
  apply Array.ext
  · simp
  · intro i h1 h2
    rw [Array.getElem_modify]
    by_cases hi : w.heap.size = i
    · subst hi; simp
    · rw [if_neg hi]
      have : i < w.heap.size := by simp at h2; omega
      rw [Array.getElem_push_lt this, Array.getElem_push_lt this]

/-- What 'copy' leaves in a new row of n + 2 bytes. -/
theorem copied (w : World) (a : Option Addr) (n c : Nat) (f : Nat → Int) (h : Bytes w a n f) (ha : a = none → c = 0 ∧ n = 0) :
    ∃ X : Array Value, X.size = n + 2 ∧ (∀ i, i < n → X[i]? = some (.int .u8 (f i))) ∧
      ∀ ty, (Builtin.copy_ #[22, 22] ty #[.slice (some ⟨w.heap.size, 0, none⟩) (n + 2) (n + 2), .slice a n c]).run Try.prog (w.alloc (.cells (madeCells #[.int .u8 0] (n + 2)) 5)) =
        .ok (goInt n) (w.alloc (.cells X 5)) := by
  cases a with
  | none =>
    obtain ⟨rfl, rfl⟩ := ha rfl
    refine ⟨madeCells #[.int .u8 0] (0 + 2), by rw [size_madeCells], fun i hi => by omega, fun ty => ?_⟩
    exact run_copy_nil Try.prog _ 22 22 ty 5 _ _ _ Try.underlying22 (by rw [size5]; rfl)
  | some a =>
    have hb : ∃ cs : List Value, cs = (List.range n).map (fun i => Value.int .u8 (f i)) := ⟨_, rfl⟩
    obtain ⟨cs, hcs⟩ := hb
    have hlen : cs.length = n := by simp [hcs]
    have hget : ∀ j v, cs[j]? = some v → j < n ∧ v = .int .u8 (f j) := by
      intro j v hj
      rw [hcs, List.getElem?_map] at hj
      by_cases hjn : j < n
      · rw [List.getElem?_range hjn] at hj; simp at hj; exact ⟨hjn, hj.symm⟩
      · rw [List.getElem?_eq_none (by simp; omega)] at hj; simp at hj
    refine ⟨(((madeCells #[.int .u8 0] (n + 2)).toList.take 0 ++ cs ++ (madeCells #[.int .u8 0] (n + 2)).toList.drop (0 + cs.length))).toArray, ?_, ?_, fun ty => ?_⟩
    · simp [size_madeCells, hlen]
    · intro i hi
      simp only [List.take_zero, List.nil_append, List.getElem?_toArray]
      rw [List.getElem?_append_left (by omega), hcs, List.getElem?_map, List.getElem?_range hi]
      rfl
    · have := run_copy_row Try.prog (w.alloc (.cells (madeCells #[.int .u8 0] (n + 2)) 5)) 22 22 ty 5 w.heap.size 0 (n + 2) (n + 2) a n c (madeCells #[.int .u8 0] (n + 2)) 5 cs
        Try.underlying22 size5 (heap_alloc_new w _) (by rw [hlen]; exact (Nat.min_eq_left (by omega)).symm) ?_ (by rw [size_madeCells]; omega) (fun v hv => by
          rw [hcs] at hv; obtain ⟨i, _, rfl⟩ := List.mem_map.1 hv; rfl)
      · rw [this, setRow_alloc, hlen]
      · intro j v hj
        obtain ⟨hjn, rfl⟩ := hget j v hj
        rcases h with rfl | ⟨b, o, e, hc⟩
        · omega
        · obtain rfl : a = ⟨b, o, none⟩ := by simpa using e
          have := hc j hjn
          rw [Addr.add_lit]
          exact (Below.cell (B := w.heap.size) ((Below.refl _ w).alloc (Nat.le_refl _) _) (World.block_lt_of_cell? w _ this)).trans this

set_option maxHeartbeats 1000000 in
/-- 'roomy': a new row: the bytes, and 71, 72 in the spare room. -/
theorem roomy_any (a : Option Addr) (n c : Nat) (hn : n ≤ 65536) (f : Nat → Int) (w : World) (h : Bytes w a n f) (ha : a = none → c = 0 ∧ n = 0) :
    Calls Try.prog 4 #[.slice a n c] w fun e w' => e = .returned (.slice (some ⟨w.heap.size, 0, none⟩) n (n + 2)) ∧
      ∃ Y : Array Value, Y.size = n + 2 ∧ (∀ i, i < n → Y[i]? = some (.int .u8 (f i))) ∧ Y[n]? = some (.int .u8 71) ∧ Y[n + 1]? = some (.int .u8 72) ∧ w' = w.alloc (.cells Y 5) := by
  obtain ⟨X, hX, hXf, hcp⟩ := copied w a n c f h ha
  have hmk := run_make_row' (P := Try.prog) 22 5 (.int .u8 0) 1 Try.underlying22 info5 rfl .i64 .i64 (n + 2) (by omega) (by omega)
  have ec : ((n + 2 : Nat) : Int) = (n : Int) + 2 := by omega
  rw [ec] at hmk
  have HX : Hid (∀ i, i < n → X[i]? = some (.int .u8 (f i))) := hXf
  clear hXf h ha
  obtain ⟨v1, hv1⟩ : ∃ v, X[n]? = some v := ⟨X[n]'(by omega), by rw [Array.getElem?_eq_getElem]⟩
  obtain ⟨v2, hv2⟩ : ∃ v, (X.setIfInBounds n (.int .u8 71))[n + 1]? = some v := ⟨(X.setIfInBounds n (.int .u8 71))[n + 1]'(by simp; omega), by rw [Array.getElem?_eq_getElem]⟩
  go_enter Try.func4, Try.ntmps4
  go_wp2
  go_ret
  refine ⟨rfl, _, ?_, fun i hi => ?_, ?_, ?_, rfl⟩
  · simp [hX]
  · rw [Array.getElem?_setIfInBounds_ne (by omega), Array.getElem?_setIfInBounds_ne (by omega)]; exact HX.out i hi
  · rw [Array.getElem?_setIfInBounds_ne (by omega), Array.getElem?_setIfInBounds_self_of_lt (by omega)]
  · rw [Array.getElem?_setIfInBounds_self_of_lt (by simp; omega)]
end Go.Proofs.Ytdlbffbiicbkmaa

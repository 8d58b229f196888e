import Derived.Test.YtdlbffbiicbkmaaCollectC
namespace Go.Proofs.Ytdlbffbiicbkmaa
open Go.RowKit Go.Shelf

/-- Where the k-th piece begins. -/
def place (len m k : Nat) : Nat := min (k * m) len
theorem place_zero (len m : Nat) : place len m 0 = 0 := by simp [place]
theorem place_step {len m k : Nat} (h : k * m < len) : place len m k = k * m ∧ place len m k + size len m k = place len m (k + 1) ∧ place len m (k + 1) ≤ len ∧ size len m k ≤ m ∧ (size len m k < m → place len m (k + 1) = len) := by
  have e : (k + 1) * m = k * m + m := Nat.succ_mul k m
  unfold place size
  omega
theorem place_end (len m : Nat) (hm : 1 ≤ m) : place len m (count len m) = len := by
  have h := (count_lt (len := len) (k := count len m) hm)
  unfold place
  omega
theorem size_pos {len m k : Nat} (hm : 1 ≤ m) (h : k * m < len) : 1 ≤ size len m k := by unfold size; omega

theorem ret_bool {b : Bool} (h : b = true) : Ending.returned (.bool b) = .returned (.bool true) := by rw [h]

/-- From the i-th on the pieces lie as they came. -/
def Rest (f : Nat → Int) (len m base : Nat) (g : Nat → Nat) (vs : List Value) (k i : Nat) (A : World) : Prop :=
  ∀ j, i ≤ j → j < k → base ≤ g j ∧ ∃ cap cur, vs[j]? = some (.slice (some ⟨g j, 0, none⟩) (size len m j) cap) ∧ A.heap[g j]? = some (.cells cur 5 (0, 0)) ∧
    size len m j ≤ cap ∧ cur.size = cap ∧ ∀ x, x < size len m j → cur[x]? = some (.int .u8 (f (j * m + x)))

theorem bytes_later {w w' : World} {a : Option Addr} {n : Nat} {f : Nat → Int} (h : Bytes w a n f) (hb : Below w.heap.size w w') : Bytes w' a n f := by
  rcases h with h | ⟨b, o, h1, h2⟩
  · exact .inl h
  · exact .inr ⟨b, o, h1, fun i hi => (hb.cell (World.block_lt_of_cell? w _ (h2 i hi))).trans (h2 i hi)⟩

/-- 'still' behind 'roomy' and whatever has kept what lay. -/
theorem still_later (a : Option Addr) (n c : Nat) (hn : n ≤ 65536) (f : Nat → Int) (w w2 : World) (h : Bytes w a n f) (Y : Array Value) (hY : Y.size = n + 2 ∧ (∀ i, i < n → Y[i]? = some (.int .u8 (f i))) ∧ Y[n]? = some (.int .u8 71) ∧ Y[n + 1]? = some (.int .u8 72))
    (hb : Below (w.alloc (.cells Y 5)).heap.size (w.alloc (.cells Y 5)) w2) :
    Calls Try.prog 6 #[.slice (some ⟨w.heap.size, 0, none⟩) n (n + 2), .slice a n c] w2 fun e w' => e = .returned (.bool true) ∧ w2.grownBy w' (some w.heap.size) :=
  still_any a n c w.heap.size hn f w2 (bytes_later h (((Below.refl _ w).alloc (Nat.le_refl _) _).trans (hb.mono (by simp)))) Y ((hb.block w.heap.size (by simp)).trans (World.alloc_heap_new w _)) hY.1 hY.2.1 hY.2.2.1 hY.2.2.2

theorem below_after {w w2 w3 : World} {Y : Array Value} (hb : Below (w.alloc (.cells Y 5)).heap.size (w.alloc (.cells Y 5)) w2) (hg : w2.grownBy w3 (some w.heap.size)) : Below w.heap.size w w3 :=
  (((Below.refl _ w).alloc (Nat.le_refl _) _).trans (hb.mono (by simp))).grown hg (by have := hb.size; simp at this; omega) (fun k e => by cases e; exact Nat.le_refl _)

set_option maxRecDepth 100000 in
set_option maxHeartbeats 4000000 in
/-- Cuts, where Collect gives nothing back. -/
theorem cuts_none (a0 : Option Addr) (len cap : Nat) (f : Nat → Int) (n most : Int) (w : World) (hB : Bytes w a0 len f) (hnone : a0 = none → cap = 0 ∧ len = 0) (hlen : len ≤ 65536) (h65 : most ≤ 65536) (hno : most ≤ 0 ∨ n < 1) :
    Calls Try.prog 3 #[.slice a0 len cap, .int .i64 n, .int .i64 most] w fun e w' => e = .returned (.bool true) ∧ Below w.heap.size w w' := by
  have hco : ∀ (a : Option Addr) (l c : Nat) (W : World), Calls Try.prog 5 #[.slice a l c, .int .i64 n, .int .i64 most] W fun e w' => e = .returned (.slice none 0 0) ∧ Below W.heap.size W w' := fun a l c W => by
    by_cases h : most ≤ 0
    · exact callsIn_wide.1 (collect_zero a l c n most h W)
    · exact callsIn_wide.1 (collect_idle a l c n most (by omega) (by omega) W)
  have HCO := hid hco
  have HB := hid hB
  have HN := hid hnone
  clear hco hB hnone
  have d1 : decide (65536 < (len : Int)) = false := by simp; omega
  have d2 : decide (65536 < most) = false := by simp; omega
  have hno' : decide (most ≤ 0) = true ∨ decide (n < 1) = true := by simpa using hno
  clear hno
  rcases hno' with d3 | d3
  all_goals
    go_enter Try.func3, Try.ntmps3
    go_wp2_with (first
      | (go_at_call 4; refine (roomy_any _ _ _ hlen f _ HB.out HN.out).mono ?_; rintro e w1 ⟨rfl, Y, y1, y2, y3, y4, rfl⟩; have HY := hid (And.intro y1 (And.intro y2 (And.intro y3 y4))); clear y1 y2 y3 y4)
      | (go_at_call 5; refine (HCO.out _ _ _ _).mono ?_; rintro e w2 ⟨rfl, hb2⟩; have HB2 := hid hb2; clear hb2)
      | (go_at_call 6; refine (still_later _ _ _ hlen f w _ HB.out Y HY.out HB2.out).mono ?_; rintro e w3 ⟨rfl, hg3⟩; have HG3 := hid hg3; clear hg3))
    go_loopw [10, 11] (fun at_ i wr => at_ = .int .i64 0 ∧ i = .int .i64 0 ∧ Below w.heap.size w wr) (fun _ _ _ => 0)
    case atStart => exact ⟨rfl, rfl, below_after HB2.out HG3.out⟩
    case round =>
      obtain ⟨rfl, rfl, hbel⟩ := hrel
      have HBEL := hid hbel
      clear hbel HCO HB HN HB2 HG3 HY
      go_wp2
      all_goals go_ret
      all_goals first | exact ⟨rfl, HBEL.out⟩ | (refine ⟨ret_bool ?_, HBEL.out⟩; simp; omega)
end Go.Proofs.Ytdlbffbiicbkmaa

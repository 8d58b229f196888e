import Derived.Test.YtdlbffbiicbkmaaRoomy
namespace Go.Proofs.Ytdlbffbiicbkmaa
open Go.RowKit Go.Deep

theorem cell_of_row {w : World} {b k : Nat} {cur : Array Value} {t : TypeId} {fr : Nat × Nat} {v : Value} (h : w.heap[b]? = some (.cells cur t fr)) (hv : cur[k]? = some v) : w.cell? ⟨b, k, none⟩ = some v := by
  simp [World.cell?, h, hv]
theorem free_of_row {w : World} {b k : Nat} {cur : Array Value} {t : TypeId} (h : w.heap[b]? = some (.cells cur t (0, 0))) : w.frozen? ⟨b, k, none⟩ = false := by
  simp [World.frozen?, h]
theorem row_of_set {w : World} {b k : Nat} {cur : Array Value} {t : TypeId} {fr : Nat × Nat} (v : Value) (h : w.heap[b]? = some (.cells cur t fr)) : (w.setCell ⟨b, k, none⟩ v).heap[b]? = some (.cells (cur.setIfInBounds k v) t fr) := by
  obtain ⟨hlt, hk⟩ := Array.getElem?_eq_some_iff.1 h
  show (w.heap.modify b _)[b]? = _
  rw [Array.getElem?_eq_getElem (by rw [Array.size_modify]; exact hlt), Array.getElem_modify_self, hk]
  rfl
theorem grown_set (w : World) (b k : Nat) (v : Value) : w.grownBy (w.setCell ⟨b, k, none⟩ v) (some b) :=
  ⟨rfl, rfl, rfl, by simp [World.setCell], fun j _ hj => Below.heap_setCell _ _ _ j (fun e => hj (by rw [e]))⟩
theorem grown_trans {A B C : World} {b : Nat} (h : A.grownBy B (some b)) (k : B.grownBy C (some b)) : A.grownBy C (some b) :=
  ⟨k.os.trans h.os, k.tape.trans h.tape, k.output.trans h.output, Nat.le_trans h.size k.size, fun j hj hne => (k.block j (Nat.lt_of_lt_of_le hj h.size) hne).trans (h.block j hj hne)⟩
theorem grown_refl (A : World) (r : Option Nat) : A.grownBy A r := ⟨rfl, rfl, rfl, Nat.le_refl _, fun _ _ _ => rfl⟩
theorem grown_drewN (A : World) (m : Nat) (r : Option Nat) : A.grownBy (A.drewN m) r := by
  induction m with
  | zero => exact grown_refl _ _
  | succ m ih => exact ⟨ih.os, ih.tape, ih.output, ih.size, ih.block⟩

/-- A row of n bytes, whatever they are. -/
def IsBytes (cur : Array Value) (n : Nat) : Prop := cur.size = n ∧ ∀ j, j < n → ∃ z, cur[j]? = some (.int .u8 z)
theorem IsBytes.set {cur : Array Value} {n : Nat} (h : IsBytes cur n) (k : Nat) (z : Int) : IsBytes (cur.setIfInBounds k (.int .u8 z)) n := by
  refine ⟨by simp [h.1], fun j hj => ?_⟩
  by_cases e : k = j
  · subst e; exact ⟨z, by rw [Array.getElem?_setIfInBounds_self_of_lt (by rw [h.1]; exact hj)]⟩
  · rw [Array.getElem?_setIfInBounds_ne e]; exact h.2 j hj

set_option maxHeartbeats 2000000 in
/-- 'still' at what 'roomy' made, as it was made: true; it writes into that row alone. -/
theorem still_any (a : Option Addr) (n c b : Nat) (hn : n ≤ 65536) (f : Nat → Int) (w : World) (h : Bytes w a n f) (Y : Array Value) (hrow : w.heap[b]? = some (.cells Y 5 (0, 0)))
    (hY : Y.size = n + 2) (hf : ∀ i, i < n → Y[i]? = some (.int .u8 (f i))) (h71 : Y[n]? = some (.int .u8 71)) (h72 : Y[n + 1]? = some (.int .u8 72)) :
    Calls Try.prog 6 #[.slice (some ⟨b, 0, none⟩) n (n + 2), .slice a n c] w fun e w' => e = .returned (.bool true) ∧ w.grownBy w' (some b) := by
  have c71 := cell_of_row hrow h71
  have c72 := cell_of_row hrow h72
  have H1 : Hid (Bytes w (some ⟨b, 0, none⟩) n f) := .inr ⟨b, 0, rfl, fun i hi => by rw [Nat.zero_add]; exact cell_of_row hrow (hf i hi)⟩
  have H2 : Hid (Bytes w a n f) := h
  have HY : Hid (IsBytes Y (n + 2)) := ⟨hY, fun j hj => by
    by_cases h1 : j < n
    · exact ⟨_, hf j h1⟩
    · by_cases h2 : j = n
      · subst h2; exact ⟨_, h71⟩
      · obtain rfl : j = n + 1 := by omega
        exact ⟨_, h72⟩⟩
  have Hrow : Hid (w.heap[b]? = some (.cells Y 5 (0, 0))) := hrow
  clear h hrow hf h71 h72 hY
  go_enter Try.func6, Try.ntmps6
  go_wp2_with (go_at_call 7; refine (same_eq _ _ _ _ _ (by omega) f _ H1.out H2.out).mono ?_; rintro e w' ⟨rfl, m, rfl⟩)
  go_loopw [8] (fun i wr => ∃ k : Nat, k ≤ n + 2 ∧ i = .int .i64 k ∧ w.grownBy wr (some b) ∧ ∃ cur, wr.heap[b]? = some (.cells cur 5 (0, 0)) ∧ IsBytes cur (n + 2)) (fun i _ => n + 2 - (intOf i).toNat)
  case atStart => exact ⟨0, Nat.zero_le _, rfl, grown_drewN _ _ _, Y, Hrow.out, HY.out⟩
  case round =>
    obtain ⟨k, hk, rfl, hg, cur, hcur, hB⟩ := hrel
    by_cases hlt : k < n + 2
    · obtain ⟨z, hz⟩ := hB.2 k hlt
      have hc := cell_of_row hcur hz
      have hfz : wr.frozen? ⟨b, k, none⟩ = false := free_of_row hcur
      have HC : Hid (wr.heap[b]? = some (.cells cur 5 (0, 0))) := hcur
      have HB : Hid (IsBytes cur (n + 2)) := hB
      have HG : Hid (w.grownBy wr (some b)) := hg
      clear hcur hB hg hz
      go_wp2
      go_roundw
      case rel => exact ⟨k + 1, by omega, by go_num, grown_trans HG.out (grown_set _ _ _ _), _, row_of_set _ HC.out, HB.out.set _ _⟩
      case measure => simp [intOf]; omega
    · have HG : Hid (w.grownBy wr (some b)) := hg
      clear hg hcur hB
      go_wp2
      go_ret
      exact ⟨rfl, HG.out⟩
end Go.Proofs.Ytdlbffbiicbkmaa

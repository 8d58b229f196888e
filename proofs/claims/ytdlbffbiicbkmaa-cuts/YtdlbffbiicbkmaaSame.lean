import Derived.Test.YtdlbffbiicbkmaaProg
import Derived.WalkKit
import Derived.Below
import Derived.BigQuiet
import Derived.Deep.QuietTactic
import Derived.WalkLawsBesides
import Derived.WalkSpells
namespace Go.Proofs.Ytdlbffbiicbkmaa
open Go.RowKit

/-- The bytes f 0, .., f (n - 1) stand from an address on (no address is asked for where there are none). -/
def Bytes (w : World) (a : Option Addr) (n : Nat) (f : Nat → Int) : Prop :=
  n = 0 ∨ ∃ b o, a = some ⟨b, o, none⟩ ∧ ∀ i, i < n → w.cell? ⟨b, o + i, none⟩ = some (.int .u8 (f i))

set_option maxHeartbeats 1000000 in
/-- 'same' at two rows of the same bytes: true; only draws. -/
theorem same_eq (a1 a2 : Option Addr) (n c1 c2 : Nat) (hn : n ≤ 65538) (f : Nat → Int) (w : World) (h1 : Bytes w a1 n f) (h2 : Bytes w a2 n f) :
    Calls Try.prog 7 #[.slice a1 n c1, .slice a2 n c2] w fun e w' => e = .returned (.bool true) ∧ ∃ m, w' = w.drewN m := by
  have hne : ((n : Int) != (n : Int)) = false := by simp
  rcases h1 with rfl | ⟨b1, o1, rfl, h1⟩
  · go_enter Try.func7, Try.ntmps7
    go_wp2
    go_loop [5] (fun i => i = .int .i64 0) (fun _ => 0)
    case atStart => rfl
    case round =>
      subst hrel
      go_wp2
      go_ret
      exact ⟨rfl, 0, rfl⟩
  rcases h2 with rfl | ⟨b2, o2, rfl, h2⟩
  · go_enter Try.func7, Try.ntmps7
    go_wp2
    go_loop [5] (fun i => i = .int .i64 0) (fun _ => 0)
    case atStart => rfl
    case round =>
      subst hrel
      go_wp2
      go_ret
      exact ⟨rfl, 0, rfl⟩
  go_enter Try.func7, Try.ntmps7
  go_wp2
  go_loopw [5] (fun i wr => ∃ k m : Nat, k ≤ n ∧ i = .int .i64 k ∧ wr = w.drewN m) (fun i _ => n - (intOf i).toNat)
  case atStart => exact ⟨0, 0, Nat.zero_le _, rfl, rfl⟩
  case round =>
    obtain ⟨k, m, hk, rfl, rfl⟩ := hrel
    by_cases hlt : k < n
    · have g1 : (w.drewN m).cell? ⟨b1, o1 + k, none⟩ = some (.int .u8 (f k)) := h1 k hlt
      have g2 : (w.drewN m).cell? ⟨b2, o2 + k, none⟩ = some (.int .u8 (f k)) := h2 k hlt
      have hfk : (f k != f k) = false := by simp
      go_wp2
      go_quiet (fail)
      go_wp2
      go_roundw
      case rel => exact ⟨k + 1, _, by omega, by go_num, rfl⟩
      case measure => simp [intOf]; omega
    · go_wp2
      go_ret
      exact ⟨rfl, m, rfl⟩
end Go.Proofs.Ytdlbffbiicbkmaa

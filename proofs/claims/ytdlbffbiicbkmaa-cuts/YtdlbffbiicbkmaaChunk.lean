import Derived.Test.YtdlbffbiicbkmaaIter
import Derived.RegionIn
import Derived.Sort.QuietIn
namespace Go.Proofs.Ytdlbffbiicbkmaa
open Go.RowKit Go.Shelf
attribute [local go_sem] Oper.semAt_some

theorem hid {p : Prop} (h : p) : Hid p := h

/-- How many pieces of m bytes a row of len bytes has. -/
def count (len m : Nat) : Nat := (len + m - 1) / m
theorem count_lt {len m k : Nat} (hm : 1 ≤ m) : k < count len m ↔ k * m < len := by
  unfold count
  rw [← Nat.succ_le_iff, Nat.le_div_iff_mul_le (by omega), Nat.succ_mul]
  omega
/-- The k-th piece's length. -/
def size (len m k : Nat) : Nat := min m (len - k * m)
/-- What slices.Chunk hands over as the k-th. -/
def cut (b o len m k : Nat) : Value := .slice (some ⟨b, o + k * m, none⟩) (size len m k) (size len m k)

set_option maxHeartbeats 4000000 in
set_option maxRecDepth 100000 in
/-- slices.Chunk's function: the row's pieces, one behind the other. -/
theorem chunk_runs (n : Nat) (Bs Bn b o len cap m : Nat) (hlen : len ≤ 65536) (hcap : len ≤ cap) (hm : 1 ≤ m) (hm2 : (m : Int) ≤ 9223372036854775807) (w : World)
    (hs : Boxed w Bs 22 (.slice (some ⟨b, o, none⟩) len cap)) (hb : Boxed w Bn 3 (.int .i64 m)) :
    Runs Fence.wide n Try.prog 13 #[.pointer (some ⟨Bs, 0, none⟩), .pointer (some ⟨Bn, 0, none⟩)] (fun x => x = Bs ∨ x = Bn) (count len m) (fun k v _ _ => v = cut b o len m k) w := by
  intro l J Jx S₀ W hAg hS0 hM hJ hJx hY h0
  have hs0 : Boxed W Bs 22 _ := hAg.obj hs trivial
  have hb0 : Boxed W Bn 3 _ := hAg.obj hb trivial
  have n1 := hM Bs (.inl rfl)
  have n2 := hM Bn (.inr rfl)
  have HY := hid hY
  clear hY hJ hJx hM hS0 hs hb hAg
  refine callsIn_of_wp Try.func13 rfl trivial ?_ rfl
  simp only [Try.ntmps13, List.size_toArray, List.length_cons, List.length_nil, Nat.reduceAdd, Nat.reduceSub, Array.replicate_succ, Array.replicate_zero, List.push_toArray, List.append_toArray, List.nil_append, List.cons_append]
  gi_wp2
  gi_loopw [4] (fun i wr => ∃ (k j : Nat) (S : Nat → Prop), i = .int .i64 j ∧ j = k * m ∧ k ≤ count len m ∧ J k S wr ∧ Boxed wr Bs 22 (.slice (some ⟨b, o, none⟩) len cap) ∧ Boxed wr Bn 3 (.int .i64 m) ∧ ¬ S Bs ∧ ¬ S Bn)
    (fun i _ => len - (intOf i).toNat)
  case atStart => exact ⟨0, 0, S₀, rfl, by simp, Nat.zero_le _, h0, hs0, hb0, n1, n2⟩
  case round =>
    clear h0 hs0 hb0 n1 n2
    obtain ⟨k, j, S, rfl, hj, hk, hJs, bs, bn, m1, m2⟩ := hrel
    have cs := bs.cell
    have cn := bn.cell
    by_cases hlt : j < len
    · have hkN : k < count len m := (count_lt hm).2 (by omega)
      have hsum : (j : Int) + m ≤ 9223372036854775807 := by
        cases k with
        | zero => simp at hj; omega
        | succ k => have : m ≤ j := by rw [hj, Nat.succ_mul]; omega
                    omega
      have Hj := hid hj
      have Hbs := hid bs
      have Hbn := hid bn
      clear hj bs bn
      have hmin : ∃ z : Nat, min m (len - j) = z ∧ (if len - j < m then ((len - j : Nat) : Int) else (m : Int)) = (z : Int) ∧ 1 ≤ z ∧ j + z ≤ len := by
        by_cases h : len - j < m
        · exact ⟨len - j, by omega, by rw [if_pos h], by omega, by omega⟩
        · exact ⟨m, by omega, by rw [if_neg h], by omega, by omega⟩
      obtain ⟨z, hz1, hz2, hz3, hz4⟩ := hmin
      have Hz := hid hz1
      clear hz1
      gi_wp2
      gi_quiet (fail)
      have lt1 := Hbs.out.lt
      have lt2 := Hbn.out.lt
      have gd : Agr (fun _ => True) wr (wr.drewN nq) := (Agr.grown (grown_drewN wr nq none)).weaken fun _ _ _ => by simp
      have hcut : Value.slice (some ⟨b, o + j, none⟩) z z = cut b o len m k := by
        unfold cut size; rw [← Hj.out, Hz.out]
      obtain ⟨fn, tmps, assign, body, hy, hR⟩ := HY.out k S _ wr (wr.drewN nq) hkN hJs gd hcut
      clear hcut
      have Hgd := hid gd
      have cs2 : (wr.drewN nq).cell? ⟨Bs, 0, none⟩ = some (.slice (some ⟨b, o, none⟩) len cap) := cs
      have cn2 : (wr.drewN nq).cell? ⟨Bn, 0, none⟩ = some (.int .i64 m) := cn
      replace Hbs : Hid (Boxed (wr.drewN nq) Bs 22 (.slice (some ⟨b, o, none⟩) len cap)) := gd.obj Hbs.out trivial
      replace Hbn : Hid (Boxed (wr.drewN nq) Bn 3 (.int .i64 m)) := gd.obj Hbn.out trivial
      clear gd cs cn
      generalize wr.drewN nq = wd at *
      gi_wp2
      refine ⟨fun h => absurd h (by simp [Fence.wide]), hR.mono ?_⟩
      rintro e W3 ⟨S', ⟨hS', hg3⟩, (⟨rfl, hJ3⟩ | ⟨rfl, hJx3⟩)⟩
      · have b3 : Boxed W3 Bs 22 (.slice (some ⟨b, o, none⟩) len cap) := hg3.obj Hbs.out m1
        have b4 : Boxed W3 Bn 3 (.int .i64 m) := hg3.obj Hbn.out m2
        have c3 := b3.cell
        have c4 := b4.cell
        have k1 : ¬ S' Bs := fun h => (hS' _ h).elim m1 (fun h => by omega)
        have k2 : ¬ S' Bn := fun h => (hS' _ h).elim m2 (fun h => by omega)
        have HB3 := hid b3
        have HB4 := hid b4
        clear b3 b4
        gi_wp2
        go_roundw
        case rel => exact ⟨k + 1, j + m, S', by go_num, by rw [Nat.succ_mul, Hj.out], by omega, hJ3, HB3.out, HB4.out, k1, k2⟩
        case measure => simp [intOf]; omega
      · gi_wp2
        refine bodyPost_ret (results_none rfl _ _ _) rfl ?_
        exact ⟨⟨_, rfl⟩, _, _, hkN, .inr hJx3⟩
    · have : k = count len m := by have := (count_lt (len := len) (k := k) hm); omega
      subst this
      clear hj
      gi_wp2
      go_end0
      exact ⟨⟨_, rfl⟩, _, _, Nat.le_refl _, .inl ⟨rfl, hJs⟩⟩
end Go.Proofs.Ytdlbffbiicbkmaa

import Derived.Test.YtdlbffbiicbkmaaCuts
namespace Go.Proofs.Ytdlbffbiicbkmaa
open Go.RowKit Go.Shelf

theorem Rest.later {f : Nat → Int} {len m base : Nat} {g : Nat → Nat} {vs : List Value} {k x : Nat} {A B : World} (h : Rest f len m base g vs k x A) (x' : Nat) (hx : x ≤ x') (hg : ∀ j, x' ≤ j → j < k → B.heap[g j]? = A.heap[g j]?) : Rest f len m base g vs k x' B := by
  intro j h1 h2
  obtain ⟨e1, c, cur, e2, e3, e4⟩ := h j (by omega) h2
  exact ⟨e1, c, cur, e2, (hg j h1 h2).trans e3, e4⟩

set_option maxRecDepth 100000 in
set_option maxHeartbeats 4000000 in
/-- Cuts, n and most of 1 or more. -/
theorem cuts_some (a0 : Option Addr) (len cap : Nat) (f : Nat → Int) (m : Nat) (most : Int) (w : World) (hB : Bytes w a0 len f) (hnone : a0 = none → cap = 0 ∧ len = 0) (hlen : len ≤ 65536) (hcap : len ≤ cap) (h65 : most ≤ 65536) (hmost : 0 < most) (hm : 1 ≤ m) (hm2 : (m : Int) ≤ 9223372036854775807) :
    Calls Try.prog 3 #[.slice a0 len cap, .int .i64 m, .int .i64 most] w fun e w' => e = .returned (.bool true) ∧ Below w.heap.size w w' := by
  have hco : ∀ (b0 c : Nat) (W : World), (∀ j, j < len → W.cell? ⟨b0, 0 + j, none⟩ = some (.int .u8 (f j))) → Calls Try.prog 5 #[.slice (some ⟨b0, 0, none⟩) len c, .int .i64 m, .int .i64 most] W fun e w' => ∃ u k, e = .returned u ∧ Listed f len m W.heap.size u k w' ∧ Below W.heap.size W w' ∧
      k ≤ count len m ∧ ((k = count len m ∧ (k : Int) < most) ∨ (k : Int) = most) := fun b0 c W h => callsIn_wide.1 (collect_some b0 len c f m most hmost h65 hm hm2 hlen W h)
  have HCO := hid hco
  have HB := hid hB
  have HN := hid hnone
  clear hco hB hnone
  have d1 : decide (65536 < (len : Int)) = false := by simp; omega
  have d2 : decide (65536 < most) = false := by simp; omega
  go_enter Try.func3, Try.ntmps3
  go_wp2_with (first
    | (go_at_call 4; refine (roomy_any _ _ _ hlen f _ HB.out HN.out).mono ?_; rintro e w1 ⟨rfl, Y, y1, y2, y3, y4, rfl⟩; have HY := hid (And.intro y1 (And.intro y2 (And.intro y3 y4))); clear y1 y2 y3 y4)
    | (go_at_call 5; refine (HCO.out _ _ _ (by intro j hj; rw [Nat.zero_add]; exact cell_of_row (World.alloc_heap_new w _) (HY.out.2.1 j hj))).mono ?_; rintro e w2 ⟨u, k, rfl, hL, hb2, hk⟩; have HB2 := hid hb2; have HL := hid hL; have HK := hid hk; clear hb2 hL hk)
    | (go_at_call 6; refine (still_later _ _ _ hlen f w _ HB.out Y HY.out HB2.out).mono ?_; rintro e w3 ⟨rfl, hg3⟩; have HG3 := hid hg3; clear hg3))
  obtain ⟨vs, g, hrow, hgot⟩ := HL.out
  obtain ⟨hk1, hk2⟩ := HK.out
  have hb3 := below_after HB2.out HG3.out
  have hplace : (k = count len m → place len m k = len) := fun h => by rw [h]; exact place_end len m hm
  have hm1 : decide ((m : Int) < 1) = false := by simp; omega
  rcases hrow.2 with ⟨rfl, rfl⟩ | ⟨r, c, lcur, rfl, hr1, hr2, hr3, _, hr5, hr6⟩
  · -- nothing came: the patch is empty
    have hl0 : len = 0 := by
      rcases hk2 with ⟨h, _⟩ | h
      · have := hplace h; rw [place_zero] at this; exact this.symm
      · simp at h; omega
    subst hl0
    have e1 : ((0 : Int) == most) = false := by simp; omega
    have e2 : decide ((0 : Int) ≤ most) = true := by simp; omega
    have H3 := hid hb3
    clear hrow hgot hk1 hk2 hplace HL HK HB2 HG3 HY HB HN HCO hb3
    go_loopw [10, 11] (fun at_ i wr => at_ = .int .i64 0 ∧ i = .int .i64 0 ∧ Below w.heap.size w wr) (fun _ _ _ => 0)
    case atStart => exact ⟨rfl, rfl, H3.out⟩
    case round =>
      obtain ⟨rfl, rfl, hbel⟩ := hrel
      have HBEL := hid hbel
      clear hbel H3
      go_wp2
      go_ret
      exact ⟨rfl, HBEL.out⟩
  have hrow3 : w3.heap[r]? = some (.cells lcur 22 (0, 0)) := by
    refine (HG3.out.block r (Array.getElem?_eq_some_iff.1 hr2).1 (fun e => ?_)).trans hr2
    have e' : r = w.heap.size := by simpa using e
    simp at hr1
    omega
  have hrest : Rest f len m (w.heap.size + 1) g vs k 0 w3 := by
    intro j _ hj
    obtain ⟨h1, _, cp, cur, h3, h4, h5, h6, h7⟩ := hgot.each j hj
    simp at h1
    exact ⟨h1, cp, cur, h3, (HG3.out.block (g j) (Array.getElem?_eq_some_iff.1 h4).1 (fun e => absurd (show g j = w.heap.size by simpa using e) (by omega))).trans h4, h5, h6, h7⟩
  have hlc : ∀ j, j < k → lcur[j]? = vs[j]? := fun j hj => by
    rw [← hr6, List.getElem?_take_of_lt (by omega)]; simp
  have hup := hgot.up
  have hbase : w.heap.size + 1 ≤ r := by simpa using hr1
  have HR := hid hrow3
  have HS := hid hrest
  have HLC := hid hlc
  have HU := hid hup
  have HP := hid hplace
  have HK2 := hid hk2
  have H3 := hid hb3
  clear hrow hgot hk2 hplace HL HK HB2 HG3 HY HN HCO hb3 hrow3 hrest hlc hup hr1 hr2 hr5 hr6
  go_loopw [10, 11] (fun at_ i wr => ∃ x p : Nat, x ≤ k ∧ i = .int .i64 x ∧ at_ = .int .i64 p ∧ p = place len m x ∧ Below w.heap.size w wr ∧ wr.heap[r]? = some (.cells lcur 22 (0, 0)) ∧ Rest f len m (w.heap.size + 1) g vs k x wr) (fun _ i _ => k - (intOf i).toNat)
  case atStart => exact ⟨0, 0, Nat.zero_le _, rfl, rfl, (place_zero _ _).symm, H3.out, HR.out, HS.out⟩
  case round =>
    clear H3 HR HS
    obtain ⟨x, p, hx, rfl, rfl, hp, hbel, hrow, hrest⟩ := hrel
    have HPL := hid hp
    clear hp
    by_cases hlt : x < k
    · have hxm : x * m < len := (count_lt hm).1 (by omega)
      obtain ⟨hs1, hs2, hs3, hs4, hs5⟩ := place_step hxm
      have hs6 := size_pos hm hxm
      have hx2 : x ≤ 65536 := by have := Nat.le_mul_of_pos_right x (show 0 < m by omega); omega
      obtain ⟨hg1, cx, cur, hv, hrow5, hcx, hcs, hcur⟩ := hrest x (Nat.le_refl _) hlt
      have hpx : p = x * m := HPL.out.trans hs1
      have hcl : wr.cell? ⟨r, x, none⟩ = some (.slice (some ⟨g x, 0, none⟩) (size len m x) cx) := cell_of_row hrow ((HLC.out x hlt).trans hv)
      have hrg : r ≠ g x := fun e => by rw [e, hrow5] at hrow; simp at hrow
      rcases HB.out with h0 | ⟨b, o, rfl, hbyt⟩
      · omega
      have B1 : Hid (∀ q, Bytes (wr.drewN q) (some ⟨g x, 0, none⟩) (size len m x) (fun j => f (p + j))) := fun q => .inr ⟨g x, 0, rfl, fun j hj => by
        rw [Nat.zero_add, hpx]; exact (show wr.cell? _ = _ from cell_of_row hrow5 (hcur j hj))⟩
      have B2 : Hid (∀ q, Bytes (wr.drewN q) (some ⟨b, o + p, none⟩) (size len m x) (fun j => f (p + j))) := fun q => .inr ⟨b, o + p, rfl, fun j hj => by
        have h1 := hbyt (p + j) (by omega)
        rw [Nat.add_assoc]
        exact (hbel.cell (World.block_lt_of_cell? w _ h1)).trans h1⟩
      have Hstep : Hid (p + size len m x = place len m (x + 1)) := by rw [HPL.out]; exact hs2
      have Hend : Hid (size len m x < m → p + size len m x = len) := fun h => by rw [HPL.out, hs2]; exact hs5 h
      have hpz : p + size len m x ≤ len := by rw [HPL.out, hs2]; exact hs3
      have Hrow5 : Hid (wr.heap[g x]? = some (.cells cur 5 (0, 0))) := hrow5
      have Hcs : Hid (cur.size = cx) := hcs
      have Hrow : Hid (wr.heap[r]? = some (.cells lcur 22 (0, 0))) := hrow
      have Hbel := hid hbel
      have Hrest := hid hrest
      have Hlc : Hid (lcur[x]? = some (.slice (some ⟨g x, 0, none⟩) (size len m x) cx)) := (HLC.out x hlt).trans hv
      clear hs1 hs2 hs3 hs5 hcur hrow5 hcs hrow hbel hrest hpx hbyt hv HPL HP HK2 HLC HB
      generalize size len m x = z at *
      have t1 : decide ((m : Int) < (z : Int)) = false := by simp; omega
      have t2 : ((z : Int) == 0) = false := by simp; omega
      have t3 : decide ((len : Int) < (p : Int) + (z : Int)) = false := by simp; omega
      have t4 : p + z - p = z := by omega
      go_wp2
      go_quiet ((go_at_call 7; exact Calls.quiet_of (same_eq _ _ _ _ _ (by omega) (fun j => f (p + j)) _ (B1.out _) (B2.out _))))
      have hcl2 : (wr.drewN nq).cell? ⟨r, x, none⟩ = some (.slice (some ⟨g x, 0, none⟩) z cx) := hcl
      replace Hrow5 : Hid ((wr.drewN nq).heap[g x]? = some (.cells cur 5 (0, 0))) := Hrow5.out
      replace Hrow : Hid ((wr.drewN nq).heap[r]? = some (.cells lcur 22 (0, 0))) := Hrow.out
      replace Hbel : Hid (Below w.heap.size w (wr.drewN nq)) := Hbel.out.trans ((Below.refl _ wr).grown (grown_drewN wr nq none) Hbel.out.size (fun k e => by cases e))
      replace Hrest : Hid (Rest f len m (w.heap.size + 1) g vs k x (wr.drewN nq)) := Hrest.out
      clear hcl B1 B2
      generalize wr.drewN nq = wd at *
      have t5 : (z < m ∧ ((p : Int) + (z : Int) != (len : Int)) = false) ∨ m ≤ z := by
        by_cases hzm : z < m
        · left
          have := Hend.out hzm
          exact ⟨hzm, by simp; omega⟩
        · right
          omega
      rcases t5 with ⟨t5, t6⟩ | t5
      all_goals
        go_wp2
        go_loopw [13] (fun kk w4 => ∃ y : Nat, y ≤ z ∧ kk = .int .i64 y ∧ Agr (fun b => b ≠ g x) wd w4 ∧ ∃ cur', w4.heap[g x]? = some (.cells cur' 5 (0, 0)) ∧ cur'.size = cx) (fun kk _ => z - (intOf kk).toNat)
        case atStart => exact ⟨0, Nat.zero_le _, rfl, Agr.refl _ _, cur, Hrow5.out, Hcs.out⟩
        case round =>
          obtain ⟨y, hy, rfl, hag, cur', hc5, hcs'⟩ := hrel
          have hcl3 : wr.cell? ⟨r, x, none⟩ = some (.slice (some ⟨g x, 0, none⟩) z cx) := cell_of_row (hag.obj Hrow.out hrg) Hlc.out
          by_cases hyz : y < z
          · obtain ⟨v0, hv0⟩ : ∃ v0, cur'[y]? = some v0 := ⟨cur'[y]'(by omega), Array.getElem?_eq_getElem _⟩
            have hc6 := cell_of_row hc5 hv0
            have hf6 : wr.frozen? ⟨g x, y, none⟩ = false := free_of_row hc5
            have HC5 := hid hc5
            have HAG := hid hag
            have HCS := hid hcs'
            clear hc5 hag hcs' hv0 hcl2
            go_wp2
            go_roundw
            case rel => exact ⟨y + 1, by omega, by go_num, HAG.out.trans (Agr.grown (grown_set _ _ _ _)) fun b _ hb => ⟨hb, fun e => hb (by simpa using e)⟩, _, row_of_set _ HC5.out, by rw [Array.size_setIfInBounds]; exact HCS.out⟩
            case measure => simp [intOf]; omega
          · have HAG := hid hag
            clear hag hc5 hcs' hcl2
            go_wp2
            go_roundw
            case rel =>
              refine ⟨x + 1, p + z, by omega, by go_num, by go_num, Hstep.out, ?_, HAG.out.obj Hrow.out hrg, Hrest.out.later (x + 1) (by omega) fun j h1 h2 => ?_⟩
              · exact Hbel.out.trans ⟨HAG.out.os, HAG.out.tape, HAG.out.output, HAG.out.size, fun b hb => HAG.out.same b (by have := Hbel.out.size; omega) (by omega)⟩
              · have h3 := HU.out x j (by omega) h2
                obtain ⟨_, _, _, _, h4, _⟩ := Hrest.out j (by omega) h2
                exact HAG.out.same (g j) (Array.getElem?_eq_some_iff.1 h4).1 (by omega)
            case measure => simp [intOf]; omega
    · obtain rfl : x = k := by omega
      have HBEL := hid hbel
      clear hbel hrow hrest HLC HU
      have e3 : decide ((x : Int) ≤ most) = true := by rcases HK2.out with ⟨_, h⟩ | h <;> simp <;> omega
      have e4 : decide (0 < most) = true := by simp; omega
      rcases HK2.out with ⟨h, h2⟩ | h
      · have e1 : ((x : Int) == most) = false := by simp; omega
        have e2 : ((p : Int) == (len : Int)) = true := by have := HP.out h; have := HPL.out; simp; omega
        clear h h2
        go_wp2
        go_ret
        exact ⟨rfl, HBEL.out⟩
      · have e1 : ((x : Int) == most) = true := by simp; omega
        clear h
        by_cases hpl : p = len
        · have e2 : ((p : Int) == (len : Int)) = true := by simp; omega
          clear hpl
          go_wp2
          go_ret
          exact ⟨rfl, HBEL.out⟩
        · have e2 : ((p : Int) == (len : Int)) = false := by simp; omega
          clear hpl
          go_wp2
          go_ret
          exact ⟨rfl, HBEL.out⟩
end Go.Proofs.Ytdlbffbiicbkmaa

import Derived.Test.YtdlbffbiicbkmaaChunk
namespace Go.Proofs.Ytdlbffbiicbkmaa
open Go.RowKit Go.Shelf
attribute [local go_sem] Oper.semAt_some

/-- What Pieces hands over as the k-th: a new row with the piece's bytes. -/
def Piece (f : Nat → Int) (len m k : Nat) (v : Value) (A B : World) : Prop :=
  ∃ g cap cur, v = .slice (some ⟨g, 0, none⟩) (size len m k) cap ∧ A.heap.size ≤ g ∧ B.heap[g]? = some (.cells cur 5 (0, 0)) ∧ size len m k ≤ cap ∧ cur.size = cap ∧ ∀ j, j < size len m k → cur[j]? = some (.int .u8 (f (k * m + j)))

theorem Piece.later {f : Nat → Int} {len m k : Nat} {v : Value} {A B C : World} (h : Piece f len m k v A B) (hg : Agr (fun b => A.heap.size ≤ b) B C) : Piece f len m k v A C := by
  obtain ⟨g, cap, cur, h1, h2, h3, h4⟩ := h
  exact ⟨g, cap, cur, h1, h2, hg.obj h3 h2, h4⟩

theorem agr_below {W W' : World} (h : Below W.heap.size W W') : Agr (fun _ => True) W W' := ⟨h.os, h.tape, h.output, h.size, fun b hb _ => h.block b hb⟩

theorem piece_of_row {f : Nat → Int} {len m k : Nat} {v : Value} {A B : World} (h : B.ownsRow A.heap.size 5 1 v (size len m k) (row (fun j => f (k * m + j)) (size len m k))) (hv : v ≠ .slice none 0 0) : Piece f len m k v A B := by
  rcases h.2 with ⟨rfl, _⟩ | ⟨g, cap, cur, rfl, hg, hh, h1, h2, h3, h4⟩
  · exact absurd rfl hv
  · refine ⟨g, cap, cur, rfl, hg, hh, h1, by omega, fun j hj => ?_⟩
    have e : (cur.toList.take (size len m k * 1))[j]? = some (.int .u8 (f (k * m + j))) := by rw [h4]; exact row_get _ _ _ hj
    rw [List.getElem?_take_of_lt (by omega)] at e
    simpa using e

/-- A round's word, at whatever depth, inside another loop's round. -/
theorem round_any {a c l l2 : Nat} {P : Program} {fn : FuncId} {t : Array Value} {x y : Code} {w : World} {R : Ending → World → Prop} (h : RoundIn Fence.wide a P l fn t x y w R) : RoundIn (Fence.wide.inRound l2) c P l fn t x y w R :=
  ⟨trivial, fun k ks _ => h.2 k ks (room_wide _)⟩

theorem size_le (len m k : Nat) : size len m k ≤ len - k * m := Nat.min_le_right _ _

set_option maxHeartbeats 4000000 in
set_option maxRecDepth 100000 in
/-- The function that Pieces gives back, at n of 1 or more. -/
theorem pieces_runs (n : Nat) (hn : 5 ≤ n) (Bo Bn b len cap m : Nat) (hlen : len ≤ 65536) (hcap : len ≤ cap) (hm : 1 ≤ m) (hm2 : (m : Int) ≤ 9223372036854775807) (f : Nat → Int) (w : World) (arr : Array Value)
    (ho : Boxed w Bo 22 (.slice (some ⟨b, 0, none⟩) len cap)) (hb : Boxed w Bn 3 (.int .i64 m)) (ha : w.heap[b]? = some (.cells arr 5 (0, 0))) (hf : ∀ j, j < len → arr[j]? = some (.int .u8 (f j))) :
    Runs Fence.wide n Try.prog 11 #[.pointer (some ⟨Bo, 0, none⟩), .pointer (some ⟨Bn, 0, none⟩)] (fun x => x = Bo ∨ x = Bn ∨ x = b) (count len m) (Piece f len m) w := by
  intro l J Jx S₀ W hAg hS0 hM hJ hJx hY h0
  have h1 : 1 ≤ n := by omega
  have ho0 : Boxed W Bo 22 _ := hAg.obj ho trivial
  have hb0 : Boxed W Bn 3 _ := hAg.obj hb trivial
  have ha0 := hAg.obj ha trivial
  have nb := hM b (.inr (.inr rfl))
  have hbW : b < W.heap.size := (Array.getElem?_eq_some_iff.1 ha0).1
  have hBo := ho0.lt
  have hBn := hb0.lt
  have co := ho0.cell
  have cn := hb0.cell
  have hm1 : (1 : Int) ≤ (m : Int) := by omega
  have HY := hid hY
  have HJ := hid hJ
  have HJx := hid hJx
  have HS0 := hid hS0
  have H0 := hid h0
  have Ha := hid ha0
  have Hf := hid hf
  clear hY hJ hJx hM ho hb hAg ha ho0 hb0 hS0 h0 ha0 hf
  refine callsIn_of_wp_marks Try.func11 rfl trivial ?_ rfl
  simp only [Try.ntmps11, List.size_toArray, List.length_cons, List.length_nil, Nat.reduceAdd, Nat.reduceSub, Array.replicate_succ, Array.replicate_zero, List.push_toArray, List.append_toArray, List.nil_append, List.cons_append]
  gi_wp2_with (refine ⟨trivial, ?_⟩; gi_at_call 12; refine (chunk_in Fence.wide _ trivial rfl _ _ _ _ hm1 _).mono ?_; rintro e w' ⟨rfl, rfl⟩)
  have bY0 := Boxed.new W 30 (.func (.yield l) #[] #[])
  have bS0 := Boxed.new (W.alloc (.cells #[.func (.yield l) #[] #[]] 30)) 22 (.slice (some ⟨b, 0, none⟩) len cap)
  have bN0 := Boxed.new ((W.alloc (.cells #[.func (.yield l) #[] #[]] 30)).alloc (.cells #[.slice (some ⟨b, 0, none⟩) len cap] 22)) 3 (.int .i64 m)
  have gV : Agr (fun _ => True) W (((W.alloc (.cells #[.func (.yield l) #[] #[]] 30)).alloc (.cells #[.slice (some ⟨b, 0, none⟩) len cap] 22)).alloc (.cells #[.int .i64 m] 3)) :=
    agr_below ((((Below.refl _ W).alloc (Nat.le_refl _) _).alloc (by simp) _).alloc (by simp; omega) _)
  replace bY0 := (bY0.alloc (.cells #[.slice (some ⟨b, 0, none⟩) len cap] 22)).alloc (.cells #[.int .i64 m] 3)
  replace bS0 := bS0.alloc (.cells #[.int .i64 m] 3)
  have hVs : (((W.alloc (.cells #[.func (.yield l) #[] #[]] 30)).alloc (.cells #[.slice (some ⟨b, 0, none⟩) len cap] 22)).alloc (.cells #[.int .i64 m] 3)).heap.size = W.heap.size + 3 := by simp
  simp only [World.size_alloc] at bS0 bN0
  generalize ((W.alloc (.cells #[.func (.yield l) #[] #[]] 30)).alloc (.cells #[.slice (some ⟨b, 0, none⟩) len cap] 22)).alloc (.cells #[.int .i64 m] 3) = V at *
  refine range_runs rfl h1 (gf := 13) (lb := #[.pointer (some ⟨W.heap.size + 1, 0, none⟩), .pointer (some ⟨W.heap.size + 1 + 1, 0, none⟩)]) rfl trivial (enters_of Try.func13 (by kernel_rfl) rfl)
    (chunk_runs (n - 1) (W.heap.size + 1) (W.heap.size + 1 + 1) b 0 len cap m hlen hcap hm hm2 V bS0 bN0) (Agr.refl _ _) rfl (fun _ _ _ _ _ h _ => h)
    (fun k S A => J k S A ∧ Boxed A W.heap.size 30 (.func (.yield l) #[] #[]) ∧ A.heap[b]? = some (.cells arr 5 (0, 0)) ∧ ¬ S W.heap.size ∧ ¬ S b)
    (fun c k S A => c = .ret ∧ Jx k S A) S₀ (fun x hx => by have := HS0.out x hx; omega) ?hM ?hI ?hIx ?h0
    (fun v => { tmps := #[.func (.yield l) #[] #[], .pointer (some ⟨Bo, 0, none⟩), .pointer (some ⟨Bn, 0, none⟩), .pointer (some ⟨W.heap.size, 0, none⟩), v, .slice (some ⟨b, 0, none⟩) len cap, .int .i64 m, .func (.func 13) #[] #[.pointer (some ⟨W.heap.size + 1, 0, none⟩), .pointer (some ⟨W.heap.size + 1 + 1, 0, none⟩)], v, undef, undef, undef, undef, undef], defers := [] }) ?assign ?body ?done ?stop
  case hM =>
    rintro x (rfl | rfl)
    · exact ⟨fun h => by have := HS0.out _ h; omega, by omega⟩
    · exact ⟨fun h => by have := HS0.out _ h; omega, by omega⟩
  case hI =>
    rintro k S A B ⟨j1, j2, j3, j4, j5⟩ hg
    exact ⟨HJ.out k S A B j1 (hg.weaken fun x _ h => h.elim .inl (fun h => .inr (by omega))), hg.obj j2 (.inr (by omega)), hg.obj j3 (.inr (by omega)), j4, j5⟩
  case hIx =>
    rintro c k S A B ⟨rfl, j1⟩ hg
    exact ⟨rfl, HJx.out k S A B j1 (hg.weaken fun x _ h => h.elim .inl (fun h => .inr (by omega)))⟩
  case h0 => exact ⟨HJ.out _ _ _ _ H0.out (gV.weaken fun _ _ _ => trivial), bY0, gV.obj Ha.out trivial, fun h => by have := HS0.out _ h; omega, nb⟩
  case assign =>
    intro l2 v W' K hK
    gi_wp2
    exact hK
  case body =>
    clear gV bY0 bS0 bN0 H0 Ha nb HS0 co cn
    rintro l2 k S v A B hk ⟨j1, j2, j3, j4, j5⟩ rfl hl2 hlA hnl hg
    replace j1 := HJ.out k S A B j1 (hg.weaken fun x _ h => h.elim (fun h e => hnl (e ▸ h)) (fun h => by omega))
    replace j2 : Boxed B W.heap.size 30 _ := hg.obj j2 (by omega)
    replace j3 := hg.obj j3 (by omega)
    have hyl := j2.cell
    have hAB := hg.size
    have hYA : W.heap.size < A.heap.size := by omega
    have hbA : b < A.heap.size := by omega
    have hkm := (count_lt hm).1 hk
    have hz1 := size_le len m k
    have hzc : ∀ j, j < size len m k → B.cell? ⟨b, k * m + j, none⟩ = some (.int .u8 (f (k * m + j))) := fun j hj => by
      exact cell_of_row j3 (Hf.out _ (by omega))
    have HZ := hid hzc
    have HK := hid hk
    have HJ1 := hid j1
    have H2 := hid j2
    have H3 := hid j3
    clear hzc hg hk hkm j1 j2 j3
    unfold cut
    have hd : 1 ≤ n - 1 - 1 := by omega
    have hmx : Try.prog.follows .mixedOrders = true := by kernel_rfl
    have hz2 : size len m k ≤ 65536 := by omega
    -- what follows the clone: the facts that the call of yield wants
    have key : ∀ (w1 : World) (v' : Value), w1.ownsRow B.drew.heap.size 5 1 v' (size len m k) (row (fun j => f (k * m + j)) (size len m k)) → v' ≠ .slice none 0 0 → Below B.drew.heap.size B.drew w1 →
        w1.cell? ⟨W.heap.size, 0, none⟩ = some (.func (.yield l) #[] #[]) ∧ Agr (fun _ => True) B w1 ∧ ∃ fn tmps assign body, (Instr.yield l #[v']).run Try.prog w1 = .ok (.round l fn tmps assign body) w1 ∧
          RoundIn Fence.wide (n - 1) Try.prog l fn tmps assign body w1 fun e W' => ∃ r S', e = .returned (.bool r) ∧ Next S B w1 S' W' ∧ (if r = true then J (k + 1) S' W' else Jx (k + 1) S' W') := by
      intro w1 v' q1 q2 q3
      have gB : Agr (fun _ => True) B w1 := ⟨q3.os, q3.tape, q3.output, q3.size, fun x hx _ => q3.block x hx⟩
      have b1 : Boxed w1 W.heap.size 30 _ := gB.obj H2.out trivial
      obtain ⟨fn, tmps, assign, body, hy, hR⟩ := HY.out k S v' B w1 HK.out HJ1.out gB (piece_of_row q1 q2)
      refine ⟨b1.cell, gB, fn, tmps, assign, body, hy, hR.mono ?_⟩
      rintro e W' ⟨S', hN, (⟨rfl, h⟩ | ⟨rfl, h⟩)⟩
      · exact ⟨true, S', rfl, hN, by simpa using h⟩
      · exact ⟨false, S', rfl, hN, by simpa using h⟩
    have KEY := hid key
    clear key HY HJ1 HK
    gi_wp2_with fail
    gi_region_with_o (first
      | (refine ⟨trivial, ?_⟩; gi_at_call 10; refine (CallsIn.inRound l2 (clone_in Fence.wide _ trivial rfl b (k * m) _ _ (fun j => f (k * m + j)) _ hz2 (by exact HZ.out))).mono ?_; rintro e w1 ⟨v', rfl, q1, q2, q3⟩; obtain ⟨hyl1, gB, fn, tmps, assign, body, hy, hR⟩ := KEY.out w1 v' q1 q2 q3; have GB := hid gB; clear q1 q2 q3 gB)
      | (refine (round_any hR).mono ?_; rintro e W3 ⟨r, S', rfl, hN, hr⟩; have HN := hid hN; have HR := hid hr; clear hN hr))
    all_goals
      have hnx : Next S A B S' W3 := ⟨fun x hx => (HN.out.1 x hx).elim .inl (fun h => .inr (Nat.le_trans hAB h)), GB.out.trans HN.out.2 fun _ _ h => ⟨trivial, h⟩⟩
      have k1 : ¬ S' W.heap.size := fun h => (hnx.1 _ h).elim j4 (fun h => by omega)
      have k2 : ¬ S' b := fun h => (hnx.1 _ h).elim j5 (fun h => by omega)
      have HX := hid hnx
      clear hnx hy hR
      cases r
      · gi_wp2
        exact ⟨S', HX.out, rfl, by simpa using HR.out⟩
      · gi_wp2
        exact ⟨S', HX.out, by simpa using HR.out, HX.out.2.obj H2.out j4, HX.out.2.obj H3.out j5, k1, k2⟩
  case done =>
    rintro D S W' hD hSD ⟨j1, _, _, _, _⟩ hK
    gi_wp2
    refine ⟨by simp, .inl ⟨_, _, rfl, run_takeDeferred hK, ?_⟩⟩
    exact ⟨_, results_none rfl _ _ _, ⟨_, rfl⟩, _, S, Nat.le_refl _, .inl ⟨rfl, HJ.out _ _ _ _ j1 ((Agr.put W' D _).weaken fun x _ h => h.elim (fun h e => hSD (e ▸ h)) (fun h => by omega))⟩⟩
  case stop =>
    rintro D k c S W' hD hSD hk ⟨rfl, j1⟩ hK
    gi_wp2
    refine ⟨by simp, .inl ⟨_, _, rfl, run_takeDeferred hK, ?_⟩⟩
    exact ⟨_, results_none rfl _ _ _, ⟨_, rfl⟩, k, S, hk, .inr (HJx.out _ _ _ _ j1 ((Agr.put W' D _).weaken fun x _ h => h.elim (fun h e => hSD (e ▸ h)) (fun h => by omega)))⟩
end Go.Proofs.Ytdlbffbiicbkmaa

import Derived.Test.YtdlbffbiicbkmaaCollectB
namespace Go.Proofs.Ytdlbffbiicbkmaa
open Go.RowKit Go.Shelf
attribute [local go_sem] Oper.semAt_some

/-- What Collect gives back: k pieces, each in a row of its own. -/
def Listed (f : Nat → Int) (len m base : Nat) (u : Value) (k : Nat) (A : World) : Prop :=
  ∃ vs g, A.ownsRow base 22 1 u k vs ∧ Got f len m base g vs k (fun _ => True) A

theorem Coll.listed {f : Nat → Int} {len m Bm Bl : Nat} {most : Int} {w : World} {k : Nat} {S : Nat → Prop} {A : World} {u : Value} {vs : List Value} {g : Nat → Nat} (h : Coll f len m Bm Bl most w k S A u vs g) : Listed f len m w.heap.size u k A :=
  ⟨vs, g, h.row, h.got.later (fun _ _ => trivial) fun _ _ => rfl⟩

set_option maxHeartbeats 4000000 in
set_option maxRecDepth 100000 in
/-- Collect: the first pieces, as many as are wanted or as there are. -/
theorem collect_some (b0 len c : Nat) (f : Nat → Int) (m : Nat) (most : Int) (hmost : 0 < most) (hm65 : most ≤ 65536) (hm : 1 ≤ m) (hm2 : (m : Int) ≤ 9223372036854775807) (hlen : len ≤ 65536) (w : World) (hc : ∀ j, j < len → w.cell? ⟨b0, 0 + j, none⟩ = some (.int .u8 (f j))) :
    CallsIn Fence.wide 9 Try.prog 5 #[.slice (some ⟨b0, 0, none⟩) len c, .int .i64 m, .int .i64 most] w fun e w' => ∃ u k, e = .returned u ∧ Listed f len m w.heap.size u k w' ∧ Below w.heap.size w w' ∧
      k ≤ count len m ∧ ((k = count len m ∧ (k : Int) < most) ∨ (k : Int) = most) := by
  have hdec : decide (most ≤ 0) = false := by simp; omega
  obtain ⟨i0, hi, hz0, hz1, hz2⟩ := info_parts info22
  refine callsIn_of_wp_marks Try.func5 rfl trivial ?_ rfl
  simp only [Try.ntmps5, List.size_toArray, List.length_cons, List.length_nil, Nat.reduceAdd, Nat.reduceSub, Array.replicate_succ, Array.replicate_zero, List.push_toArray, List.append_toArray, List.nil_append, List.cons_append]
  have hcl : ∀ j, j < len → ((w.alloc (.cells #[.int .i64 most] 3)).alloc (.cells #[.slice none 0 0] 24)).cell? ⟨b0, 0 + j, none⟩ = some (.int .u8 (f j)) := fun j hj =>
    (Below.cell (B := w.heap.size) (((Below.refl _ w).alloc (Nat.le_refl _) _).alloc (by simp) _) (World.block_lt_of_cell? w _ (hc j hj))).trans (hc j hj)
  have HCL := hid hcl
  clear hcl hc
  gi_wp2_with (refine ⟨trivial, ?_⟩; gi_at_call 8; refine (pieces_some _ (by decide) b0 len c f m hm _ hlen (by exact HCL.out)).mono ?_; rintro e V ⟨Bo, Bn, b, cap, arr, rfl, gV, q1, q2, q3, q4, q5, q6, q7, q8⟩)
  have bM := gV.obj ((Boxed.new w 3 (.int .i64 most)).alloc (.cells #[.slice none 0 0] 24)) trivial
  have bL := gV.obj (Boxed.new (w.alloc (.cells #[.int .i64 most] 3)) 24 (.slice none 0 0)) trivial
  have hold : Agr (fun b => b < w.heap.size) w V := (agr_below (((Below.refl _ w).alloc (Nat.le_refl _) _).alloc (by simp) _)).trans gV fun _ _ _ => ⟨trivial, trivial⟩
  have hsz := gV.size
  simp only [World.size_alloc] at bL hsz q6 q7 q8
  clear gV HCL
  refine range_runs rfl (by decide) (gf := 11) (lb := #[.pointer (some ⟨Bo, 0, none⟩), .pointer (some ⟨Bn, 0, none⟩)]) rfl trivial (enters_of Try.func11 (by kernel_rfl) rfl)
    (pieces_runs 8 (by decide) Bo Bn b len cap m hlen q4 hm hm2 f V arr q1 q2 q3 q5) (Agr.refl _ _) rfl (fun _ _ _ _ _ h hg => h.later hg)
    (fun k S A => (k : Int) < most ∧ ∃ u vs g, Coll f len m w.heap.size (w.heap.size + 1) most w k S A u vs g)
    (fun c k S A => c = .exit 0 ∧ (k : Int) = most ∧ ∃ u vs g, Coll f len m w.heap.size (w.heap.size + 1) most w k S A u vs g)
    (fun b => b = w.heap.size + 1) (fun x hx => by omega) ?hM ?hI ?hIx ?h0
    (fun v => { tmps := #[.slice (some ⟨b0, 0, none⟩) len c, .int .i64 m, .int .i64 most, undef, undef, .pointer (some ⟨w.heap.size, 0, none⟩), .slice none 0 0, .pointer (some ⟨w.heap.size + 1, 0, none⟩), v, .int .i64 most, .bool false, undef, .slice (some ⟨b0, 0, none⟩) len c, .int .i64 m, .func (.func 11) #[] #[.pointer (some ⟨Bo, 0, none⟩), .pointer (some ⟨Bn, 0, none⟩)], v, undef, undef, undef, undef, undef, undef, undef, undef, undef], defers := [] }) ?assign ?body ?done ?stop
  case hM =>
    rintro x (rfl | rfl | rfl)
    · exact ⟨by omega, q1.lt⟩
    · exact ⟨by omega, q2.lt⟩
    · exact ⟨by omega, (Array.getElem?_eq_some_iff.1 q3).1⟩
  case hI =>
    rintro k S A B ⟨j1, u, vs, g, j2⟩ hg
    exact ⟨j1, u, vs, g, j2.later (hg.weaken fun x _ h => h.elim .inl (fun h => .inr (by omega)))⟩
  case hIx =>
    rintro c k S A B ⟨rfl, j1, u, vs, g, j2⟩ hg
    exact ⟨rfl, j1, u, vs, g, j2.later (hg.weaken fun x _ h => h.elim .inl (fun h => .inr (by omega)))⟩
  case h0 =>
    exact ⟨hmost, .slice none 0 0, [], fun _ => 0, bM, fun x hx => by omega, rfl, hold, bL, World.ownsRow_nil _ _ _ _, fun r hr => by simp [Value.ownBlock] at hr, rfl, fun i j _ h => by omega, fun j h => by omega⟩
  case assign =>
    intro l v W' K hK
    gi_wp2
    exact hK
  case body =>
    clear bM bL hold q1 q2 q3 q5
    rintro l k S v A B hk ⟨j1, u, vs, g, j2⟩ hP hl hlA hnl hg
    have hbA : ∀ j, j < k → g j < A.heap.size := fun j hj => by
      obtain ⟨_, _, _, _, _, h4, _⟩ := j2.got.each j hj
      exact (Array.getElem?_eq_some_iff.1 h4).1
    have j3 := j2.later (hg.weaken fun x _ h => h.elim (fun h e => hnl (e ▸ h)) (fun h => by omega))
    have hwA : w.heap.size ≤ A.heap.size := j2.old.size
    have hAB := hg.size
    have hstep := fun (w1 : World) (r c' : Nat) (tmp : Obj) => j3.step (w1 := w1) (r := r) (c := c') (tmp := tmp) hbA hAB hwA hP
    have hcl := j3.box.cell
    have hcm := j3.mst.cell
    have hrow := j3.row
    obtain ⟨gk, ck, cur, rfl, _⟩ := hP
    have hbs : w.heap.size ≤ B.heap.size := by omega
    have STEP := hid hstep
    have HROW := hid hrow
    have HB := hid j3.box
    have HM := hid j3.mst
    clear hstep hrow j2 j3 hg hbA hnl
    gi_wp2_with (gi_at_builtin; refine wpListIn_lies _ rfl _ _ 24 rfl w.heap.size 22 i0 (.slice none 0 0) 24 Try.underlying24 hi hz0 hz1 hz2 rfl u k vs rfl ?r1 ⟨B.heap.size, 0, none⟩ 1 (.slice (some ⟨gk, 0, none⟩) (size len m k) ck) rfl ?r2 rfl ?r3 ?r4 ?r5 (B.heap.size + 1) ?r6 ?_)
    case r1 => exact HROW.out.alloc _
    case r2 => exact (Boxed.new B 22 _).cell
    case r3 => unfold maxLen; omega
    case r4 => omega
    case r5 => simp; omega
    case r6 => simp
    intro r c' w1 hown hgrow hat
    obtain ⟨S', g', hN, hC⟩ := STEP.out w1 r c' _ hown hgrow hat
    have b1 : Boxed w1 (w.heap.size + 1) 24 u := (HB.out.alloc _).kept hgrow (HB.out.not_row (by decide) HROW.out)
    have c1 := b1.cell
    have f1 := b1.frozen
    have c2 := hC.box.cell
    have m2 := hC.mst.cell
    have HN := hid hN
    have HC := hid hC
    clear hN hC b1 hown hgrow hat STEP HROW HB HM hcl hcm
    by_cases heq : (k : Int) + 1 = most
    · have hq : ((k : Int) + 1 == most) = true := by simpa using heq
      have HE := hid heq
      clear heq
      gi_wp2
      exact ⟨S', HN.out, rfl, by rw [← HE.out]; simp, _, _, _, HC.out⟩
    · have hq : ((k : Int) + 1 == most) = false := by simpa using heq
      have HE := hid heq
      clear heq
      gi_wp2
      exact ⟨S', HN.out, by have := HE.out; omega, _, _, _, HC.out⟩
  case done =>
    rintro D S W' hD hSD ⟨j1, u, vs, g, j2⟩ hK
    have jc := j2.box.cell
    have J2 := hid j2
    clear j2 bM bL hold q1 q2 q3 q5
    gi_wp2
    refine ⟨by simp, .inl ⟨_, _, rfl, run_takeDeferred hK, ?_⟩⟩
    have j3 := J2.out.later (B := W'.putObj D (.deferred none)) ((Agr.put W' D _).weaken fun x _ h => h.elim (fun h e => hSD (e ▸ h)) (fun h => by omega))
    exact ⟨_, results_tmp rfl _ _ _, u, _, rfl, j3.listed, ⟨j3.old.os, j3.old.tape, j3.old.output, j3.old.size, fun x hx => j3.old.same x hx hx⟩, Nat.le_refl _, .inl ⟨rfl, j1⟩⟩
  case stop =>
    rintro D k c' S W' hD hSD hk ⟨rfl, j1, u, vs, g, j2⟩ hK
    have jc := j2.box.cell
    have J2 := hid j2
    have J1 := hid j1
    clear j1 j2 bM bL hold q1 q2 q3 q5
    gi_wp2
    refine ⟨by simp, .inl ⟨_, _, rfl, run_takeDeferred hK, ?_⟩⟩
    have j3 := J2.out.later (B := W'.putObj D (.deferred none)) ((Agr.put W' D _).weaken fun x _ h => h.elim (fun h e => hSD (e ▸ h)) (fun h => by omega))
    exact ⟨_, results_tmp rfl _ _ _, u, _, rfl, j3.listed, ⟨j3.old.os, j3.old.tape, j3.old.output, j3.old.size, fun x hx => j3.old.same x hx hx⟩, hk, .inr J1.out⟩
end Go.Proofs.Ytdlbffbiicbkmaa

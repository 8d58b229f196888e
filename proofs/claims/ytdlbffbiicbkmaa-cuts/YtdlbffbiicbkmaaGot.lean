import Derived.Test.YtdlbffbiicbkmaaPieces
import Derived.Deep.AppendLies
namespace Go.Proofs.Ytdlbffbiicbkmaa
open Go.RowKit Go.Shelf
attribute [local go_sem] Oper.semAt_some

/-- The k values vs are the first k pieces, each a row of its own, in the blocks g 0 < g 1 < .. -/
structure Got (f : Nat → Int) (len m base : Nat) (g : Nat → Nat) (vs : List Value) (k : Nat) (S : Nat → Prop) (A : World) : Prop where
  cnt : vs.length = k
  up : ∀ i j, i < j → j < k → g i < g j
  each : ∀ j, j < k → base ≤ g j ∧ S (g j) ∧ ∃ cap cur, vs[j]? = some (.slice (some ⟨g j, 0, none⟩) (size len m j) cap) ∧ A.heap[g j]? = some (.cells cur 5 (0, 0)) ∧
    size len m j ≤ cap ∧ cur.size = cap ∧ ∀ i, i < size len m j → cur[i]? = some (.int .u8 (f (j * m + i)))

theorem Got.later {f : Nat → Int} {len m base : Nat} {g : Nat → Nat} {vs : List Value} {k : Nat} {S S' : Nat → Prop} {A B : World} (h : Got f len m base g vs k S A) (hS : ∀ j, j < k → S' (g j)) (hg : ∀ j, j < k → B.heap[g j]? = A.heap[g j]?) : Got f len m base g vs k S' B :=
  ⟨h.cnt, h.up, fun j hj => by obtain ⟨h1, _, cap, cur, h3, h4, h5⟩ := h.each j hj; exact ⟨h1, hS j hj, cap, cur, h3, (hg j hj).trans h4, h5⟩⟩

/-- What Collect holds when k pieces have come. -/
structure Coll (f : Nat → Int) (len m Bm Bl : Nat) (most : Int) (w : World) (k : Nat) (S : Nat → Prop) (A : World) (u : Value) (vs : List Value) (g : Nat → Nat) : Prop where
  mst : Boxed A Bm 3 (.int .i64 most)
  low : ∀ b, S b → w.heap.size ≤ b
  sbl : S Bl
  old : Agr (fun b => b < w.heap.size) w A
  box : Boxed A Bl 24 u
  row : A.ownsRow w.heap.size 22 1 u k vs
  own : ∀ r, u.ownBlock = some r → S r
  got : Got f len m w.heap.size g vs k S A

theorem Coll.later {f : Nat → Int} {len m Bm Bl : Nat} {most : Int} {w : World} {k : Nat} {S : Nat → Prop} {A B : World} {u : Value} {vs : List Value} {g : Nat → Nat} (h : Coll f len m Bm Bl most w k S A u vs g)
    (hg : Agr (fun b => S b ∨ b = Bm ∨ b < w.heap.size) A B) : Coll f len m Bm Bl most w k S B u vs g := by
  refine ⟨hg.obj h.mst (.inr (.inl rfl)), h.low, h.sbl, h.old.trans hg fun b _ hb => ⟨hb, .inr (.inr hb)⟩, hg.obj h.box (.inl h.sbl), ?_, h.own, h.got.later (fun j hj => (h.got.each j hj).2.1) fun j hj => ?_⟩
  · refine ⟨h.row.1, ?_⟩
    rcases h.row.2 with h0 | ⟨r, cap, cur, hu, h1, h2, h3⟩
    · exact .inl h0
    · exact .inr ⟨r, cap, cur, hu, h1, hg.obj h2 (.inl (h.own r (by rw [hu]; rfl))), h3⟩
  · obtain ⟨_, h2, cap, cur, _, h4, _⟩ := h.got.each j hj
    rw [hg.obj h4 (.inl h2), h4]

theorem not_row_of {A : World} {b : Nat} {cs : Array Value} {t e : TypeId} {fr : Nat × Nat} (h : A.heap[b]? = some (.cells cs t fr)) (hte : t ≠ e) {base sz k : Nat} {v : Value} {xs : List Value} (hr : A.ownsRow base e sz v k xs) : some b ≠ v.ownBlock := by
  rcases hr.2 with ⟨rfl, _⟩ | ⟨r, cap, cur, rfl, _, h2, _⟩
  · simp [Value.ownBlock]
  · intro h3
    obtain rfl : b = r := by simpa [Value.ownBlock] using h3
    rw [h] at h2
    simp at h2
    exact hte h2.2.1

/-- One piece more. -/
theorem Coll.step {f : Nat → Int} {len m Bm Bl : Nat} {most : Int} {w : World} {k : Nat} {S : Nat → Prop} {A B w1 : World} {u v : Value} {vs : List Value} {g : Nat → Nat} {tmp : Obj} {r c : Nat}
    (h : Coll f len m Bm Bl most w k S B u vs g) (hb : ∀ j, j < k → g j < A.heap.size) (hAB : A.heap.size ≤ B.heap.size) (hwA : w.heap.size ≤ A.heap.size) (hp : Piece f len m k v A B)
    (hown : w1.ownsRow w.heap.size 22 1 (.slice (some ⟨r, 0, none⟩) (k + 1) c) (k + 1) (vs ++ [v])) (hgrow : (B.alloc tmp).grownBy w1 u.ownBlock) (hat : u.ownBlock = some r ∨ r = B.heap.size + 1) :
    ∃ S' g', Next S A B S' (w1.setCell ⟨Bl, 0, none⟩ (.slice (some ⟨r, 0, none⟩) (k + 1) c)) ∧
      Coll f len m Bm Bl most w (k + 1) S' (w1.setCell ⟨Bl, 0, none⟩ (.slice (some ⟨r, 0, none⟩) (k + 1) c)) (.slice (some ⟨r, 0, none⟩) (k + 1) c) (vs ++ [v]) g' := by
  obtain ⟨gk, cap, cur, rfl, p1, p2, p3, p4, p5⟩ := hp
  have key : ∀ (b : Nat) (o : Obj), B.heap[b]? = some o → b ≠ Bl → some b ≠ u.ownBlock → (w1.setCell ⟨Bl, 0, none⟩ (.slice (some ⟨r, 0, none⟩) (k + 1) c)).heap[b]? = some o := by
    intro b o ho h1 h2
    have hlt := (Array.getElem?_eq_some_iff.1 ho).1
    rw [Below.heap_setCell _ _ _ b h1, hgrow.block b (by simp; omega) h2, Below.heap_alloc _ _ _ hlt, ho]
  have hbl : ∀ (b : Nat) (cs : Array Value), B.heap[b]? = some (.cells cs 5 (0, 0)) → b ≠ Bl := by
    rintro b cs h1 rfl
    rw [show B.heap[b]? = _ from h.box] at h1
    simp at h1
  have hbm : Bm ≠ Bl := by
    rintro rfl
    have h1 := h.mst
    rw [Boxed, show B.heap[Bm]? = _ from h.box] at h1
    simp at h1
  have b1 : Boxed w1 Bl 24 u := (h.box.alloc tmp).kept hgrow (h.box.not_row (by decide) h.row)
  refine ⟨fun b => S b ∨ b = gk ∨ b = r, fun j => if j < k then g j else gk, ⟨?_, ?_⟩, ?_⟩
  · rintro b (h1 | rfl | rfl)
    · exact .inl h1
    · exact .inr p1
    · rcases hat with h1 | rfl
      · exact .inl (h.own _ h1)
      · exact .inr (by omega)
  · refine (((Agr.grown (World.grownBy_alloc B tmp none)).trans (C := fun b => ¬ S b) (Agr.grown hgrow) fun b _ hb => ⟨by simp, fun e => hb (h.own b e.symm)⟩).trans (Agr.grown (grown_set w1 Bl 0 _)) fun b _ hb => ⟨hb, fun e => ?_⟩)
    cases e
    exact hb h.sbl
  · refine ⟨key Bm _ h.mst hbm (h.mst.not_row (by decide) h.row), ?_, .inl h.sbl, ?_, b1.set _, ?_, ?_, ?_⟩
    · rintro b (h1 | rfl | rfl)
      · exact h.low b h1
      · omega
      · rcases hat with h1 | rfl
        · exact h.low _ (h.own _ h1)
        · omega
    · refine ⟨?_, ?_, ?_, ?_, fun b hb1 hb2 => ?_⟩
      · exact hgrow.os.trans h.old.os
      · exact hgrow.tape.trans h.old.tape
      · exact hgrow.output.trans h.old.output
      · have h1 := hgrow.size; have h2 := h.old.size; simp [World.setCell] at h1 ⊢; omega
      · have h1 := h.old.same b hb1 hb2
        have h2 : B.heap[b]? = some w.heap[b] := by rw [h1, Array.getElem?_eq_getElem hb1]
        rw [key b _ h2 (fun e => by have := h.low _ h.sbl; omega) (fun e => by have := h.low _ (h.own b e.symm); omega), Array.getElem?_eq_getElem hb1]
    · exact hown.kept (grown_set w1 Bl 0 _) (.inr (b1.not_row (by decide) hown).symm)
    · intro r' hr'
      obtain rfl : r = r' := by simpa [Value.ownBlock] using hr'
      exact .inr (.inr rfl)
    · refine ⟨by simp [h.got.cnt], fun i j hij hj => ?_, fun j hj => ?_⟩
      · by_cases h1 : j < k
        · simp only [h1, if_true, show i < k from by omega]
          exact h.got.up i j hij h1
        · simp only [h1, if_false, show i < k from by omega, if_true]
          have := hb i (by omega)
          omega
      · by_cases h1 : j < k
        · simp only [h1, if_true]
          obtain ⟨e1, e2, cap', cur', e3, e4, e5⟩ := h.got.each j h1
          exact ⟨e1, .inl e2, cap', cur', by rw [List.getElem?_append_left (by rw [h.got.cnt]; exact h1)]; exact e3, key _ _ e4 (hbl _ _ e4) (not_row_of e4 (by decide) h.row), e5⟩
        · obtain rfl : j = k := by omega
          simp only [h1, if_false]
          exact ⟨by omega, by simp, cap, cur, by rw [List.getElem?_append_right (by rw [h.got.cnt]; omega)]; simp [h.got.cnt], key _ _ p2 (hbl _ _ p2) (not_row_of p2 (by decide) h.row), p3, p4, p5⟩

/-- 'append' in a fenced walk, and where the new slice lies. -/
theorem wpListIn_lies {F : Fence} {n : Nat} {P : Program} (w : World) {ops : Array Oper} {rest : List Oper} {o : Oper} {a : Act} {Q : Exit → Act → World → Prop}
    (hg : o.guard = none) (s x : Operand) (t : TypeId) (hop : o.op = Op.call { callee := Callee.builtin Builtin.append, args := #[s, x], argTypes := #[t, t] })
    (base : Nat) (e : TypeId) (i : TypeInfo) (z : Value) (bytes : Nat) (h1 : P.underlying t = some (.slice e)) (h2 : P.info? e = some i) (h3 : i.zero = some z) (h4 : i.size = 1) (h5 : i.bytes = bytes) (h6 : z.cells.size = 1)
    (v : Value) (k : Nat) (xs : List Value) (hs : a.eval s = v) (hown : w.ownsRow base e 1 v k xs) (ad : Addr) (c : Nat) (new : Value) (hx : a.eval x = .slice (some ad) 1 c)
    (hc : w.cell? ad = some new) (h1c : new.oneCell' = true) (b1 : k + 1 ≤ maxLen) (b2 : (k + 1) * bytes ≤ 140737488355328) (b3 : base ≤ w.heap.size) (H : Nat) (hH : w.heap.size = H)
    (hK : ∀ g c' w', w'.ownsRow base e 1 (.slice (some ⟨g, 0, none⟩) (k + 1) c') (k + 1) (xs ++ [new]) → w.grownBy w' v.ownBlock → (v.ownBlock = some g ∨ g = H) → wpListIn F n P ops Q rest (a.put o.dst (.slice (some ⟨g, 0, none⟩) (k + 1) c')) w') :
    wpListIn F n P ops Q (o :: rest) a w := by
  refine wpListIn_plain hg fun K hK' => ?_
  obtain ⟨g, c', w', hrun, r1, r2, r3, _⟩ := run_append_lies (P := P) w t o.type base e i z 1 bytes h1 h2 h3 h4 h5 h6 (by decide) v k xs hown ad 1 c [new] rfl
    (fun j u hj => by
      cases j with
      | zero => simp at hj; subst hj; simpa [Addr.add] using hc
      | succ j => simp at hj) (fun u hu => by simp at hu; subst hu; exact h1c) (by decide) b1 b2 b3 H hH
  unfold Oper.wpIn
  refine ⟨?_, ?_⟩
  · simp [Oper.about, hop, resolve, Target.leads, Sem.run_pure]
  · rw [Oper.semAt_plain F _ _ (by rw [hop]; intro c hc'; cases hc')]
    simp [execOp, hop, resolve, invoke, builtin, hs, hx, hrun, Result.andThen]
    exact hK' _ _ (hK g c' w' r1 r2 r3)
end Go.Proofs.Ytdlbffbiicbkmaa

/-
  A range over a function whose rounds may themselves be handed on by another range over a function ('for p := range f { if !yield(p) { return } }'): the contract of the function that is ranged over, and the law of the statement. S: the blocks that the loop's owner writes; they grow by new blocks alone, and all others lie as they lay when a round is over.
-/
import Derived.RangeFuncNested
import Derived.RangeFuncBound
import Derived.RangeFuncCalls
import Derived.RangeFuncLeaves
namespace Go.Proofs.Ytdlbffbiicbkmaa
open Go.RowKit

/-- What A names, of all that lies in W, lies in W' as it lay. -/
structure Agr (A : Nat → Prop) (W W' : World) : Prop where
  os : W'.os = W.os
  tape : W'.tape = W.tape
  output : W'.output = W.output
  size : W.heap.size ≤ W'.heap.size
  same : ∀ b, b < W.heap.size → A b → W'.heap[b]? = W.heap[b]?

theorem Agr.refl (A : Nat → Prop) (W : World) : Agr A W W := ⟨rfl, rfl, rfl, Nat.le_refl _, fun _ _ _ => rfl⟩
theorem Agr.weaken {A A' : Nat → Prop} {W W' : World} (h : Agr A W W') (hA : ∀ b, b < W.heap.size → A' b → A b) : Agr A' W W' := ⟨h.os, h.tape, h.output, h.size, fun b hb ha => h.same b hb (hA b hb ha)⟩
theorem Agr.trans {A B C : Nat → Prop} {X Y Z : World} (h : Agr A X Y) (k : Agr B Y Z) (hA : ∀ b, b < X.heap.size → C b → A b ∧ B b) : Agr C X Z :=
  ⟨k.os.trans h.os, k.tape.trans h.tape, k.output.trans h.output, Nat.le_trans h.size k.size, fun b hb hc => (k.same b (Nat.lt_of_lt_of_le hb h.size) (hA b hb hc).2).trans (h.same b hb (hA b hb hc).1)⟩
theorem Agr.put (W : World) (l : Nat) (o : Obj) : Agr (fun b => b ≠ l) W (W.putObj l o) :=
  have g := grownBy_putObj' W l o
  ⟨g.os, g.tape, g.output, g.size, fun b hb hne => g.block b hb (fun e => hne (by cases e; rfl))⟩
theorem Agr.grown {W W' : World} {row : Option Nat} (g : W.grownBy W' row) : Agr (fun b => some b ≠ row) W W' := ⟨g.os, g.tape, g.output, g.size, fun b hb hne => g.block b hb hne⟩
theorem Agr.obj {A : Nat → Prop} {W W' : World} (h : Agr A W W') {b : Nat} {o : Obj} (ho : W.heap[b]? = some o) (ha : A b) : W'.heap[b]? = some o :=
  (h.same b (Array.getElem?_eq_some_iff.1 ho).1 ha).trans ho

/-- From W with the blocks S one has come to W' with the blocks S'; what was made since A (the function that is ranged over makes it for the round and hands it over) may be among them. -/
def Next (S : Nat → Prop) (A W : World) (S' : Nat → Prop) (W' : World) : Prop := (∀ b, S' b → S b ∨ A.heap.size ≤ b) ∧ Agr (fun b => ¬ S b) W W'

/-- How a round's body may be left. -/
def Leave (I : Nat → (Nat → Prop) → World → Prop) (Ix : Code → Nat → (Nat → Prop) → World → Prop) (k : Nat) (S : Nat → Prop) (A W : World) : Exit → Act → World → Prop
  | .normal, _, W' => ∃ S', Next S A W S' W' ∧ I (k + 1) S' W'
  | .ret, _, W' => ∃ S', Next S A W S' W' ∧ Ix .ret (k + 1) S' W'
  | .exit id, _, W' => ∃ S', Next S A W S' W' ∧ Ix (.exit id) (k + 1) S' W'
  | .goto t, _, W' => ∃ S', Next S A W S' W' ∧ Ix (.goto t) (k + 1) S' W'
  | .panic _, _, _ => False
  | .outgrown, _, _ => False

/-- The contract of a function that is ranged over: N rounds at most; what the k-th is handed is X's; it gives back when all are over or a round has said no more. M: the blocks that it reads, none of which a round may write. -/
def Runs (F : Fence) (n : Nat) (P : Program) (g : Nat) (lb : Array Value) (M : Nat → Prop) (N : Nat) (X : Nat → Value → World → World → Prop) (w : World) : Prop :=
  ∀ (l : Nat) (J Jx : Nat → (Nat → Prop) → World → Prop) (S₀ : Nat → Prop) (W : World),
    Agr (fun _ => True) w W → (∀ b, S₀ b → b < W.heap.size) → (∀ b, M b → ¬ S₀ b) →
    (∀ k S A B, J k S A → Agr (fun b => S b ∨ b < W.heap.size) A B → J k S B) →
    (∀ k S A B, Jx k S A → Agr (fun b => S b ∨ b < W.heap.size) A B → Jx k S B) →
    (∀ k S v A B, k < N → J k S A → Agr (fun _ => True) A B → X k v A B → YieldAt F (n - 1) P l #[v] B fun e W' => ∃ S', Next S A B S' W' ∧
      ((e = .returned (.bool true) ∧ J (k + 1) S' W') ∨ (e = .returned (.bool false) ∧ Jx (k + 1) S' W'))) →
    J 0 S₀ W →
    CallsIn F n P g (#[.func (.yield l) #[] #[]] ++ lb) W fun e W' => (∃ v, e = .returned v) ∧ ∃ k S, k ≤ N ∧ ((k = N ∧ J k S W') ∨ Jx k S W')

variable {F : Fence} {n : Nat} {P : Program}

theorem put_same {W : World} {l : Nat} {o : Obj} (o' : Obj) (h : W.heap[l]? = some o) : (W.putObj l o').heap[l]? = some o' := World.putObj_heap_same (Array.getElem?_eq_some_iff.1 h).1

theorem range_runs {g : Operand} {ps : Array Tmp} {assign body : Code} {Q : Exit → Act → World → Prop} {a : Act} {w : World}
    (hro : F.round = none) (h1 : 1 ≤ n) {gf : Nat} {lb : Array Value} (hg : a.eval g = .func (.func gf) #[] lb) (hFg : F.fn gf) (eg : ∀ args w, (callFunc gf args).run P w = .ok (.enter gf args) w)
    {M : Nat → Prop} {N : Nat} {X : Nat → Value → World → World → Prop} {w0 : World} (hseq : Runs F (n - 1) P gf lb M N X w0) (h0w : Agr (fun _ => True) w0 w) (hps : ps.size = 1)
    (hX : ∀ k v A B C, X k v A B → Agr (fun b => A.heap.size ≤ b) B C → X k v A C)
    (I : Nat → (Nat → Prop) → World → Prop) (Ix : Code → Nat → (Nat → Prop) → World → Prop) (S₀ : Nat → Prop) (hS : ∀ b, S₀ b → b < w.heap.size) (hM : ∀ b, M b → ¬ S₀ b ∧ b < w.heap.size)
    (hI : ∀ k S A B, I k S A → Agr (fun b => S b ∨ b < w.heap.size) A B → I k S B) (hIx : ∀ c k S A B, Ix c k S A → Agr (fun b => S b ∨ b < w.heap.size) A B → Ix c k S B)
    (hI0 : I 0 S₀ w) (a₁ : Value → Act)
    (hassign : ∀ (l : Nat) (v : Value) (W : World) (K : Act → World → Prop), K (a₁ v) W →
      assign.wpIn (F.inRound l) (n - 1 - 1) P (Exit.then K (fun _ _ _ => False)) { tmps := (ps.zip #[v]).foldl (fun t (p, v) => t.setIfInBounds p v) a.tmps, defers := [] } W)
    (hbody : ∀ (l k : Nat) (S : Nat → Prop) (v : Value) (A B : World), k < N → I k S A → X k v A B → w.heap.size ≤ l → l < A.heap.size → ¬ S l → Agr (fun b => b ≠ l) A B →
      body.wpIn (F.inRound l) (n - 1 - 1) P (Leave I Ix k S A B) (a₁ v) B)
    (hdone : ∀ (D : Nat) (S : Nat → Prop) (W : World), w.heap.size ≤ D → ¬ S D → I N S W → W.heap[D]? = some (.deferred (some [])) → Q .normal { a with defers := { target := .collected D, args := #[] } :: a.defers } W)
    (hstop : ∀ (D k : Nat) (c : Code) (S : Nat → Prop) (W : World), w.heap.size ≤ D → ¬ S D → k ≤ N → Ix c k S W → W.heap[D]? = some (.deferred (some [])) → c.wpIn F n P Q { a with defers := { target := .collected D, args := #[] } :: a.defers } W) :
    (Code.rangeFunc g ps assign body).wpIn F n P Q a w := by
  refine wpIn_rangeFunc fun fn hfn => ?_
  rw [hro]
  obtain ⟨rec, hrec⟩ : ∃ rec : LoopState → Option Code → Loop, rec = fun st pe => { state := st, pending := pe, fn, tmps := a.tmps, params := ps, assign, body, defers := w.heap.size } := ⟨_, rfl⟩
  obtain ⟨l, hl⟩ : ∃ l, w.heap.size + 1 = l := ⟨_, rfl⟩
  obtain ⟨V, hV⟩ : ∃ V, (w.alloc (.deferred (some []))).alloc (.loop (rec .ready none)) = V := ⟨_, rfl⟩
  have hVl : V.heap[l]? = some (.loop (rec .ready none)) := by rw [← hV, ← hl]; have := World.alloc_heap_new (w.alloc (.deferred (some []))) (.loop (rec .ready none)); rwa [World.size_alloc] at this
  have hVD : V.heap[w.heap.size]? = some (.deferred (some [])) := by rw [← hV]; exact (Below.heap_alloc _ _ _ (by simp)).trans (World.alloc_heap_new w _)
  have hVs : V.heap.size = w.heap.size + 2 := by rw [← hV]; simp
  have gV : Agr (fun _ => True) w V := by
    rw [← hV]; exact (Agr.grown (World.grownBy_alloc w _ none)).trans (Agr.grown (World.grownBy_alloc _ _ none)) (fun b _ _ => ⟨by simp, by simp⟩)
  refine ⟨l, [{ target := .collected w.heap.size, args := #[] }], V, { target := .fn (.func gf) lb, args := #[.func (.yield l) #[] #[]] }, V, gf, #[.func (.yield l) #[] #[]] ++ lb, V, ?_, ?_, ?_, ?_, fun _ => h1, ?_⟩
  · rw [← hV, hrec, ← hl]; exact run_enterLoop_outer _ _ _ _ _
  · simp only [resolve, hg]
    simp [go_sem]
  · intro f' hf'; simp [Target.leads] at hf'; subst hf'; exact hFg
  · simp [invoke, go_sem, eg]
  refine (hseq l
    (fun k S' W => ∃ S, (∀ b, S' b ↔ S b ∨ b = l) ∧ (∀ b, S b → b ≠ l ∧ b ≠ w.heap.size) ∧ I k S W ∧ W.heap[l]? = some (.loop (rec .ready none)) ∧ W.heap[w.heap.size]? = some (.deferred (some [])))
    (fun k S' W => ∃ c S, (∀ b, S' b ↔ S b ∨ b = l) ∧ (∀ b, S b → b ≠ l ∧ b ≠ w.heap.size) ∧ Ix c k S W ∧ W.heap[l]? = some (.loop (rec .done (some c))) ∧ W.heap[w.heap.size]? = some (.deferred (some [])))
    (fun b => S₀ b ∨ b = l) V (h0w.trans gV (fun _ _ _ => ⟨trivial, trivial⟩)) ?_ ?_ ?_ ?_ ?_ ?_).mono ?_
  · rintro b (hb | rfl)
    · have := hS b hb; omega
    · omega
  · rintro b hb (h | rfl)
    · exact (hM b hb).1 h
    · have := (hM _ hb).2; omega
  · rintro k S' A B ⟨S, hSS, hSn, hi, ha, hd⟩ hg
    exact ⟨S, hSS, hSn, hI k S A B hi (hg.weaken fun b _ h => h.elim (fun h => .inl ((hSS b).2 (.inl h))) (fun h => .inr (by omega))), hg.obj ha (.inr (by omega)), hg.obj hd (.inr (by omega))⟩
  · rintro k S' A B ⟨c, S, hSS, hSn, hi, ha, hd⟩ hg
    exact ⟨c, S, hSS, hSn, hIx c k S A B hi (hg.weaken fun b _ h => h.elim (fun h => .inl ((hSS b).2 (.inl h))) (fun h => .inr (by omega))), hg.obj ha (.inr (by omega)), hg.obj hd (.inr (by omega))⟩
  · rintro k S' v A B hk ⟨S, hSS, hSn, hi, ha, hd⟩ hg hx
    have hb := hg.obj ha trivial
    have hbd := hg.obj hd trivial
    have hlA : l < A.heap.size := (Array.getElem?_eq_some_iff.1 ha).1
    have hlB : l < B.heap.size := (Array.getElem?_eq_some_iff.1 hb).1
    have hnl : ¬ S l := fun h => (hSn l h).1 rfl
    have hy := run_yield (P := P) (args := #[v]) hb (by rw [hrec]; exact hps.symm)
    rw [hrec] at hy
    refine ⟨fn, _, assign, body, hy, roundIn_of_wpIn hfn (hassign l v B _ ⟨_, run_beginRound hb (by rw [hrec]), ?_⟩)⟩
    clear hy
    have gB := Agr.put B l (.loop { rec .ready none with state := .busy })
    have hB2 : (B.putObj l (.loop { rec .ready none with state := .busy })).heap[l]? = some (.loop { rec .ready none with state := .busy }) := put_same _ hb
    have hBD : (B.putObj l (.loop { rec .ready none with state := .busy })).heap[w.heap.size]? = some (.deferred (some [])) := gB.obj hbd (by omega)
    generalize B.putObj l (.loop { rec .ready none with state := .busy }) = C at gB hB2 hBD
    refine wpIn_mono (hbody l k S v A C hk hi (hX k v A B C hx (gB.weaken fun b _ h => by omega)) (by omega) hlA hnl (hg.trans gB fun b _ h => ⟨trivial, h⟩)) ?_
    -- the round's end: whatever the jump
    have fin : ∀ (jump : Option Code) (S1 : Nat → Prop) (W3 : World), Next S A C S1 W3 →
        ∃ W4, (Instr.endRound l jump).run P W3 = .ok (.bool jump.isNone) W4 ∧ Next S' A B (fun b => S1 b ∨ b = l) W4 ∧ (∀ b, S1 b → b ≠ l ∧ b ≠ w.heap.size) ∧ Agr (fun b => S1 b ∨ b < w.heap.size) W3 W4 ∧
          W4.heap[l]? = some (.loop (rec (if jump.isNone then .ready else .done) jump)) ∧ W4.heap[w.heap.size]? = some (.deferred (some [])) := by
      rintro jump S1 W3 ⟨hn1, hg1⟩
      have h3 := hg1.obj hB2 hnl
      have h3D := hg1.obj hBD (fun h => (hSn _ h).2 rfl)
      have he := run_endRound (P := P) jump h3
      have g4 := Agr.put W3 l (.loop { rec .ready none with state := if jump.isNone then .ready else .done, pending := jump })
      have hs1 : ∀ b, S1 b → b ≠ l ∧ b ≠ w.heap.size := fun b hb => (hn1 b hb).elim (hSn b) (fun h => by omega)
      refine ⟨_, by rw [he], ⟨?_, ?_⟩, hs1, g4.weaken fun b _ h => ?_, ?_, g4.obj h3D (by omega)⟩
      · rintro b (h | rfl)
        · exact (hn1 b h).elim (fun h => .inl ((hSS b).2 (.inl h))) (fun h => .inr h)
        · exact .inl ((hSS b).2 (.inr rfl))
      · exact (gB.trans hg1 (C := fun b => ¬ S' b) fun b _ h => ⟨fun e => h ((hSS b).2 (.inr e)), fun e => h ((hSS b).2 (.inl e))⟩).trans g4 fun b _ h => ⟨h, fun e => h ((hSS b).2 (.inr e))⟩
      · exact h.elim (fun h => (hs1 b h).1) (fun h => by omega)
      · rw [put_same _ h3, hrec]
    rintro e a3 W3 hp
    cases e with
    | normal =>
      obtain ⟨S1, hn1, hi1⟩ := hp
      obtain ⟨W4, hr, hn4, hs1, hg4, hl4, hd4⟩ := fin none S1 W3 hn1
      exact ⟨_, _, hr, _, hn4, .inl ⟨rfl, S1, fun _ => Iff.rfl, hs1, hI _ _ _ _ hi1 hg4, hl4, hd4⟩⟩
    | ret =>
      obtain ⟨S1, hn1, hi1⟩ := hp
      obtain ⟨W4, hr, hn4, hs1, hg4, hl4, hd4⟩ := fin (some .ret) S1 W3 hn1
      exact ⟨_, _, hr, _, hn4, .inr ⟨rfl, .ret, S1, fun _ => Iff.rfl, hs1, hIx _ _ _ _ _ hi1 hg4, hl4, hd4⟩⟩
    | exit id =>
      obtain ⟨S1, hn1, hi1⟩ := hp
      obtain ⟨W4, hr, hn4, hs1, hg4, hl4, hd4⟩ := fin (some (.exit id)) S1 W3 hn1
      exact ⟨_, _, hr, _, hn4, .inr ⟨rfl, .exit id, S1, fun _ => Iff.rfl, hs1, hIx _ _ _ _ _ hi1 hg4, hl4, hd4⟩⟩
    | goto t =>
      obtain ⟨S1, hn1, hi1⟩ := hp
      obtain ⟨W4, hr, hn4, hs1, hg4, hl4, hd4⟩ := fin (some (.goto t)) S1 W3 hn1
      exact ⟨_, _, hr, _, hn4, .inr ⟨rfl, .goto t, S1, fun _ => Iff.rfl, hs1, hIx _ _ _ _ _ hi1 hg4, hl4, hd4⟩⟩
    | panic ch => exact hp.elim
    | outgrown => exact hp.elim
  · exact ⟨S₀, fun _ => Iff.rfl, fun b hb => by have := hS b hb; omega, hI _ _ _ _ hI0 (gV.weaken fun _ _ _ => trivial), hVl, hVD⟩
  · rintro e W2 ⟨⟨v, rfl⟩, k, S', hk, (⟨rfl, S, hSS, hSn, hi, ha, hd⟩ | ⟨c, S, hSS, hSn, hi, ha, hd⟩)⟩
    · have he := run_endLoop (P := P) ha (by rw [hrec]; simp)
      have g4 := Agr.put W2 l (.loop { rec .ready none with state := .exhausted })
      refine ⟨none, _, by rw [he, hrec], hdone w.heap.size S _ (Nat.le_refl _) (fun h => (hSn _ h).2 rfl) (hI _ _ _ _ hi (g4.weaken fun b _ h => ?_)) (g4.obj hd (by omega))⟩
      exact h.elim (fun h => (hSn b h).1) (fun h => by omega)
    · have he := run_endLoop (P := P) ha (by rw [hrec]; simp)
      have g4 := Agr.put W2 l (.loop { rec .done (some c) with state := .exhausted })
      refine ⟨some c, _, by rw [he, hrec], hstop w.heap.size k c S _ (Nat.le_refl _) (fun h => (hSn _ h).2 rfl) hk (hIx _ _ _ _ _ hi (g4.weaken fun b _ h => ?_)) (g4.obj hd (by omega))⟩
      exact h.elim (fun h => (hSn b h).1) (fun h => by omega)
end Go.Proofs.Ytdlbffbiicbkmaa

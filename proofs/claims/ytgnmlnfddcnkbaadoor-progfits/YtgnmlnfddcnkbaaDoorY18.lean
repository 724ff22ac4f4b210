/- Package sim: IsEmpty. Package sim: PlaceOf. A loop over a closure that keeps memory of its own from round to round: the body turns its own frame alone, the closure what is not of it. -/
import Derived.Test.YtgnmlnfddcnkbaaDoorY15
import Derived.RangeFuncNested
namespace Go.Proofs.YtgnmlnfddcnkbaaDoor
set_option linter.unusedSimpArgs false
set_option linter.unusedVariables false
set_option maxRecDepth 100000
open Go.RowKit
/-- Two sets of steps are compared. -/
theorem eqSt (a0 a1 a2 a3 b0 b1 b2 b3 : Int) (w : World) : (Op.equalIn 10000 99 (.agg #[.int .u64 a0, .int .u64 a1, .int .u64 a2, .int .u64 a3]) (.agg #[.int .u64 b0, .int .u64 b1, .int .u64 b2, .int .u64 b3])).run Tryd.prog w = .ok (a0 == b0 && (a1 == b1 && (a2 == b2 && a3 == b3))) w := by
  have hs : Tryd.prog.underlying 99 = some (.struct (Tryd.prog.fieldsOf 99)) := by kernel_rfl
  have hp : Tryd.prog.stoodInHeld 99 = false := by kernel_rfl
  rw [show (10000 : Nat) = 9999 + 1 from rfl, run_equalIn_struct w 9999 _ _ _ hs hp]
  have hf : (Tryd.prog.fieldsOf 99).toList.map (fun f => (f.type, f.offset, f.name == "_")) = [(29, 0, false)] := by kernel_rfl
  generalize (Tryd.prog.fieldsOf 99).toList = fs at hf
  obtain ⟨f0, rfl⟩ : ∃ f0, fs = [f0] := List.length_eq_one_iff.1 (by have := congrArg List.length hf; simpa using this)
  · simp only [List.map_cons, List.map_nil, List.cons.injEq, Prod.mk.injEq, and_true] at hf
    obtain ⟨t0, o0, n0⟩ := hf
    have n0' : f0.name ≠ "_" := by simpa using n0
    have hi : ∀ (a b : Int) (w : World), (Op.equalIn 9998 28 (.int .u64 a) (.int .u64 b)).run Tryd.prog w = .ok (a == b) w := fun a b w => run_equalIn_int w 9997 28 .u64 .u64 a b Tryd.underlying28
    have p0 : ∀ (a b c d : Int) (w : World), (part 28 #[.int .u64 a, .int .u64 b, .int .u64 c, .int .u64 d] 0).run Tryd.prog w = .ok (.int .u64 a) w := fun _ _ _ _ _ => by kernel_rfl
    have p1 : ∀ (a b c d : Int) (w : World), (part 28 #[.int .u64 a, .int .u64 b, .int .u64 c, .int .u64 d] 1).run Tryd.prog w = .ok (.int .u64 b) w := fun _ _ _ _ _ => by kernel_rfl
    have p2 : ∀ (a b c d : Int) (w : World), (part 28 #[.int .u64 a, .int .u64 b, .int .u64 c, .int .u64 d] 2).run Tryd.prog w = .ok (.int .u64 c) w := fun _ _ _ _ _ => by kernel_rfl
    have p3 : ∀ (a b c d : Int) (w : World), (part 28 #[.int .u64 a, .int .u64 b, .int .u64 c, .int .u64 d] 3).run Tryd.prog w = .ok (.int .u64 d) w := fun _ _ _ _ _ => by kernel_rfl
    have q0 : ∀ (a b c d : Int) (w : World), (part 29 #[.int .u64 a, .int .u64 b, .int .u64 c, .int .u64 d] 0).run Tryd.prog w = .ok (.agg #[.int .u64 a, .int .u64 b, .int .u64 c, .int .u64 d]) w := fun _ _ _ _ _ => by kernel_rfl
    have hc : ∀ (w : World), (Op.equalIn 9999 29 (.agg #[.int .u64 a0, .int .u64 a1, .int .u64 a2, .int .u64 a3]) (.agg #[.int .u64 b0, .int .u64 b1, .int .u64 b2, .int .u64 b3])).run Tryd.prog w = .ok (a0 == b0 && (a1 == b1 && (a2 == b2 && a3 == b3))) w := fun w => by
      rw [show (9999 : Nat) = 9998 + 1 from rfl, Op.equalIn]
      simp only [Sem.run_bind, run_underlying Tryd.underlying29, Result.andThen_ok, Tryd.sizeOf28]
      rw [Std.Legacy.Range.forIn_eq_forIn_range']
      rw [show List.range' _ _ _ = [0, 1, 2, 3] from rfl]
      simp only [List.forIn_cons, List.forIn_nil, Sem.run_bind, Nat.mul_one, p0, Result.andThen_ok, hi, Sem.run_ite]
      cases h1 : a0 == b0 <;> cases h2 : a1 == b1 <;> cases h3 : a2 == b2 <;> cases h4 : a3 == b3 <;> simp [p1, p2, p3, hi, h2, h3, h4]
    simp only [Op.eqFields, t0, o0, ne_eq, n0', not_false_eq_true, if_true, Sem.run_bind, q0, Result.andThen_ok, hc, Sem.run_ite, Sem.run_pure]
    cases h1 : (a0 == b0 && (a1 == b1 && (a2 == b2 && a3 == b3))) <;> simp
theorem empty_iff {ss : List St} (hl : ss.length ≤ 200) {p : Nat → Bool} (hp : Sub ss p) : (wd p 0 == 0 && (wd p 1 == 0 && (wd p 2 == 0 && wd p 3 == 0))) = true ↔ p = noP := by
  constructor
  · intro h
    simp only [Bool.and_eq_true, beq_iff_eq] at h
    obtain ⟨h0, h1, h2, h3⟩ := h
    funext j
    by_cases hj : j < 256
    · have key : ∀ i, i < 4 → wd p i = 0 := fun i hi => by
        rcases (by omega : i = 0 ∨ i = 1 ∨ i = 2 ∨ i = 3) with rfl | rfl | rfl | rfl <;> assumption
      have := wd_bit p (j / 64) (j % 64) (by omega)
      rw [key (j / 64) (by omega), show 64 * (j / 64) + j % 64 = j by omega] at this
      rw [← this]
      simp [noP]
    · cases hpj : p j with
      | false => rfl
      | true =>
        have := hp j hpj
        omega
  · rintro rfl
    rw [wd_no, wd_no, wd_no, wd_no]
    rfl
set_option maxHeartbeats 400000 in
theorem sempty_any {ss : List St} (hl : ss.length ≤ 200) (p : Nat → Bool) (hp : Sub ss p) (w : World) :
    Calls Tryd.prog 43 #[stV p] w fun e w' => ∃ y, e = .returned (.bool y) ∧ (y = true ↔ p = noP) ∧ Below w.heap.size w w' := by
  have hy := hid (empty_iff hl hp)
  have hq := fun w => eqSt (wd p 0) (wd p 1) (wd p 2) (wd p 3) 0 0 0 0 w
  generalize (wd p 0 == 0 && (wd p 1 == 0 && (wd p 2 == 0 && wd p 3 == 0))) = y at hq hy
  unfold stV
  go_enter Tryd.func43, Tryd.ntmps43
  go_wp2
  go_ret
  exact ⟨y, rfl, hy.out, (Below.refl _ _).alloc (Nat.le_refl _) _⟩
end Go.Proofs.YtgnmlnfddcnkbaaDoor
namespace Go.Proofs.YtgnmlnfddcnkbaaDoor
set_option linter.unusedSimpArgs false
set_option linter.unusedVariables false
set_option maxRecDepth 100000
open Go.RowKit
set_option maxHeartbeats 400000 in
theorem placeOf_any (s : ByteArray) (i : Nat) (w : World) :
    Calls Tryd.prog 42 #[.string s, .int .i64 (i : Int)] w fun e w' => e = .returned (pcV (decide (i = 0)) (decide (i = s.data.toList.length))) ∧ Below w.heap.size w w' := by
  have h0 : ((i : Int) == 0) = decide (i = 0) := by
    by_cases h : i = 0
    · subst h; rfl
    · rw [decide_eq_false h, beq_eq_false_iff_ne]; omega
  have h1 : ((i : Int) == (s.size : Int)) = decide (i = s.data.toList.length) := by
    have : s.data.toList.length = s.size := by simp
    rw [this]
    by_cases h : i = s.size
    · subst h; simp
    · rw [decide_eq_false h, beq_eq_false_iff_ne]; omega
  generalize decide (i = 0) = fi at h0 ⊢
  generalize decide (i = s.data.toList.length) = la at h1 ⊢
  go_enter Tryd.func42, Tryd.ntmps42
  go_wp2
  have hh : (w.alloc (.cells #[.bool fi, .bool la] 96)).heap[w.heap.size]? = some (.cells #[.bool fi, .bool la] 96 (0, 0)) := heap_alloc_new w _
  have c0 := Lib.cell_of_heap hh 0
  have c1 := Lib.cell_of_heap hh 1
  refine bodyPost_ret (v := pcV fi la) (by simp [results, Tryd.results42, go_sem, c0, c1]) rfl ⟨rfl, ?_⟩
  exact (Below.refl _ _).alloc (Nat.le_refl _) _
end Go.Proofs.YtgnmlnfddcnkbaaDoor
namespace Go.Proofs.YtgnmlnfddcnkbaaDoor
set_option linter.unusedSimpArgs false
set_option linter.unusedVariables false
open Go.RowKit

variable {F : Fence} {n : Nat} {P : Program}

/-- J lasts while new memory is made, and while a block from B on is written that is not of the frame. -/
def AbN {β : Type} (B : Nat) (Fr : World → Nat → Prop) (J : β → World → Prop) : Prop :=
  ∀ s W W' row, J s W → W.grownBy W' row → (∀ r, row = some r → B ≤ r ∧ (∃ o : Obj, W.heap[r]? = some o ∧ o.isCells = true) ∧ ¬ Fr W r) → J s W'
/-- The same of what the loop's body keeps between two rounds; the loop's own objects besides. -/
def OwnN {β : Type} (B : Nat) (Fr : World → Nat → Prop) (I : β → World → Prop) : Prop :=
  ∀ s W W' row, I s W → W.grownBy W' row → (∀ r, row = some r → B ≤ r ∧ ∃ o : Obj, W.heap[r]? = some o ∧ (o.isCells = false ∨ ¬ Fr W r)) → I s W'
/-- What the closure does: one by one it hands on xs. -/
def SeqN {α : Type} (F : Fence) (n : Nat) (P : Program) (g : Nat) (lb : Array Value) (enc : α → Value) (Kp : World → World → Prop) (Fr : World → Nat → Prop) (xs : List α) (w₀ : World) : Prop :=
  ∀ (l : Nat) (J : List α → World → Prop) (W : World), Below w₀.heap.size w₀ W → AbN W.heap.size Fr J →
    (∀ pre x rest W1, xs = pre ++ x :: rest → J pre W1 → YieldAt F (n - 1) P l #[enc x] W1 fun e W' => e = .returned (.bool true) ∧ J (pre ++ [x]) W' ∧ Kp W1 W') →
    J [] W → CallsIn F n P g (#[.func (.yield l) #[] #[]] ++ lb) W fun e W' => (∃ v, e = .returned v) ∧ J xs W'
/-- The body goes on. -/
def nPost {α : Type} (B : Nat) (Kp : World → World → Prop) (I : List α → World → Prop) (xs : List α) (W : World) : Exit → Act → World → Prop
  | .normal, _, W' => KeepsFrom B W W' ∧ Kp W W' ∧ I xs W'
  | _, _, _ => False
theorem wpIn_seqN {α : Type} {g : Operand} {ps : Array Tmp} {assign body : Code} {Q : Exit → Act → World → Prop} {a : Act} {w : World}
    (hro : F.round = none) (h1 : 1 ≤ n) (gf : Nat) (lb : Array Value) (hg : a.eval g = .func (.func gf) #[] lb) (hFg : F.fn gf) (eg : ∀ args w, (callFunc gf args).run P w = .ok (.enter gf args) w)
    (enc : α → Value) (Kp : World → World → Prop) (hKt : ∀ {A B C : World}, Kp A B → Kp B C → Kp A C)
    (hKb : ∀ (W : World) (l : Nat) (o o' : Obj), w.heap.size ≤ l → W.heap[l]? = some o → o.isCells = false → o.isWalk = false → Kp W (W.putObj l o'))
    (Fr : World → Nat → Prop) (xs : List α) (w0 : World) (hseq : SeqN F (n - 1) P gf lb enc Kp Fr xs w0) (hb0 : Below w0.heap.size w0 w) (hps : ps.size = 1)
    (I : List α → World → Prop) (hI : OwnN w.heap.size Fr I) (h0 : I [] w) (a₁ : α → Act)
    (hassign : ∀ (l : Nat) (x : α) (W : World) (K : Act → World → Prop), K (a₁ x) W →
      assign.wpIn (F.inRound l) (n - 1 - 1) P (Exit.then K (fun _ _ _ => False)) { tmps := (ps.zip #[enc x]).foldl (fun t (p, v) => t.setIfInBounds p v) a.tmps, defers := [] } W)
    (hbody : ∀ (l : Nat) (pre : List α) (x : α) (rest : List α) (W : World), xs = pre ++ x :: rest → I pre W → body.wpIn (F.inRound l) (n - 1 - 1) P (nPost w.heap.size Kp I (pre ++ [x]) W) (a₁ x) W)
    (hdone : ∀ (D : Nat) (W : World), w.heap.size ≤ D → I xs W → W.heap[D]? = some (.deferred (some [])) → Q .normal { a with defers := { target := .collected D, args := #[] } :: a.defers } W) :
    (Code.rangeFunc g ps assign body).wpIn F n P Q a w := by
  refine wpIn_rangeFunc fun fn hfn => ?_
  rw [hro]
  let D := w.heap.size
  let L := w.heap.size + 1
  let rec0 : LoopState → Option Code → Loop := fun st pe => { state := st, pending := pe, fn := fn, tmps := a.tmps, params := ps, assign := assign, body := body, defers := D }
  let V := (w.alloc (.deferred (some []))).alloc (.loop (rec0 .ready none))
  have hVL : V.heap[L]? = some (.loop (rec0 .ready none)) := by
    have := World.alloc_heap_new (w.alloc (.deferred (some []))) (.loop (rec0 .ready none))
    rwa [World.size_alloc] at this
  have hVD : V.heap[D]? = some (.deferred (some [])) := (Below.heap_alloc _ _ _ (by simp [D])).trans (World.alloc_heap_new w _)
  have hIa : ∀ (W : World) (o : Obj), I [] W → I [] (W.alloc o) := fun W o h => hI _ _ _ none h (World.grownBy_alloc _ _ _) (fun r e => by cases e)
  have hVI : I [] V := hIa _ _ (hIa _ _ h0)
  have hVb : Below w0.heap.size w0 V := hb0.trans ((((Below.refl _ w).alloc (Nat.le_refl _) _).alloc (by simp) _).mono hb0.size)
  have hput : ∀ (s : List α) (W : World) (l : Nat) (o o' : Obj), I s W → w.heap.size ≤ l → W.heap[l]? = some o → o.isCells = false → I s (W.putObj l o') := fun s W l o o' h hl ho hc =>
    hI _ _ _ (some l) h (grownBy_putObj' W l o') (fun r e => by cases e; exact ⟨hl, o, ho, Or.inl hc⟩)
  refine ⟨L, [{ target := .collected D, args := #[] }], V, { target := .fn (.func gf) lb, args := #[.func (.yield L) #[] #[]] }, V, gf, #[.func (.yield L) #[] #[]] ++ lb, V, run_enterLoop_outer _ _ _ _ _, ?_, ?_, ?_, fun _ => h1, ?_⟩
  · simp only [resolve, hg]
    simp [go_sem]
  · intro f' hf'
    simp [Target.leads] at hf'
    subst hf'
    exact hFg
  · simp [invoke, go_sem, eg]
  · have hkeep : ∀ {A B : World} {row : Option Nat} {k : Nat} {o : Obj}, A.grownBy B row → (∀ r, row = some r → V.heap.size ≤ r ∧ (∃ o : Obj, A.heap[r]? = some o ∧ o.isCells = true) ∧ ¬ Fr A r) → A.heap[k]? = some o → o.isCells = false → B.heap[k]? = some o := fun {A B row k o} hg hr hk ho => by
      refine (hg.block k (Array.getElem?_eq_some_iff.1 hk).1 (fun e => ?_)).trans hk
      obtain ⟨_, ⟨o', h', hc⟩, _⟩ := hr k e.symm
      rw [hk] at h'
      obtain rfl := Option.some.inj h'
      rw [ho] at hc
      cases hc
    have hV2 : w.heap.size + 2 = V.heap.size := by simp [V]
    have key := hseq L (fun pre W => I pre W ∧ W.heap[L]? = some (.loop (rec0 .ready none)) ∧ W.heap[D]? = some (.deferred (some []))) V hVb
      (fun s A B row hs hgr hr => ⟨hI s A B row hs.1 hgr (fun r e => by
        obtain ⟨h2, ⟨o, ho, _⟩, h3⟩ := hr r e
        exact ⟨by omega, o, ho, Or.inr h3⟩), hkeep hgr hr hs.2.1 rfl, hkeep hgr hr hs.2.2 rfl⟩)
      (fun pre x rest W hx h => by
        obtain ⟨hi, hl, hd⟩ := h
        have hlt : L < W.heap.size := (Array.getElem?_eq_some_iff.1 hl).1
        have hy := run_yield (P := P) (args := #[enc x]) hl (by simp [rec0, hps])
        let Wb := W.putObj L (.loop { rec0 .ready none with state := .busy })
        have hbL : Wb.heap[L]? = some (.loop { rec0 .ready none with state := .busy }) := World.putObj_heap_same hlt
        have hbD : Wb.heap[D]? = some (.deferred (some [])) := (World.putObj_heap_other (by simp [D, L])).trans hd
        have hk0 : Kp W Wb := hKb _ _ _ _ (by simp [L]) hl rfl rfl
        refine ⟨fn, _, assign, body, hy, roundIn_of_wpIn hfn (hassign L x W _ ⟨Wb, run_beginRound hl rfl, ?_⟩)⟩
        refine wpIn_mono (hbody L pre x rest Wb hx (hput _ _ _ _ _ hi (by simp [L]) hl rfl)) ?_
        intro e a3 W3 hp
        cases e with
        | normal =>
          obtain ⟨hk3, hkp3, hi3⟩ := hp
          have hl3 := hk3.same L _ (by simp [L]) hbL rfl
          have hd3 := hk3.same D _ (Nat.le_refl _) hbD rfl
          have hk4 : Kp W3 (W3.putObj L (.loop (rec0 .ready none))) := hKb _ _ _ _ (by simp [L]) hl3 rfl rfl
          exact ⟨_, _, run_endRound none hl3, rfl, ⟨hput _ _ _ _ _ hi3 (by simp [L]) hl3 rfl, World.putObj_heap_same (Array.getElem?_eq_some_iff.1 hl3).1, (World.putObj_heap_other (by simp [D, L])).trans hd3⟩, hKt (hKt hk0 hkp3) hk4⟩
        | _ => exact hp.elim)
      ⟨hVI, hVL, hVD⟩
    refine key.mono ?_
    rintro e W2 ⟨⟨v, rfl⟩, hi, hl, hd⟩
    exact ⟨none, _, run_endLoop hl (by simp [rec0]), hdone D _ (Nat.le_refl _) (hput _ _ _ _ _ hi (by simp [L]) hl rfl) ((World.putObj_heap_other (by simp [D, L])).trans hd)⟩
end Go.Proofs.YtgnmlnfddcnkbaaDoor

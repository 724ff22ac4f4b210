/- A loop over a method's value, whose receiver stands ahead of yield; the body may leave the loop. Package sim: a set of steps hands on its steps, rising, till it is told to stop. Package sim: IsDone. A step as a value; two steps are the same. What a loop's body, or a closure, leaves as it lay: all but one box, the row that the box names, and some blocks. -/
import Derived.Test.YtphcncgdodhlbaaDoorY06
import Derived.Test.YtphcncgdodhlbaaDoorY13
import Derived.Test.YtphcncgdodhlbaaDoorY03
import Derived.Test.YtphcncgdodhlbaaDoorY11
import Derived.Test.YtphcncgdodhlbaaDoorY09
import Derived.Test.YtphcncgdodhlbaaDoorY07
import Derived.RangeFuncBox
import Derived.RangeFuncWrites
import Derived.RangeFuncFrom
namespace Go.Proofs.YtphcncgdodhlbaaDoor
set_option linter.unusedSimpArgs false
set_option linter.unusedVariables false
open Go.RowKit

variable {F : Fence} {n : Nat} {P : Program}

/-- What an iterator does that is a method's value: one by one it hands on xs, till it is told to stop; Tb: what it needs of each world. -/
def RunsTo {α : Type} (F : Fence) (n : Nat) (P : Program) (g : Nat) (fb : Array Value) (enc : α → Value) (Tb : World → Prop) (xs : List α) : Prop :=
  ∀ (l : Nat) (J Jx : List α → World → Prop) (W : World), AbidesFrom W.heap.size J → AbidesFrom W.heap.size Jx → (∀ pre W1, J pre W1 → Tb W1) →
    (∀ pre x rest W1, xs = pre ++ x :: rest → J pre W1 → YieldAt F (n - 1) P l #[enc x] W1 fun e W' => (e = .returned (.bool true) ∧ J (pre ++ [x]) W') ∨ (e = .returned (.bool false) ∧ Jx (pre ++ [x]) W')) →
    J [] W → CallsIn F n P g (fb ++ #[.func (.yield l) #[] #[]]) W fun e W' => (∃ v, e = .returned v) ∧ (J xs W' ∨ ∃ pre, Jx pre W')
/-- The body goes on, or returns. -/
def toPost {α : Type} (B : Nat) (I Ix : List α → World → Prop) (xs : List α) (W : World) : Exit → Act → World → Prop
  | .normal, _, W' => KeepsFrom B W W' ∧ I xs W'
  | .ret, _, W' => KeepsFrom B W W' ∧ Ix xs W'
  | _, _, _ => False
theorem wpIn_runsTo {α : Type} {g : Operand} {ps : Array Tmp} {assign body : Code} {Q : Exit → Act → World → Prop} {a : Act} {w : World}
    (hro : F.round = none) (h1 : 1 ≤ n) (gf : Nat) (fb : Array Value) (hg : a.eval g = .func (.func gf) fb #[]) (hFg : F.fn gf) (eg : ∀ args w, (callFunc gf args).run P w = .ok (.enter gf args) w)
    (enc : α → Value) (Tb : World → Prop) (xs : List α) (hseq : RunsTo F (n - 1) P gf fb enc Tb xs) (hps : ps.size = 1)
    (I Ix : List α → World → Prop) (hI : OwnFrom w.heap.size I) (hIx : OwnFrom w.heap.size Ix) (hIT : ∀ pre W, I pre W → Tb W) (h0 : I [] w) (a₁ : α → Act)
    (hassign : ∀ (l : Nat) (x : α) (W : World) (K : Act → World → Prop), K (a₁ x) W →
      assign.wpIn (F.inRound l) (n - 1 - 1) P (Exit.then K (fun _ _ _ => False)) { tmps := (ps.zip #[enc x]).foldl (fun t (p, v) => t.setIfInBounds p v) a.tmps, defers := [] } W)
    (hbody : ∀ (l : Nat) (pre : List α) (x : α) (rest : List α) (W : World), xs = pre ++ x :: rest → I pre W → body.wpIn (F.inRound l) (n - 1 - 1) P (toPost w.heap.size I Ix (pre ++ [x]) W) (a₁ x) W)
    (hdone : ∀ (D : Nat) (W : World), w.heap.size ≤ D → I xs W → W.heap[D]? = some (.deferred (some [])) → Q .normal { a with defers := { target := .collected D, args := #[] } :: a.defers } W)
    (hstop : ∀ (D : Nat) (pre : List α) (W : World), w.heap.size ≤ D → Ix pre W → W.heap[D]? = some (.deferred (some [])) → Code.ret.wpIn F n P Q { a with defers := { target := .collected D, args := #[] } :: a.defers } W) :
    (Code.rangeFunc g ps assign body).wpIn F n P Q a w := by
  refine wpIn_rangeFunc fun fn hfn => ?_
  rw [hro]
  let D := w.heap.size
  let L := w.heap.size + 1
  let rec0 : LoopState → Option Code → Loop := fun st pe => { state := st, pending := pe, fn := fn, tmps := a.tmps, params := ps, assign := assign, body := body, defers := D }
  let V := (w.alloc (.deferred (some []))).alloc (.loop (rec0 .ready none))
  have hVL : V.heap[L]? = some (.loop (rec0 .ready none)) := by
    have := World.alloc_heap_new (w.alloc (.deferred (some []))) (.loop (rec0 .ready none))
    rwa [World.size_alloc] at this
  have hVD : V.heap[D]? = some (.deferred (some [])) := (Below.heap_alloc _ _ _ (by simp [D])).trans (World.alloc_heap_new w _)
  have hVI : I [] V := hI.alloc _ (hI.alloc _ h0)
  have hVs : V.heap.size = w.heap.size + 2 := by simp [V]
  refine ⟨L, [{ target := .collected D, args := #[] }], V, { target := .fn (.func gf) #[], args := fb ++ #[.func (.yield L) #[] #[]] }, V, gf, fb ++ #[.func (.yield L) #[] #[]], V, run_enterLoop_outer _ _ _ _ _, ?_, ?_, ?_, fun _ => h1, ?_⟩
  · simp only [resolve, hg]
    simp [go_sem, Deferred.ofValue]
  · intro f' hf'
    simp [Target.leads] at hf'
    subst hf'
    exact hFg
  · simp [invoke, go_sem, eg]
  · have hr' : ∀ {A : World} {row : Option Nat}, (∀ r, row = some r → V.heap.size ≤ r ∧ ∃ o : Obj, A.heap[r]? = some o ∧ o.isWalk = true) → ∀ r, row = some r → w.heap.size ≤ r ∧ ∃ o : Obj, A.heap[r]? = some o ∧ o.isCells = false := fun hr r e => by
      obtain ⟨h2, o, ho, hw⟩ := hr r e
      exact ⟨by omega, o, ho, Obj.not_cells_of_walk hw⟩
    have key := hseq L (fun pre W => I pre W ∧ W.heap[L]? = some (.loop (rec0 .ready none)) ∧ W.heap[D]? = some (.deferred (some [])))
      (fun pre W => Ix pre W ∧ W.heap[L]? = some (.loop (rec0 .done (some .ret))) ∧ W.heap[D]? = some (.deferred (some []))) V
      (fun s A B row hs hgr hr => ⟨hI s A B row hs.1 hgr (hr' hr), (grownBy_keeps hgr (fun r e => (hr r e).2) hs.2.1 rfl).trans hs.2.1, (grownBy_keeps hgr (fun r e => (hr r e).2) hs.2.2 rfl).trans hs.2.2⟩)
      (fun s A B row hs hgr hr => ⟨hIx s A B row hs.1 hgr (hr' hr), (grownBy_keeps hgr (fun r e => (hr r e).2) hs.2.1 rfl).trans hs.2.1, (grownBy_keeps hgr (fun r e => (hr r e).2) hs.2.2 rfl).trans hs.2.2⟩)
      (fun pre W h => hIT pre W h.1)
      (fun pre x rest W hx h => by
        obtain ⟨hi, hl, hd⟩ := h
        have hlt : L < W.heap.size := (Array.getElem?_eq_some_iff.1 hl).1
        have hy := run_yield (P := P) (args := #[enc x]) hl (by simp [rec0, hps])
        let Wb := W.putObj L (.loop { rec0 .ready none with state := .busy })
        have hbL : Wb.heap[L]? = some (.loop { rec0 .ready none with state := .busy }) := World.putObj_heap_same hlt
        have hbD : Wb.heap[D]? = some (.deferred (some [])) := (World.putObj_heap_other (by simp [D, L])).trans hd
        refine ⟨fn, _, assign, body, hy, roundIn_of_wpIn hfn (hassign L x W _ ⟨Wb, run_beginRound hl rfl, ?_⟩)⟩
        refine wpIn_mono (hbody L pre x rest Wb hx (hI.putObj _ hi (by simp [L]) hl rfl)) ?_
        intro e a3 W3 hp
        cases e with
        | normal =>
          obtain ⟨hk3, hi3⟩ := hp
          have hl3 := hk3.same L _ (by simp [L]) hbL rfl
          have hd3 := hk3.same D _ (Nat.le_refl _) hbD rfl
          exact ⟨_, _, run_endRound none hl3, Or.inl ⟨rfl, hI.putObj _ hi3 (by simp [L]) hl3 rfl, World.putObj_heap_same (Array.getElem?_eq_some_iff.1 hl3).1, (World.putObj_heap_other (by simp [D, L])).trans hd3⟩⟩
        | ret =>
          obtain ⟨hk3, hi3⟩ := hp
          have hl3 := hk3.same L _ (by simp [L]) hbL rfl
          have hd3 := hk3.same D _ (Nat.le_refl _) hbD rfl
          exact ⟨_, _, run_endRound (some .ret) hl3, Or.inr ⟨rfl, hIx.putObj _ hi3 (by simp [L]) hl3 rfl, World.putObj_heap_same (Array.getElem?_eq_some_iff.1 hl3).1, (World.putObj_heap_other (by simp [D, L])).trans hd3⟩⟩
        | _ => exact hp.elim)
      ⟨hVI, hVL, hVD⟩
    refine key.mono ?_
    rintro e W2 ⟨⟨v, rfl⟩, ⟨hi, hl, hd⟩ | ⟨pre, hi, hl, hd⟩⟩
    · exact ⟨none, _, run_endLoop hl (by simp [rec0]), hdone D _ (Nat.le_refl _) (hI.putObj _ hi (by simp [L]) hl rfl) ((World.putObj_heap_other (by simp [D, L])).trans hd)⟩
    · exact ⟨some .ret, _, run_endLoop hl (by simp [rec0]), hstop D pre _ (Nat.le_refl _) (hIx.putObj _ hi (by simp [L]) hl rfl) ((World.putObj_heap_other (by simp [D, L])).trans hd)⟩
end Go.Proofs.YtphcncgdodhlbaaDoor
namespace Go.Proofs.YtphcncgdodhlbaaDoor
set_option linter.unusedSimpArgs false
set_option linter.unusedVariables false
set_option maxRecDepth 100000
open Go.RowKit Go.Shelf
attribute [local go_sem] Oper.semAt_some

theorem el_part (p : Nat → Bool) (x N : Nat) (hx : x < N) (hp : p x = true) : ∃ rest, el p N = el p x ++ x :: rest := by
  obtain ⟨d, rfl⟩ : ∃ d, N = x + 1 + d := ⟨N - x - 1, by omega⟩
  refine ⟨(List.range d |>.map fun j => x + 1 + j).filter p, ?_⟩
  unfold el
  rw [List.range_add, List.range_succ, List.filter_append, List.filter_append]
  simp [hp]
theorem idx4_0 (a0 a1 a2 a3 : Int) (w : World) : (Instr.index 41 (.agg #[.int .u64 a0, .int .u64 a1, .int .u64 a2, .int .u64 a3]) (.int .i64 0)).run Tryd.prog w = .ok (.int .u64 a0) w := by kernel_rfl
theorem idx4_1 (a0 a1 a2 a3 : Int) (w : World) : (Instr.index 41 (.agg #[.int .u64 a0, .int .u64 a1, .int .u64 a2, .int .u64 a3]) (.int .i64 1)).run Tryd.prog w = .ok (.int .u64 a1) w := by kernel_rfl
theorem idx4_2 (a0 a1 a2 a3 : Int) (w : World) : (Instr.index 41 (.agg #[.int .u64 a0, .int .u64 a1, .int .u64 a2, .int .u64 a3]) (.int .i64 2)).run Tryd.prog w = .ok (.int .u64 a2) w := by kernel_rfl
theorem idx4_3 (a0 a1 a2 a3 : Int) (w : World) : (Instr.index 41 (.agg #[.int .u64 a0, .int .u64 a1, .int .u64 a2, .int .u64 a3]) (.int .i64 3)).run Tryd.prog w = .ok (.int .u64 a3) w := by kernel_rfl
/-- A word of four. -/
theorem idx4 (q : Nat → Bool) (k : Nat) (hk : k < 4) (w : World) : (Instr.index 41 (.agg #[.int .u64 (wd q 0), .int .u64 (wd q 1), .int .u64 (wd q 2), .int .u64 (wd q 3)]) (.int .i64 (k : Int))).run Tryd.prog w = .ok (.int .u64 (wd q k)) w := by
  rcases (by omega : k = 0 ∨ k = 1 ∨ k = 2 ∨ k = 3) with rfl | rfl | rfl | rfl
  · exact idx4_0 _ _ _ _ w
  · exact idx4_1 _ _ _ _ w
  · exact idx4_2 _ _ _ _ w
  · exact idx4_3 _ _ _ _ w
set_option maxHeartbeats 4000000 in
theorem srises (n : Nat) (hn : 1 ≤ n) (p : Nat → Bool) : RunsTo Fence.wide n Tryd.prog 89 #[stV p] (fun x : Nat => Value.int .i64 (x : Int)) Tab (el p 256) := by
  intro l J Jx W hJ hJx hJT hY h0
  have hI4 : Hid _ := hid (idx4 p)
  unfold stV
  refine callsIn_of_wp Tryd.func89 rfl trivial ?_ rfl
  simp only [Tryd.ntmps89, List.size_toArray, List.length_cons, List.length_nil, Nat.reduceAdd, Nat.reduceSub, Array.replicate_succ, Array.replicate_zero, List.push_toArray, List.append_toArray, List.nil_append, List.cons_append]
  gi_wp2
  gi_loopw [8] (fun v wr => ∃ k : Nat, k ≤ 4 ∧ v = .int .i64 (k : Int) ∧ J (el p (64 * k)) wr) (fun v _ => 4 - (intOf v).toNat)
  case atStart =>
    exact ⟨0, by omega, rfl, hJ _ _ _ none h0 (World.grownBy_alloc _ _ _) (fun r e => by cases e)⟩
  case round =>
    obtain ⟨k, hk, rfl, hj⟩ := hrel
    by_cases hlt : k < 4
    · have i0 : (0 : Int) ≤ (k : Int) := by omega
      have i1 : (k : Int) < 4 := by omega
      have hqk := fun w => hI4.out k hlt w
      have hwd : wd p k = ((cutw (fun j => p (64 * k + j)) 0 : Nat) : Int) := by rw [cutw_zero]; rfl
      gi_wp2
      gi_loopw [5] (fun v wr => ∃ m : Nat, m ≤ 64 ∧ v = .int .u64 ((cutw (fun j => p (64 * k + j)) m : Nat) : Int) ∧ J (el p (64 * k + m)) wr) (fun v _ => (intOf v).toNat)
      case atStart =>
        exact ⟨0, by omega, rfl, hj⟩
      case round =>
        obtain ⟨m, hm, rfl, hj2⟩ := hrel
        by_cases hz : cutw (fun j => p (64 * k + j)) m = 0
        · have hz0 : ((cutw (fun j => p (64 * k + j)) m : Nat) : Int) = 0 := by omega
          have hj3 : J (el p (64 * (k + 1))) wr := by
            rw [el_skip' p (64 * k + m) (64 * (k + 1)) (by omega) (fun j h1 h2 => by
              have := cutw_none hz (j - 64 * k) (by omega) (by omega)
              rwa [show 64 * k + (j - 64 * k) = j by omega] at this)]
            exact hj2
          gi_wp2
          exact ⟨⟨k + 1, by omega, by go_num, hj3⟩, by simp [intOf]; omega⟩
        · obtain ⟨k0, hk0, h1, h2, h3, h4, h5⟩ := cutw_step hz
          have hlt64 : cutw (fun j => p (64 * k + j)) m < 18446744073709551616 := mkw64 _
          obtain ⟨rest, hrest⟩ := el_part p (64 * k + k0) 256 (by omega) h3
          have hj3 : J (el p (64 * k + k0)) wr := by
            rw [el_skip' p (64 * k + m) (64 * k + k0) (by omega) (fun j g1 g2 => by
              have := h4 (j - 64 * k) (by omega) (by omega)
              rwa [show 64 * k + (j - 64 * k) = j by omega] at this)]
            exact hj2
          obtain ⟨fn, tmps, assign, body, hy, hR⟩ := hY _ _ rest wr hrest hj3
          have hTz := tz_any _ hz hlt64 wr (hJT _ _ hj2)
          rw [← hk0] at hTz
          replace hTz := hid hTz
          have hnz : (((cutw (fun j => p (64 * k + j)) m : Nat) : Int) == 0) = false := by rw [beq_eq_false_iff_ne]; omega
          have ev : ((64 * k + k0 : Nat) : Int) = (k : Int) * 64 + (k0 : Int) := by omega
          rw [ev] at hy
          have hand : bits .and .u64 ((cutw (fun j => p (64 * k + j)) m : Nat) : Int) (((cutw (fun j => p (64 * k + j)) m : Nat) : Int) - 1) = ((cutw (fun j => p (64 * k + j)) (k0 + 1) : Nat) : Int) := by
            have e1 : ((cutw (fun j => p (64 * k + j)) m : Nat) : Int) - 1 = ((cutw (fun j => p (64 * k + j)) m - 1 : Nat) : Int) := by omega
            rw [e1, u64_and_nat _ _ hlt64 (by omega), h5]
          have hless : cutw (fun j => p (64 * k + j)) (k0 + 1) < cutw (fun j => p (64 * k + j)) m := by
            rw [← h5]
            have : cutw (fun j => p (64 * k + j)) m &&& (cutw (fun j => p (64 * k + j)) m - 1) ≤ cutw (fun j => p (64 * k + j)) m - 1 := Nat.and_le_right
            omega
          clear h5 hk0
          generalize hn2 : cutw (fun j => p (64 * k + j)) (k0 + 1) = n2 at hand hless
          generalize cutw (fun j => p (64 * k + j)) m = nn at *
          gi_wp2_with (refine ⟨trivial, ?_⟩; gi_at_call 41; refine (callsIn_wide.2 hTz.out).mono ?_; rintro e w' ⟨rfl, rfl⟩)
          refine hR.mono ?_
          rintro e W3 (⟨rfl, hJ3⟩ | ⟨rfl, hJ3⟩)
          · gi_wp2
            exact ⟨⟨k0 + 1, by omega, by rw [hn2], by rw [← Nat.add_assoc, el_snoc p _ h3]; exact hJ3⟩, by simp [intOf]; omega⟩
          · gi_wp2
            exact bodyPost_ret (results_none rfl _ _ _) rfl ⟨⟨_, rfl⟩, Or.inr ⟨_, hJ3⟩⟩
    · have hk4 : k = 4 := by omega
      subst hk4
      gi_wp2
      go_end0
      exact ⟨⟨_, rfl⟩, Or.inl hj⟩
theorem enters_srising : ∀ args w, (callFunc 89 args).run Tryd.prog w = .ok (.enter 89 args) w := fun _ _ => by kernel_rfl
end Go.Proofs.YtphcncgdodhlbaaDoor
namespace Go.Proofs.YtphcncgdodhlbaaDoor
set_option linter.unusedSimpArgs false
set_option linter.unusedVariables false
set_option maxRecDepth 100000
open Go.RowKit Go.Shelf
attribute [local go_sem] Oper.semAt_some
/-- A program's ways, as a value. -/
abbrev wyV (b off n cap : Nat) : Value := .agg #[.slice (some ⟨b, off, none⟩) n cap]
theorem el_one {ss : List St} {p : Nat → Bool} (hp : Sub ss p) {pre rest : List Nat} {x : Nat} (h : el p 256 = pre ++ x :: rest) : p x = true ∧ x < ss.length := by
  have : x ∈ el p 256 := by rw [h]; simp
  have := (el_mem p 256 x).1 this
  exact ⟨this.2, hp x this.2⟩
/-- A store into a box leaves what the loop keeps of deferred calls. -/
theorem boxed_def {W : World} {b D : Nat} {t : TypeId} {v : Value} (h : Boxed W b t v) (u : Value) (hK : W.heap[D]? = some (.deferred (some []))) : (W.setCell ⟨b, 0, none⟩ u).heap[D]? = some (.deferred (some [])) := by
  have hne : b ≠ D := fun e => by
    rw [← e, show W.heap[b]? = _ from h] at hK
    cases hK
  exact (Below.heap_setCell W ⟨b, 0, none⟩ u D (fun e => hne e.symm)).trans hK
theorem Boxed.putK {W : World} {b D : Nat} {t : TypeId} {v : Value} (h : Boxed W b t v) (hK : W.heap[D]? = some (.deferred (some []))) (o : Obj) : Boxed (W.putObj D o) b t v := by
  have hne : b ≠ D := fun e => by
    rw [← e, show W.heap[b]? = _ from h] at hK
    cases hK
  exact (World.putObj_heap_other hne).trans h
set_option maxHeartbeats 4000000 in
theorem sdone_in (ss : List St) (hl : ss.length ≤ 200) (b off cap : Nat) (p : Nat → Bool) (hp : Sub ss p) (w : World) (hT : Tab w) (hlt : b < w.heap.size) (hN : SsAt w b off ss) :
    CallsIn Fence.wide 3 Tryd.prog 86 #[wyV b off ss.length cap, stV p] w fun e w' => e = .returned (.bool (donF ss p)) ∧ Below w.heap.size w w' := by
  refine callsIn_of_wp_marks Tryd.func86 rfl trivial ?_ rfl
  simp only [Tryd.ntmps86, List.size_toArray, List.length_cons, List.length_nil, Nat.reduceAdd, Nat.reduceSub, Array.replicate_succ, Array.replicate_zero, List.push_toArray, List.append_toArray, List.nil_append, List.cons_append]
  unfold stV
  gi_wp2_with fail
  obtain ⟨W0, hW0⟩ : ∃ W0, W0 = ((w.alloc (.cells #[.slice (some ⟨b, off, none⟩) ss.length cap] 105)).alloc (.cells #[.int .u64 (wd p 0), .int .u64 (wd p 1), .int .u64 (wd p 2), .int .u64 (wd p 3)] 119)).alloc (.cells #[.bool false] 4) := ⟨_, rfl⟩
  have hB0 : Below w.heap.size w W0 := by rw [hW0]; exact ((((Below.refl _ w).alloc (Nat.le_refl _) _).alloc (by simp) _).alloc (by simp; omega) _)
  have hs0 : W0.heap.size = w.heap.size + 3 := by rw [hW0]; simp
  have hb1 : Boxed W0 w.heap.size 105 (.slice (some ⟨b, off, none⟩) ss.length cap) := by
    rw [hW0]; exact (Below.heap_alloc _ _ _ (by simp; omega)).trans ((Below.heap_alloc _ _ _ (by simp)).trans (World.alloc_heap_new w _))
  have hb2 : Boxed W0 (w.heap.size + 1 + 1) 4 (.bool false) := by
    rw [hW0]
    have := World.alloc_heap_new ((w.alloc (.cells #[.slice (some ⟨b, off, none⟩) ss.length cap] 105)).alloc (.cells #[.int .u64 (wd p 0), .int .u64 (wd p 1), .int .u64 (wd p 2), .int .u64 (wd p 3)] 119)) (.cells #[.bool false] 4)
    show _ = _
    rw [show w.heap.size + 1 + 1 = ((w.alloc (.cells #[.slice (some ⟨b, off, none⟩) ss.length cap] 105)).alloc (.cells #[.int .u64 (wd p 0), .int .u64 (wd p 1), .int .u64 (wd p 2), .int .u64 (wd p 3)] 119)).heap.size by simp]
    exact this
  rw [← hW0]
  refine wpIn_runsTo rfl (by omega) 89 #[stV p] rfl trivial enters_srising (fun x : Nat => Value.int .i64 (x : Int)) Tab (el p 256) (srises (3 - 1) (by omega) p) rfl
    (fun pre W => (Boxed W w.heap.size 105 (.slice (some ⟨b, off, none⟩) ss.length cap) ∧ Boxed W (w.heap.size + 1 + 1) 4 (.bool false) ∧ (∀ x ∈ pre, ¬ Dne ss x)) ∧ Below w.heap.size w W)
    (fun pre W => (Boxed W (w.heap.size + 1 + 1) 4 (.bool true) ∧ donF ss p = true) ∧ Below w.heap.size w W)
    (OwnFrom.and (OwnFrom.and (Own.from (boxed_own _ _ (fun _ => _)) _) (OwnFrom.and (Own.from (boxed_own _ _ (fun _ => _)) _) (ownFrom_pure _ (fun pre : List Nat => ∀ x ∈ pre, ¬ Dne ss x)))) (ownFrom_below (Nat.le_refl _) (by omega)))
    (OwnFrom.and (OwnFrom.and (Own.from (boxed_own _ _ (fun _ => _)) _) (ownFrom_pure _ (fun _ => _))) (ownFrom_below (Nat.le_refl _) (by omega)))
    (fun pre W h => hT.below h.2 (Nat.le_refl _))
    ⟨⟨hb1, hb2, by simp⟩, hB0⟩
    (fun x => { tmps := #[wyV b off ss.length cap, stV p, .pointer (some ⟨w.heap.size, 0, none⟩), .pointer (some ⟨w.heap.size + 1, 0, none⟩), .pointer (some ⟨w.heap.size + 1 + 1, 0, none⟩), .int .i64 (x : Int), stV p, .func (.func 89) #[stV p] #[], .int .i64 (x : Int), undef, undef, undef, undef, undef, undef, undef], defers := [] }) ?assign ?body ?done ?stop
  case assign =>
    intro l x W K hK
    gi_wp2
    exact hK
  case body =>
    rintro l pre x rest W hx ⟨⟨h1, h2, h3⟩, hB⟩
    obtain ⟨hpx, hxl⟩ := el_one hp hx
    obtain ⟨n, hn⟩ : ∃ n, ss[x]? = some n := ⟨ss[x], List.getElem?_eq_getElem hxl⟩
    have c0 := h1.cell
    have c2 := h2.cell
    have f2 := h2.frozen
    obtain ⟨d0, _⟩ := (hN.below hB hlt) x n hn
    have g0 : (0 : Int) ≤ (x : Int) := by omega
    have g1 : (x : Int) < (ss.length : Int) := by omega
    have H1 := hid h1
    have H2 := hid h2
    have HB := hid hB
    have HD : Hid (n.op = 5 → donF ss p = true) := fun e => donF_iff.2 ⟨x, hpx, n, hn, e⟩
    have HND : Hid (¬ n.op = 5 → ∀ y ∈ pre ++ [x], ¬ Dne ss y) := fun e y hy => by
      rcases List.mem_append.1 hy with hy | hy
      · exact h3 y hy
      · rw [List.mem_singleton.1 hy]
        rintro ⟨m, hm, e5⟩
        rw [hn] at hm
        obtain rfl := Option.some.inj hm
        exact e e5
    clear h1 h2 h3 hB hx hn
    by_cases h5 : n.op = 5
    · rw [h5] at d0
      gi_wp2
      exact ⟨(KeepsOthers.setCell _ _ _).from _, ⟨H2.out.set _, HD.out h5⟩, HB.out.setCell (p := ⟨w.heap.size + 1 + 1, 0, none⟩) (by simp only; omega) _⟩
    · have h5' : (n.op == 5) = false := by rw [beq_eq_false_iff_ne]; exact h5
      gi_wp2
      exact ⟨KeepsFrom.refl _ _, ⟨H1.out, H2.out, HND.out h5⟩, HB.out⟩
  case done =>
    rintro D W hD ⟨⟨h1, h2, h3⟩, hB⟩ hK
    have c2 := h2.cell
    have f2 := h2.frozen
    have HN : Hid (donF ss p = false) := by
      show _ = _
      cases h : donF ss p with
      | false => rfl
      | true =>
        obtain ⟨k, hk, hd⟩ := donF_iff.1 h
        exact absurd hd (h3 k ((el_in hl hp k).2 hk))
    gi_wp2
    refine ⟨by simp, .inl ⟨_, _, rfl, run_takeDeferred (boxed_def h2 _ hK), ?_⟩⟩
    have c3 := (Boxed.putK (h2.set (.bool false)) (boxed_def h2 _ hK) (.deferred none)).cell
    refine ⟨.bool false, by simp [results, Tryd.results86, go_sem, c3], by rw [HN.out], ?_⟩
    exact (hB.setCell (p := ⟨w.heap.size + 1 + 1, 0, none⟩) (by simp only; omega) _).trans (belowK_b (w := w) (Nat.le_refl _) _ D _ _ (by omega) (boxed_def h2 _ hK) rfl rfl)
  case stop =>
    rintro D pre W hD ⟨⟨h2, h3⟩, hB⟩ hK
    have c2 := h2.cell
    gi_wp2
    refine ⟨by simp, .inl ⟨_, _, rfl, run_takeDeferred hK, ?_⟩⟩
    have c3 := (Boxed.putK h2 hK (.deferred none)).cell
    refine ⟨.bool true, by simp [results, Tryd.results86, go_sem, c3], by rw [h3], ?_⟩
    exact hB.trans (belowK_b (w := w) (Nat.le_refl _) _ D _ _ (by omega) hK rfl rfl)
theorem sdone_any (ss : List St) (hl : ss.length ≤ 200) (b off cap : Nat) (p : Nat → Bool) (hp : Sub ss p) (w : World) (hT : Tab w) (hlt : b < w.heap.size) (hN : SsAt w b off ss) :
    Calls Tryd.prog 86 #[wyV b off ss.length cap, stV p] w fun e w' => e = .returned (.bool (donF ss p)) ∧ Below w.heap.size w w' := callsIn_wide.1 (sdone_in ss hl b off cap p hp w hT hlt hN)
end Go.Proofs.YtphcncgdodhlbaaDoor
namespace Go.Proofs.YtphcncgdodhlbaaDoor
set_option linter.unusedSimpArgs false
set_option linter.unusedVariables false
set_option maxRecDepth 100000
open Go.RowKit
/-- A step as a value. -/
abbrev St.v (n : St) : Value := .agg #[.int .i64 n.op, .int .u64 n.c.a, .int .u64 n.c.b, .int .u64 n.c.c, .int .u64 n.c.d, .int .i64 n.x, .int .i64 n.y]
abbrev St.arr (n : St) : Array Value := #[.int .i64 n.op, .int .u64 n.c.a, .int .u64 n.c.b, .int .u64 n.c.c, .int .u64 n.c.d, .int .i64 n.x, .int .i64 n.y]
def St.eqb (a b : St) : Bool := a.op == b.op && (a.c.eqb b.c && (a.x == b.x && a.y == b.y))
theorem list4st {α : Type} (l : List α) (h : l.length = 4) : ∃ a b c d, l = [a, b, c, d] := by
  match l, h with
  | [a, b, c, d], _ => exact ⟨a, b, c, d, rfl⟩
theorem eq7d (d : Nat) (x y : St) (w : World) : (Op.equalIn (d + 1 + 1 + 1) 103 x.v y.v).run Tryd.prog w = .ok (x.eqb y) w := by
  have hs : Tryd.prog.underlying 103 = some (.struct (Tryd.prog.fieldsOf 103)) := by kernel_rfl
  have hp : Tryd.prog.stoodInHeld 103 = false := by kernel_rfl
  rw [run_equalIn_struct w (d + 1 + 1) _ _ _ hs hp]
  have hf : (Tryd.prog.fieldsOf 103).toList.map (fun f => (f.type, f.offset, f.name == "_")) = [(3, 0, false), (42, 1, false), (3, 5, false), (3, 6, false)] := by kernel_rfl
  generalize (Tryd.prog.fieldsOf 103).toList = fs at hf
  obtain ⟨f0, f1, f2, f3, rfl⟩ := list4st fs (by have := congrArg List.length hf; simpa using this)
  · simp only [List.map_cons, List.map_nil, List.cons.injEq, Prod.mk.injEq, and_true] at hf
    obtain ⟨⟨t0, o0, n0⟩, ⟨t1, o1, n1⟩, ⟨t2, o2, n2⟩, ⟨t3, o3, n3⟩⟩ := hf
    have n0' : f0.name ≠ "_" := by simpa using n0
    have n1' : f1.name ≠ "_" := by simpa using n1
    have n2' : f2.name ≠ "_" := by simpa using n2
    have n3' : f3.name ≠ "_" := by simpa using n3
    have hi : ∀ (a b : Int) (w : World), (Op.equalIn (d + 1 + 1) 3 (.int .i64 a) (.int .i64 b)).run Tryd.prog w = .ok (a == b) w := fun a b w => run_equalIn_int w (d + 1) 3 .i64 .i64 a b Tryd.underlying3
    have hc : ∀ (x y : C4) (w : World), (Op.equalIn (d + 1 + 1) 42 x.v y.v).run Tryd.prog w = .ok (x.eqb y) w := fun x y w => eq4d d x y w
    have q0 : ∀ (z : St) (w : World), (part 3 z.arr 0).run Tryd.prog w = .ok (.int .i64 z.op) w := fun _ _ => by kernel_rfl
    have q1 : ∀ (z : St) (w : World), (part 42 z.arr 1).run Tryd.prog w = .ok z.c.v w := fun _ _ => by kernel_rfl
    have q2 : ∀ (z : St) (w : World), (part 3 z.arr 5).run Tryd.prog w = .ok (.int .i64 z.x) w := fun _ _ => by kernel_rfl
    have q3 : ∀ (z : St) (w : World), (part 3 z.arr 6).run Tryd.prog w = .ok (.int .i64 z.y) w := fun _ _ => by kernel_rfl
    simp only [Op.eqFields, t0, o0, t1, o1, t2, o2, t3, o3, ne_eq, n0', n1', n2', n3', not_false_eq_true, if_true, Sem.run_bind, q0, q1, q2, q3, Result.andThen_ok, hi, hc, Sem.run_ite, Sem.run_pure]
    unfold St.eqb
    cases h1 : x.op == y.op <;> cases h2 : x.c.eqb y.c <;> cases h3 : x.x == y.x <;> cases h4 : x.y == y.y <;> simp [q1, q2, q3, hc, hi, h2, h3, h4]
theorem eqS (x y : St) (w : World) : (Op.equalIn 10000 103 x.v y.v).run Tryd.prog w = .ok (x.eqb y) w := eq7d 9997 x y w
end Go.Proofs.YtphcncgdodhlbaaDoor
namespace Go.Proofs.YtphcncgdodhlbaaDoor
set_option linter.unusedSimpArgs false
set_option linter.unusedVariables false
set_option maxRecDepth 100000
open Go.RowKit

/-- Block k is turned: the box bf, the row that it names, or one of X. -/
def Frm (bf : Nat) (X : Nat → Prop) (W : World) (k : Nat) : Prop := k < W.heap.size ∧ (X k ∨ k = bf ∨ ∃ u, W.cell? ⟨bf, 0, none⟩ = some u ∧ u.ownBlock = some k)
/-- All other cells lie as they lay. -/
structure KpF (bf : Nat) (X : Nat → Prop) (W W' : World) : Prop where
  size : W.heap.size ≤ W'.heap.size
  same : ∀ k o, W.heap[k]? = some o → o.isCells = true → ¬ Frm bf X W k → W'.heap[k]? = some o
  row : ∀ k, Frm bf X W' k → Frm bf X W k ∨ W.heap.size ≤ k
theorem KpF.refl (bf : Nat) (X : Nat → Prop) (W : World) : KpF bf X W W := ⟨Nat.le_refl _, fun _ _ h _ _ => h, fun _ h => Or.inl h⟩
theorem heap_lt {W : World} {k : Nat} {o : Obj} (h : W.heap[k]? = some o) : k < W.heap.size := (Array.getElem?_eq_some_iff.1 h).1
theorem KpF.free {bf : Nat} {X : Nat → Prop} {W W' : World} (h : KpF bf X W W') {k : Nat} (hk : k < W.heap.size) (hn : ¬ Frm bf X W k) : ¬ Frm bf X W' k := fun hf => by
  rcases h.row k hf with h1 | h1
  · exact hn h1
  · omega
theorem KpF.trans {bf : Nat} {X : Nat → Prop} {A B C : World} (h : KpF bf X A B) (g : KpF bf X B C) : KpF bf X A C where
  size := Nat.le_trans h.size g.size
  same := fun k o hk ho hn => g.same k o (h.same k o hk ho hn) ho (h.free (heap_lt hk) hn)
  row := fun k hf => by
    rcases g.row k hf with h1 | h1
    · exact h.row k h1
    · exact Or.inr (Nat.le_trans h.size h1)
theorem cell_block {W : World} {k o : Nat} {c : Value} (h : W.cell? ⟨k, o, none⟩ = some c) : ∃ ob, W.heap[k]? = some ob ∧ ob.isCells = true := by
  unfold World.cell? at h
  split at h
  · rename_i cs t z hh
    exact ⟨_, hh, rfl⟩
  · cases h
theorem cell_of_block {W W' : World} {k : Nat} {ob : Obj} (h : W.heap[k]? = some ob) (h' : W'.heap[k]? = some ob) (o : Nat) : W'.cell? ⟨k, o, none⟩ = W.cell? ⟨k, o, none⟩ := by
  unfold World.cell?
  simp only [h, h']
theorem frozen_of_block {W W' : World} {k : Nat} {ob : Obj} (h : W.heap[k]? = some ob) (h' : W'.heap[k]? = some ob) (o : Nat) : W'.frozen? ⟨k, o, none⟩ = W.frozen? ⟨k, o, none⟩ := by
  unfold World.frozen?
  simp only [h, h']
theorem KpF.cell {bf : Nat} {X : Nat → Prop} {W W' : World} (h : KpF bf X W W') {k o : Nat} {c : Value} (hc : W.cell? ⟨k, o, none⟩ = some c) (hn : ¬ Frm bf X W k) : W'.cell? ⟨k, o, none⟩ = some c := by
  obtain ⟨ob, h1, h2⟩ := cell_block hc
  rw [cell_of_block h1 (h.same k ob h1 h2 hn), hc]
theorem cell_lt {W : World} {k o : Nat} {c : Value} (h : W.cell? ⟨k, o, none⟩ = some c) : k < W.heap.size := by
  obtain ⟨ob, h1, _⟩ := cell_block h
  exact heap_lt h1
/-- What only makes memory. -/
theorem KpF.below {bf : Nat} (X : Nat → Prop) {W W' : World} (h : Below W.heap.size W W') (hb : bf < W.heap.size) : KpF bf X W W' where
  size := h.size
  same := fun k o hk _ _ => (h.block k (heap_lt hk)).trans hk
  row := fun k hf => by
    rcases Nat.lt_or_ge k W.heap.size with hk | hk
    · refine Or.inl ⟨hk, ?_⟩
      rcases hf.2 with h1 | h1 | ⟨u, h1, h2⟩
      · exact Or.inl h1
      · exact Or.inr (Or.inl h1)
      · exact Or.inr (Or.inr ⟨u, (h.cell (p := ⟨bf, 0, none⟩) hb).symm.trans h1, h2⟩)
    · exact Or.inr hk
/-- A store into one of X. -/
theorem KpF.put {bf : Nat} {X : Nat → Prop} (W : World) (b o : Nat) (c : Value) (hX : X b) (hne : bf ≠ b) : KpF bf X W (W.setCell ⟨b, o, none⟩ c) where
  size := by simp
  same := fun k ob hk _ hn => by
    have hkb : k ≠ b := fun e => hn ⟨heap_lt hk, Or.inl (e ▸ hX)⟩
    simp [World.setCell, Array.getElem?_modify, hk, Ne.symm hkb]
  row := fun k hf => by
    refine Or.inl ⟨by simpa using hf.1, ?_⟩
    rcases hf.2 with h1 | h1 | ⟨u, h1, h2⟩
    · exact Or.inl h1
    · exact Or.inr (Or.inl h1)
    · refine Or.inr (Or.inr ⟨u, ?_, h2⟩)
      have hh : (W.setCell ⟨b, o, none⟩ c).heap[bf]? = W.heap[bf]? := by simp [World.setCell, Array.getElem?_modify, Ne.symm hne]
      unfold World.cell? at h1 ⊢
      simp only [hh] at h1
      exact h1
/-- A plain value is stored into the box. -/
theorem KpF.box {bf : Nat} {X : Nat → Prop} (W : World) (t : TypeId) (v c : Value) (hB : Boxed W bf t v) (hc : c.ownBlock = none) : KpF bf X W (W.setCell ⟨bf, 0, none⟩ c) where
  size := by simp
  same := fun k ob hk _ hn => by
    have hkb : k ≠ bf := fun e => hn ⟨heap_lt hk, Or.inr (Or.inl e)⟩
    simp [World.setCell, Array.getElem?_modify, hk, Ne.symm hkb]
  row := fun k hf => by
    refine Or.inl ⟨by simpa using hf.1, ?_⟩
    rcases hf.2 with h1 | h1 | ⟨u, h1, h2⟩
    · exact Or.inl h1
    · exact Or.inr (Or.inl h1)
    · have : (W.setCell ⟨bf, 0, none⟩ c).cell? ⟨bf, 0, none⟩ = some c := by
        simp [World.cell?, World.setCell, Array.getElem?_modify, show W.heap[bf]? = _ from hB]
      rw [this] at h1
      injection h1 with h1
      rw [← h1, hc] at h2
      cases h2
/-- append, and the box names what it made. -/
theorem KpF.grow {bf : Nat} {X : Nat → Prop} {W W1 : World} {t : TypeId} {u c : Value} (hB : Boxed W bf t u) (hg : W.grownBy W1 u.ownBlock) (hub : ∀ k, u.ownBlock = some k → k ≠ bf) (hc : ∀ k, c.ownBlock = some k → u.ownBlock = some k ∨ W.heap.size ≤ k) : KpF bf X W (W1.setCell ⟨bf, 0, none⟩ c) where
  size := by have := hg.size; simpa using this
  same := fun k ob hk _ hn => by
    have hkb : k ≠ bf := fun e => hn ⟨heap_lt hk, Or.inr (Or.inl e)⟩
    have hku : u.ownBlock ≠ some k := fun e => hn ⟨heap_lt hk, Or.inr (Or.inr ⟨u, hB.cell, e⟩)⟩
    have h1 := (hg.block k (heap_lt hk) (Ne.symm hku)).trans hk
    simp [World.setCell, Array.getElem?_modify, h1, Ne.symm hkb]
  row := fun k hf => by
    have hb1 : Boxed W1 bf t u := hB.kept hg (fun e => hub bf e.symm rfl)
    rcases Nat.lt_or_ge k W.heap.size with hk | hk
    · refine Or.inl ⟨hk, ?_⟩
      rcases hf.2 with h1 | h1 | ⟨u', h1, h2⟩
      · exact Or.inl h1
      · exact Or.inr (Or.inl h1)
      · have : (W1.setCell ⟨bf, 0, none⟩ c).cell? ⟨bf, 0, none⟩ = some c := by
          simp [World.cell?, World.setCell, Array.getElem?_modify, show W1.heap[bf]? = _ from hb1]
        rw [this] at h1
        injection h1 with h1
        rw [← h1] at h2
        rcases hc k h2 with h3 | h3
        · exact Or.inr (Or.inr ⟨u, hB.cell, h3⟩)
        · omega
    · exact Or.inr hk
/-- What the loop itself keeps. -/
theorem KpF.obj {bf : Nat} (X : Nat → Prop) (W : World) (l : Nat) (o o' : Obj) (hb : bf ≠ l) (hl : W.heap[l]? = some o) (ho : o.isCells = false) : KpF bf X W (W.putObj l o') where
  size := by simp
  same := fun k ob hk hc _ => by
    have hkl : k ≠ l := fun e => by
      rw [e, hl] at hk
      injection hk with hk
      rw [← hk, ho] at hc
      cases hc
    exact (World.putObj_heap_other hkl).trans hk
  row := fun k hf => by
    refine Or.inl ⟨by simpa using hf.1, ?_⟩
    rcases hf.2 with h1 | h1 | ⟨u, h1, h2⟩
    · exact Or.inl h1
    · exact Or.inr (Or.inl h1)
    · refine Or.inr (Or.inr ⟨u, ?_, h2⟩)
      have : (W.putObj l o').heap[bf]? = W.heap[bf]? := World.putObj_heap_other hb
      unfold World.cell? at h1 ⊢
      simp only [this] at h1
      exact h1
/-- The same, and the row is the old one or new. -/
theorem wpList_append_isr {ops : Array Oper} {rest : List Oper} {o : Oper} {a : Act} {Q : Exit → Act → World → Prop} {w : World} (hgd : o.guard = none) (s x : Operand)
    (ho : o.op = .call { callee := .builtin .append, args := #[s, x], argTypes := #[46, 46] })
    (B : Nat) (v : Value) (hs : a.eval s = v) (l : List Nat) (hown : IsOwn w B v l) (g2 c2 n : Nat) (hx : a.eval x = .slice (some ⟨g2, 0, none⟩) 1 c2)
    (hnew : w.cell? ⟨g2, 0, none⟩ = some (.int .i64 (n : Int))) (hlen : l.length ≤ 1000000000) (hbase : B ≤ w.heap.size)
    (h : ∀ g cap w', IsOwn w' B (.slice (some ⟨g, 0, none⟩) (l.length + 1) cap) (l ++ [n]) → w.grownBy w' v.ownBlock → B ≤ g → (v.ownBlock = some g ∨ w.heap.size ≤ g) → wpList Tryd.prog ops Q rest (a.put o.dst (.slice (some ⟨g, 0, none⟩) (l.length + 1) cap)) w') : wpList Tryd.prog ops Q (o :: rest) a w := by
  have hinfo : (Tryd.prog.info? 3).map (fun i => (i.zero, i.size, i.bytes)) = some (some (.int .i64 0), 1, 8) := by kernel_rfl
  obtain ⟨i0, hi, hz0, hz1, hz2⟩ := info_parts hinfo
  refine wpList_append_lies w hgd s x 46 ho B 3 i0 _ 1 8 Tryd.underlying46 hi hz0 hz1 hz2 rfl (by decide) v l.length (isCells l) hs hown ⟨g2, 0, none⟩ 1 c2 (isCells [n]) hx rfl ?_ (by simp [isCells, Value.oneCell']) (by omega) (by unfold maxLen; omega) (by omega) hbase _ rfl ?_
  · intro j u hj
    cases j with
    | zero =>
      simp [isCells] at hj
      subst hj
      rw [Addr.add_lit]
      exact hnew
    | succ j => simp [isCells] at hj
  · intro g cap w' h1 h2 h3 h4
    have e : IsOwn w' B (.slice (some ⟨g, 0, none⟩) (l.length + 1) cap) (l ++ [n]) := by
      unfold IsOwn
      simpa [isCells] using h1
    have hg : B ≤ g := by
      rcases h3 with h3 | h3
      · rcases hown.2 with ⟨hv, _⟩ | ⟨g', cap', cur, hv, hb, _⟩
        · rw [hv] at h3; cases h3
        · rw [hv] at h3
          injection h3 with h3
          simp at h3
          omega
      · omega
    exact h g cap w' e h2 hg (h3.imp id (fun e => by omega))
end Go.Proofs.YtphcncgdodhlbaaDoor

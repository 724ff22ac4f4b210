/- A loop over a closure that keeps memory of its own from round to round: the body turns its own frame alone, the closure what is not of it. Package sim: the places at which a program comes to its end, handed on one by one. -/
import Derived.Test.YtgnmlnfddcnkbaaDoorY09
import Derived.RangeFuncNested
import Derived.Test.YtgnmlnfddcnkbaaDoorY12
import Derived.Test.YtgnmlnfddcnkbaaDoorY11
import Derived.Test.YtgnmlnfddcnkbaaDoorY04
import Derived.RangeFuncBound
import Derived.RangeFuncCalls
import Derived.RangeFuncLeaves
import Derived.Shelf.Abstract
import Derived.Shelf.RegionOpen
import Derived.WalkKit
import Derived.OwnWalkIn
import Derived.TacticsInMore
import Derived.LoopNIn
import Derived.LoopIn
import Derived.Sort.CutIn
import Derived.Deep.RegionHeld3
namespace Go.Proofs.YtgnmlnfddcnkbaaDoor
set_option linter.unusedSimpArgs false
set_option linter.unusedVariables false
open Go.RowKit

variable {F : Fence} {n : Nat} {P : Program}

/-- J lasts while new memory is made, and while a block from B on is written that is not of the frame. -/
def AbN {β : Type} (B : Nat) (Fr : World → Nat → Prop) (J : β → World → Prop) : Prop :=
  ∀ s W W' row, J s W → W.grownBy W' row → (∀ r, row = some r → B ≤ r ∧ (∃ o : Obj, W.heap[r]? = some o ∧ o.isCells = true) ∧ ¬ Fr W r) → J s W'
/-- The same of what the loop's body keeps between two rounds; the loop's own objects besides. -/
def OwnN {β : Type} (B : Nat) (Fr : World → Nat → Prop) (I : β → World → Prop) : Prop :=
  ∀ s W W' row, I s W → W.grownBy W' row → (∀ r, row = some r → B ≤ r ∧ ∃ o : Obj, W.heap[r]? = some o ∧ (o.isCells = false ∨ ¬ Fr W r)) → I s W'
/-- What the closure does: one by one it hands on xs. -/
def SeqN {α : Type} (F : Fence) (n : Nat) (P : Program) (g : Nat) (lb : Array Value) (enc : α → Value) (Kp : World → World → Prop) (Fr : World → Nat → Prop) (xs : List α) (w₀ : World) : Prop :=
  ∀ (l : Nat) (J : List α → World → Prop) (W : World), Below w₀.heap.size w₀ W → AbN W.heap.size Fr J →
    (∀ pre x rest W1, xs = pre ++ x :: rest → J pre W1 → YieldAt F (n - 1) P l #[enc x] W1 fun e W' => e = .returned (.bool true) ∧ J (pre ++ [x]) W' ∧ Kp W1 W') →
    J [] W → CallsIn F n P g (#[.func (.yield l) #[] #[]] ++ lb) W fun e W' => (∃ v, e = .returned v) ∧ J xs W'
/-- The body goes on. -/
def nPost {α : Type} (B : Nat) (Kp : World → World → Prop) (I : List α → World → Prop) (xs : List α) (W : World) : Exit → Act → World → Prop
  | .normal, _, W' => KeepsFrom B W W' ∧ Kp W W' ∧ I xs W'
  | _, _, _ => False
theorem wpIn_seqN {α : Type} {g : Operand} {ps : Array Tmp} {assign body : Code} {Q : Exit → Act → World → Prop} {a : Act} {w : World}
    (hro : F.round = none) (h1 : 1 ≤ n) (gf : Nat) (lb : Array Value) (hg : a.eval g = .func (.func gf) #[] lb) (hFg : F.fn gf) (eg : ∀ args w, (callFunc gf args).run P w = .ok (.enter gf args) w)
    (enc : α → Value) (Kp : World → World → Prop) (hKt : ∀ {A B C : World}, Kp A B → Kp B C → Kp A C)
    (hKb : ∀ (W : World) (l : Nat) (o o' : Obj), w.heap.size ≤ l → W.heap[l]? = some o → o.isCells = false → o.isWalk = false → Kp W (W.putObj l o'))
    (Fr : World → Nat → Prop) (xs : List α) (w0 : World) (hseq : SeqN F (n - 1) P gf lb enc Kp Fr xs w0) (hb0 : Below w0.heap.size w0 w) (hps : ps.size = 1)
    (I : List α → World → Prop) (hI : OwnN w.heap.size Fr I) (h0 : I [] w) (a₁ : α → Act)
    (hassign : ∀ (l : Nat) (x : α) (W : World) (K : Act → World → Prop), K (a₁ x) W →
      assign.wpIn (F.inRound l) (n - 1 - 1) P (Exit.then K (fun _ _ _ => False)) { tmps := (ps.zip #[enc x]).foldl (fun t (p, v) => t.setIfInBounds p v) a.tmps, defers := [] } W)
    (hbody : ∀ (l : Nat) (pre : List α) (x : α) (rest : List α) (W : World), xs = pre ++ x :: rest → I pre W → body.wpIn (F.inRound l) (n - 1 - 1) P (nPost w.heap.size Kp I (pre ++ [x]) W) (a₁ x) W)
    (hdone : ∀ (D : Nat) (W : World), w.heap.size ≤ D → I xs W → W.heap[D]? = some (.deferred (some [])) → Q .normal { a with defers := { target := .collected D, args := #[] } :: a.defers } W) :
    (Code.rangeFunc g ps assign body).wpIn F n P Q a w := by
  refine wpIn_rangeFunc fun fn hfn => ?_
  rw [hro]
  let D := w.heap.size
  let L := w.heap.size + 1
  let rec0 : LoopState → Option Code → Loop := fun st pe => { state := st, pending := pe, fn := fn, tmps := a.tmps, params := ps, assign := assign, body := body, defers := D }
  let V := (w.alloc (.deferred (some []))).alloc (.loop (rec0 .ready none))
  have hVL : V.heap[L]? = some (.loop (rec0 .ready none)) := by
    have := World.alloc_heap_new (w.alloc (.deferred (some []))) (.loop (rec0 .ready none))
    rwa [World.size_alloc] at this
  have hVD : V.heap[D]? = some (.deferred (some [])) := (Below.heap_alloc _ _ _ (by simp [D])).trans (World.alloc_heap_new w _)
  have hIa : ∀ (W : World) (o : Obj), I [] W → I [] (W.alloc o) := fun W o h => hI _ _ _ none h (World.grownBy_alloc _ _ _) (fun r e => by cases e)
  have hVI : I [] V := hIa _ _ (hIa _ _ h0)
  have hVb : Below w0.heap.size w0 V := hb0.trans ((((Below.refl _ w).alloc (Nat.le_refl _) _).alloc (by simp) _).mono hb0.size)
  have hput : ∀ (s : List α) (W : World) (l : Nat) (o o' : Obj), I s W → w.heap.size ≤ l → W.heap[l]? = some o → o.isCells = false → I s (W.putObj l o') := fun s W l o o' h hl ho hc =>
    hI _ _ _ (some l) h (grownBy_putObj' W l o') (fun r e => by cases e; exact ⟨hl, o, ho, Or.inl hc⟩)
  refine ⟨L, [{ target := .collected D, args := #[] }], V, { target := .fn (.func gf) lb, args := #[.func (.yield L) #[] #[]] }, V, gf, #[.func (.yield L) #[] #[]] ++ lb, V, run_enterLoop_outer _ _ _ _ _, ?_, ?_, ?_, fun _ => h1, ?_⟩
  · simp only [resolve, hg]
    simp [go_sem]
  · intro f' hf'
    simp [Target.leads] at hf'
    subst hf'
    exact hFg
  · simp [invoke, go_sem, eg]
  · have hkeep : ∀ {A B : World} {row : Option Nat} {k : Nat} {o : Obj}, A.grownBy B row → (∀ r, row = some r → V.heap.size ≤ r ∧ (∃ o : Obj, A.heap[r]? = some o ∧ o.isCells = true) ∧ ¬ Fr A r) → A.heap[k]? = some o → o.isCells = false → B.heap[k]? = some o := fun {A B row k o} hg hr hk ho => by
      refine (hg.block k (Array.getElem?_eq_some_iff.1 hk).1 (fun e => ?_)).trans hk
      obtain ⟨_, ⟨o', h', hc⟩, _⟩ := hr k e.symm
      rw [hk] at h'
      obtain rfl := Option.some.inj h'
      rw [ho] at hc
      cases hc
    have hV2 : w.heap.size + 2 = V.heap.size := by simp [V]
    have key := hseq L (fun pre W => I pre W ∧ W.heap[L]? = some (.loop (rec0 .ready none)) ∧ W.heap[D]? = some (.deferred (some []))) V hVb
      (fun s A B row hs hgr hr => ⟨hI s A B row hs.1 hgr (fun r e => by
        obtain ⟨h2, ⟨o, ho, _⟩, h3⟩ := hr r e
        exact ⟨by omega, o, ho, Or.inr h3⟩), hkeep hgr hr hs.2.1 rfl, hkeep hgr hr hs.2.2 rfl⟩)
      (fun pre x rest W hx h => by
        obtain ⟨hi, hl, hd⟩ := h
        have hlt : L < W.heap.size := (Array.getElem?_eq_some_iff.1 hl).1
        have hy := run_yield (P := P) (args := #[enc x]) hl (by simp [rec0, hps])
        let Wb := W.putObj L (.loop { rec0 .ready none with state := .busy })
        have hbL : Wb.heap[L]? = some (.loop { rec0 .ready none with state := .busy }) := World.putObj_heap_same hlt
        have hbD : Wb.heap[D]? = some (.deferred (some [])) := (World.putObj_heap_other (by simp [D, L])).trans hd
        have hk0 : Kp W Wb := hKb _ _ _ _ (by simp [L]) hl rfl rfl
        refine ⟨fn, _, assign, body, hy, roundIn_of_wpIn hfn (hassign L x W _ ⟨Wb, run_beginRound hl rfl, ?_⟩)⟩
        refine wpIn_mono (hbody L pre x rest Wb hx (hput _ _ _ _ _ hi (by simp [L]) hl rfl)) ?_
        intro e a3 W3 hp
        cases e with
        | normal =>
          obtain ⟨hk3, hkp3, hi3⟩ := hp
          have hl3 := hk3.same L _ (by simp [L]) hbL rfl
          have hd3 := hk3.same D _ (Nat.le_refl _) hbD rfl
          have hk4 : Kp W3 (W3.putObj L (.loop (rec0 .ready none))) := hKb _ _ _ _ (by simp [L]) hl3 rfl rfl
          exact ⟨_, _, run_endRound none hl3, rfl, ⟨hput _ _ _ _ _ hi3 (by simp [L]) hl3 rfl, World.putObj_heap_same (Array.getElem?_eq_some_iff.1 hl3).1, (World.putObj_heap_other (by simp [D, L])).trans hd3⟩, hKt (hKt hk0 hkp3) hk4⟩
        | _ => exact hp.elim)
      ⟨hVI, hVL, hVD⟩
    refine key.mono ?_
    rintro e W2 ⟨⟨v, rfl⟩, hi, hl, hd⟩
    exact ⟨none, _, run_endLoop hl (by simp [rec0]), hdone D _ (Nat.le_refl _) (hput _ _ _ _ _ hi (by simp [L]) hl rfl) ((World.putObj_heap_other (by simp [D, L])).trans hd)⟩
end Go.Proofs.YtgnmlnfddcnkbaaDoor
namespace Go.Proofs.YtgnmlnfddcnkbaaDoor
set_option linter.unusedSimpArgs false
set_option linter.unusedVariables false
set_option maxRecDepth 100000
open Go.RowKit Go.Shelf
attribute [local go_sem] Oper.semAt_some
/-- What the loop's body turns: the box bf, and the row that it names. -/
abbrev noX : Nat → Prop := fun _ => False
/-- The box names a row that lies in memory. -/
def Bnd (bf : Nat) (W : World) : Prop := ∀ u k, W.cell? ⟨bf, 0, none⟩ = some u → u.ownBlock = some k → k < W.heap.size
/-- What each round keeps. -/
def Kp2 (bf : Nat) (W W' : World) : Prop := KpF bf noX W W' ∧ (Bnd bf W → Bnd bf W')
theorem Kp2.trans {bf : Nat} {A B C : World} (h : Kp2 bf A B) (g : Kp2 bf B C) : Kp2 bf A C := ⟨h.1.trans g.1, fun x => g.2 (h.2 x)⟩
theorem Bnd.below {bf : Nat} {W W' : World} (h : Bnd bf W) (hb : Below W.heap.size W W') (hl : bf < W.heap.size) : Bnd bf W' := fun u k hu hk => by
  rw [hb.cell (p := ⟨bf, 0, none⟩) hl] at hu
  exact Nat.lt_of_lt_of_le (h u k hu hk) hb.size
/-- What is new is not the loop's. -/
theorem frm_new {bf : Nat} {W W' : World} (h : Bnd bf W) (hb : Below W.heap.size W W') (hl : bf < W.heap.size) {k : Nat} (hk : W.heap.size ≤ k) : ¬ Frm bf noX W' k := by
  rintro ⟨_, h1 | h1 | ⟨u, h1, h2⟩⟩
  · exact h1
  · omega
  · rw [hb.cell (p := ⟨bf, 0, none⟩) hl] at h1
    have := h u k h1 h2
    omega
theorem SsAt.kp {bf : Nat} {X : Nat → Prop} {w w' : World} {b off : Nat} {ss : List St} (h : SsAt w b off ss) (hk : KpF bf X w w') (hn : ¬ Frm bf X w b) : SsAt w' b off ss := fun i n hi => by
  obtain ⟨h0, h1, h2, h3, h4, h5, h6⟩ := h i n hi
  exact ⟨hk.cell h0 hn, hk.cell h1 hn, hk.cell h2 hn, hk.cell h3 hn, hk.cell h4 hn, hk.cell h5 hn, hk.cell h6 hn⟩
theorem Tab.kp {bf : Nat} {X : Nat → Prop} {w w' : World} (h : Tab w) (hk : KpF bf X w w') (hn : ¬ Frm bf X w 0) : Tab w' := fun i hi => hk.cell (h i hi) hn
theorem Hq.kp {bf : Nat} {X : Nat → Prop} {w w' : World} {b : Nat} {p : Nat → Bool} (h : Hq w b p) (hk : KpF bf X w w') (hn : ¬ Frm bf X w b) : Hq w' b p := hk.same b _ h rfl hn
theorem abN_below {β : Type} {B : Nat} {Fr : World → Nat → Prop} {J : β → World → Prop} (hJ : AbN B Fr J) {x : β} {W W' : World} (h : J x W) (hb : Below W.heap.size W W') : J x W' :=
  hJ x W W' none h ⟨hb.os, hb.tape, hb.output, hb.size, fun k hk _ => hb.block k hk⟩ (fun r e => by cases e)
theorem ahead_split {l : List Nat} (hl : l.Pairwise (· < ·)) (a : Nat) (ha : a ∈ l) : ∃ rest, l = ahead l a ++ a :: rest := by
  induction l with
  | nil => cases ha
  | cons x r ih =>
    rw [List.pairwise_cons] at hl
    rcases List.mem_cons.1 ha with rfl | h
    · refine ⟨r, ?_⟩
      rw [ahead_none a (fun j hj => ?_)]
      · rfl
      · rcases List.mem_cons.1 hj with rfl | hj
        · exact Nat.le_refl _
        · exact Nat.le_of_lt (hl.1 j hj)
    · obtain ⟨rest, hr⟩ := ih hl.2 h
      have hx : x < a := hl.1 a h
      refine ⟨rest, ?_⟩
      have : ahead (x :: r) a = x :: ahead r a := by
        unfold ahead
        rw [List.filter_cons_of_pos (by simp [hx])]
      rw [this, List.cons_append, ← hr]
/-- What the iterator has of its own. -/
structure ItY (ss : List St) (b off cap : Nat) (s : ByteArray) (i bf bw bs ba : Nat) (w : World) : Prop where
  steps : SsAt w b off ss
  r0 : w.cell? ⟨bw, 0, none⟩ = some (.slice (some ⟨b, off, none⟩) ss.length cap)
  r1 : w.cell? ⟨bs, 0, none⟩ = some (.string s)
  r2 : w.cell? ⟨ba, 0, none⟩ = some (.int .i64 (i : Int))
  tab : Tab w
  blt : b < w.heap.size
  fb : ¬ Frm bf noX w b
  fw : ¬ Frm bf noX w bw
  fs : ¬ Frm bf noX w bs
  fa : ¬ Frm bf noX w ba
  ft : ¬ Frm bf noX w 0
  bnd : Bnd bf w
  lt : bf < w.heap.size
theorem ItY.below {ss : List St} {b off cap : Nat} {s : ByteArray} {i bf bw bs ba : Nat} {w w' : World} (h : ItY ss b off cap s i bf bw bs ba w) (hb : Below w.heap.size w w') : ItY ss b off cap s i bf bw bs ba w' where
  steps := h.steps.below hb h.blt
  r0 := (hb.cell (p := ⟨bw, 0, none⟩) (cell_lt h.r0)).trans h.r0
  r1 := (hb.cell (p := ⟨bs, 0, none⟩) (cell_lt h.r1)).trans h.r1
  r2 := (hb.cell (p := ⟨ba, 0, none⟩) (cell_lt h.r2)).trans h.r2
  tab := h.tab.below hb (Nat.le_refl _)
  blt := Nat.lt_of_lt_of_le h.blt hb.size
  fb := (KpF.below noX hb h.lt).free h.blt h.fb
  fw := (KpF.below noX hb h.lt).free (cell_lt h.r0) h.fw
  fs := (KpF.below noX hb h.lt).free (cell_lt h.r1) h.fs
  fa := (KpF.below noX hb h.lt).free (cell_lt h.r2) h.fa
  ft := (KpF.below noX hb h.lt).free (tab_lt h.tab) h.ft
  bnd := h.bnd.below hb h.lt
  lt := Nat.lt_of_lt_of_le h.lt hb.size
theorem ItY.kp {ss : List St} {b off cap : Nat} {s : ByteArray} {i bf bw bs ba : Nat} {w w' : World} (h : ItY ss b off cap s i bf bw bs ba w) (hk : Kp2 bf w w') : ItY ss b off cap s i bf bw bs ba w' where
  steps := h.steps.kp hk.1 h.fb
  r0 := hk.1.cell h.r0 h.fw
  r1 := hk.1.cell h.r1 h.fs
  r2 := hk.1.cell h.r2 h.fa
  tab := h.tab.kp hk.1 h.ft
  blt := Nat.lt_of_lt_of_le h.blt hk.1.size
  fb := hk.1.free h.blt h.fb
  fw := hk.1.free (cell_lt h.r0) h.fw
  fs := hk.1.free (cell_lt h.r1) h.fs
  fa := hk.1.free (cell_lt h.r2) h.fa
  ft := hk.1.free (tab_lt h.tab) h.ft
  bnd := hk.2 h.bnd
  lt := Nat.lt_of_lt_of_le h.lt hk.1.size
theorem ItY.S3 {ss : List St} {b off cap : Nat} {s : ByteArray} {i bf bw bs ba : Nat} {w : World} (h : ItY ss b off cap s i bf bw bs ba w) : w.cell? ⟨bw, 0, none⟩ = some (.slice (some ⟨b, off, none⟩) ss.length cap) ∧ w.cell? ⟨bs, 0, none⟩ = some (.string s) ∧ w.cell? ⟨ba, 0, none⟩ = some (.int .i64 (i : Int)) := ⟨h.r0, h.r1, h.r2⟩
/-- The three stay where another block is written. -/
theorem S3_put {b off cap n : Nat} {s : ByteArray} {z bw bs ba nb o : Nat} {i : Int} {v : Value} {w : World} (hw : bw < z) (hs : bs < z) (ha : ba < z) (hz : z ≤ nb) (h : w.cell? ⟨bw, 0, none⟩ = some (.slice (some ⟨b, off, none⟩) n cap) ∧ w.cell? ⟨bs, 0, none⟩ = some (.string s) ∧ w.cell? ⟨ba, 0, none⟩ = some (.int .i64 i)) : (w.setCell ⟨nb, o, none⟩ v).cell? ⟨bw, 0, none⟩ = some (.slice (some ⟨b, off, none⟩) n cap) ∧ (w.setCell ⟨nb, o, none⟩ v).cell? ⟨bs, 0, none⟩ = some (.string s) ∧ (w.setCell ⟨nb, o, none⟩ v).cell? ⟨ba, 0, none⟩ = some (.int .i64 i) := by
  have key : ∀ k c, k < z → w.cell? ⟨k, 0, none⟩ = some c → (w.setCell ⟨nb, o, none⟩ v).cell? ⟨k, 0, none⟩ = some c := fun k c hk hc =>
    (World.cell?_of_block (a := ⟨k, 0, none⟩) (Below.heap_setCell w ⟨nb, o, none⟩ v k (by simp only; omega))).trans hc
  exact ⟨key _ _ hw h.1, key _ _ hs h.2.1, key _ _ ha h.2.2⟩
/-- At place a, in the loop: nb holds the set of steps; what is asked for lies ahead of z, the set behind it. -/
structure ItL (ss : List St) (b off cap : Nat) (s : ByteArray) (i bf bw bs ba z nb a : Nat) (w : World) : Prop where
  m : ItY ss b off cap s i bf bw bs ba w
  now : Hq w nb (curS ss s.data.toList i a)
  fn : ¬ Frm bf noX w nb
  lo : z ≤ nb
  lb : b < z
  lw : bw < z
  ls : bs < z
  la : ba < z
  lt : 0 < z
  lf : bf < z
theorem ItL.below {ss : List St} {b off cap : Nat} {s : ByteArray} {i bf bw bs ba z nb a : Nat} {w w' : World} (h : ItL ss b off cap s i bf bw bs ba z nb a w) (hb : Below w.heap.size w w') : ItL ss b off cap s i bf bw bs ba z nb a w' :=
  ⟨h.m.below hb, h.now.below hb h.now.lt, (KpF.below noX hb h.m.lt).free h.now.lt h.fn, h.lo, h.lb, h.lw, h.ls, h.la, h.lt, h.lf⟩
theorem ItL.kp {ss : List St} {b off cap : Nat} {s : ByteArray} {i bf bw bs ba z nb a : Nat} {w w' : World} (h : ItL ss b off cap s i bf bw bs ba z nb a w) (hk : Kp2 bf w w') : ItL ss b off cap s i bf bw bs ba z nb a w' :=
  ⟨h.m.kp hk, h.now.kp hk.1 h.fn, hk.1.free h.now.lt h.fn, h.lo, h.lb, h.lw, h.ls, h.la, h.lt, h.lf⟩
theorem ItL.S2 {ss : List St} {b off cap : Nat} {s : ByteArray} {i bf bw bs ba z nb a : Nat} {w : World} (h : ItL ss b off cap s i bf bw bs ba z nb a w) : w.cell? ⟨bw, 0, none⟩ = some (.slice (some ⟨b, off, none⟩) ss.length cap) ∧ w.cell? ⟨bs, 0, none⟩ = some (.string s) := ⟨h.m.r0, h.m.r1⟩
/-- A block that is none of those is written: the frame is what it was. -/
theorem frm_put {bf nb k : Nat} {w w' : World} (hg : w.grownBy w' (some nb)) (hf : bf ≠ nb) (hl : bf < w.heap.size) (hs : w'.heap.size = w.heap.size) : Frm bf noX w' k ↔ Frm bf noX w k := by
  have h0 : w'.cell? ⟨bf, 0, none⟩ = w.cell? ⟨bf, 0, none⟩ := World.cell?_of_block (a := ⟨bf, 0, none⟩) (hg.block bf hl (by intro e; injection e with e; exact hf e))
  unfold Frm
  rw [h0, hs]
theorem ItL.put {ss : List St} {b off cap : Nat} {s : ByteArray} {i bf bw bs ba z nb a : Nat} {w : World} (h : ItL ss b off cap s i bf bw bs ba z nb a w) (a' : Nat) : ItL ss b off cap s i bf bw bs ba z nb a' (putS w nb (curS ss s.data.toList i a')) := by
  obtain ⟨h1, h2, h3, h4, h5, h6, h7, h8, h9, h10⟩ := h
  have hg := grown_putS w nb (curS ss s.data.toList i a')
  have hs := putS_size w nb (curS ss s.data.toList i a')
  have hne : ∀ k, k < z → some k ≠ some nb := fun k hk e => by injection e with e; omega
  have cell : ∀ k o c, k < z → w.cell? ⟨k, o, none⟩ = some c → (putS w nb (curS ss s.data.toList i a')).cell? ⟨k, o, none⟩ = some c := fun k o c hk hc =>
    (World.cell?_of_block (a := ⟨k, o, none⟩) (hg.block k (cell_lt hc) (hne k hk))).trans hc
  have hf : ∀ k, Frm bf noX (putS w nb (curS ss s.data.toList i a')) k ↔ Frm bf noX w k := fun k => frm_put hg (by omega) h1.lt hs
  refine ⟨⟨h1.steps.grown hg h1.blt (hne _ h5), cell _ _ _ h6 h1.r0, cell _ _ _ h7 h1.r1, cell _ _ _ h8 h1.r2, fun j hj => cell _ _ _ h9 (h1.tab j hj), by rw [hs]; exact h1.blt, fun e => h1.fb ((hf _).1 e), fun e => h1.fw ((hf _).1 e), fun e => h1.fs ((hf _).1 e), fun e => h1.fa ((hf _).1 e), fun e => h1.ft ((hf _).1 e), ?_, by rw [hs]; exact h1.lt⟩, h2.putS _, fun e => h3 ((hf _).1 e), h4, h5, h6, h7, h8, h9, h10⟩
  intro u k hu hk
  rw [hs]
  rw [show (putS w nb (curS ss s.data.toList i a')).cell? ⟨bf, 0, none⟩ = w.cell? ⟨bf, 0, none⟩ from World.cell?_of_block (a := ⟨bf, 0, none⟩) (hg.block bf h1.lt (hne _ h10))] at hu
  exact h1.bnd u k hu hk
theorem bel_a {W w1 : World} {o : Obj} (h : Below (W.alloc o).heap.size (W.alloc o) w1) : Below W.heap.size W w1 ∧ w1.heap[W.heap.size]? = some o :=
  ⟨((Below.refl _ W).alloc (Nat.le_refl _) _).trans (h.mono (by simp)), (h.block _ (by simp)).trans (World.alloc_heap_new W o)⟩
theorem hq_zero {w : World} {b : Nat} (h : w.heap[b]? = some (.cells #[.int .u64 0, .int .u64 0, .int .u64 0, .int .u64 0] 99 (0, 0))) : Hq w b noP := by
  unfold Hq
  rw [wd_no, wd_no, wd_no, wd_no]
  exact h
set_option maxHeartbeats 8000000 in
theorem yiter_any (n : Nat) (hn : 1 ≤ n) (ss : List St) (hf : stepsF ss = 0) (hok : SsOk ss) (b off cap : Nat) (s : ByteArray) (hs : s.size ≤ 400) (i : Nat) (hi : i ≤ s.size) (l : List Nat) (hl : RunR ss s.data.toList i l) (bf bw bs ba : Nat) (w : World) (hM : ItY ss b off cap s i bf bw bs ba w) :
    SeqN Fence.wide n Tryd.prog 51 #[.pointer (some ⟨bw, 0, none⟩), .pointer (some ⟨bs, 0, none⟩), .pointer (some ⟨ba, 0, none⟩)] (fun x : Nat => .int .i64 (x : Int)) (Kp2 bf) (Frm bf noX) l w := by
  intro lp J W hBW hJ hY h0
  obtain ⟨h200, hpos, hst⟩ := stepsF_zero hf
  have hMW := hM.below hBW
  have hlen : s.data.toList.length = s.size := by simp
  have hL := leads_of hf
  have HB := hid (fun w' (h : ItY ss b off cap s i bf bw bs ba w') => sbegin_any ss hf b off cap (decide (i = 0)) (decide (i = s.data.toList.length)) w' h.tab h.blt h.steps)
  have HPL := hid (fun w' => placeOf_any s i w')
  have HY := hid hY
  have HJ := hid hJ
  have HL := hid hl
  have HOK := hid hok
  have HF := hid hf
  have HLD := hid hL
  have HJ0 : Hid (J (ahead l i) W) := by
    show J _ _
    rw [cur_begin (by omega) hl]
    exact h0
  have HMW := hid hMW
  have HBEG : Hid (∀ X nb, Below W.heap.size W X → W.heap.size ≤ nb → Hq X nb (begS ss (decide (i = 0)) (decide (i = s.size))) → ∃ nb', (Value.pointer (some ⟨nb, 0, none⟩)) = .pointer (some ⟨nb', 0, none⟩) ∧ ItL ss b off cap s i bf bw bs ba W.heap.size nb' i X ∧ J (ahead l i) X) := fun X nb hb hn hq => by
    refine ⟨nb, rfl, ⟨hMW.below hb, ?_, frm_new hMW.bnd hb hMW.lt hn, hn, hMW.blt, cell_lt hMW.r0, cell_lt hMW.r1, cell_lt hMW.r2, tab_lt hMW.tab, hMW.lt⟩, abN_below HJ.out HJ0.out hb⟩
    rw [cur_beg ss s.data.toList i (by omega), hlen]
    exact hq
  have r0 := hMW.r0
  have r1 := hMW.r1
  have r2 := hMW.r2
  clear hY hJ hl hok hst h0 hMW hM hBW hL hf
  refine callsIn_of_wp Tryd.func51 rfl trivial ?_ rfl
  simp only [Tryd.ntmps51, List.size_toArray, List.length_cons, List.length_nil, Nat.reduceAdd, Nat.reduceSub, Array.replicate_succ, Array.replicate_zero, List.push_toArray, List.append_toArray, List.nil_append, List.cons_append]
  gi_upto_region 7 with fail
  gi_cut [5] from 7 (fun s5 wc => ∃ nb, s5 = .pointer (some ⟨nb, 0, none⟩) ∧ ItL ss b off cap s i bf bw bs ba W.heap.size nb i wc ∧ J (ahead l i) wc)
  case first =>
    refine wpIn_wide.2 ?_
    have hwz := cell_lt r0
    have hsz := cell_lt r1
    have haz := cell_lt r2
    go_region_held3 (fun w' => w'.cell? ⟨bw, 0, none⟩ = some (.slice (some ⟨b, off, none⟩) ss.length cap) ∧ w'.cell? ⟨bs, 0, none⟩ = some (.string s) ∧ w'.cell? ⟨ba, 0, none⟩ = some (.int .i64 (i : Int))) (first | (first | with_reducible exact m2.S3 | with_reducible exact (m2.below ((Below.refl _ _).alloc (Nat.le_refl _) _)).S3 | with_reducible exact m1.S3 | with_reducible exact (m1.below ((Below.refl _ _).alloc (Nat.le_refl _) _)).S3 | with_reducible exact HMW.out.S3 | with_reducible exact (HMW.out.below (Below.refl _ _).drew).S3 | with_reducible exact (HMW.out.below ((Below.refl _ _).alloc (Nat.le_refl _) _).drew).S3) | (with_reducible refine S3_put hwz hsz haz (by omega) ?_; with_reducible refine S3_put hwz hsz haz (by omega) ?_; with_reducible refine S3_put hwz hsz haz (by omega) ?_; with_reducible refine S3_put hwz hsz haz (by omega) ?_; (first | with_reducible exact m2.S3 | with_reducible exact (m2.below ((Below.refl _ _).alloc (Nat.le_refl _) _)).S3 | with_reducible exact m1.S3 | with_reducible exact (m1.below ((Below.refl _ _).alloc (Nat.le_refl _) _)).S3 | with_reducible exact HMW.out.S3 | with_reducible exact (HMW.out.below (Below.refl _ _).drew).S3 | with_reducible exact (HMW.out.below ((Below.refl _ _).alloc (Nat.le_refl _) _).drew).S3)) | (trace_state; fail)) (first
      | (go_at_call 42; refine (HPL.out _).mono ?_; rintro e w1 ⟨rfl, hb1⟩; (first | (have hbw : Below W.heap.size W w1 := bel_d hb1; have m1 := HMW.out.below hbw; have hsz1 := hbw.size) | (obtain ⟨hbw, hz⟩ : Below W.heap.size W w1 ∧ _ := bel_da hb1; have m1 := HMW.out.below hbw; have hsz1 := hbw.size)))
      | (go_at_call 52; refine (HB.out _ ?_).mono ?_; (first | with_reducible exact m1 | with_reducible exact m1.below ((Below.refl _ _).alloc (Nat.le_refl _) _)); rintro e w2 ⟨rfl, hb2⟩; (first | (obtain ⟨hb3, hz2⟩ := bel_a hb2; have hbw2 := hbw.trans (hb3.mono hbw.size); have hsz2 := hbw2.size; have m2 := HMW.out.below hbw2; obtain ⟨z0, z1, z2, z3⟩ := (hq_zero hz2).all; obtain ⟨f0, f1, f2, f3⟩ := (hq_zero hz2).frz) | (have hbw2 := hbw.trans (hb2.mono hbw.size); have hsz2 := hbw2.size; have m2 := HMW.out.below hbw2; first | (have hz2 := (hb2.block _ (heap_lt hz)).trans hz; obtain ⟨z0, z1, z2, z3⟩ := (hq_zero hz2).all; obtain ⟨f0, f1, f2, f3⟩ := (hq_zero hz2).frz) | (have hz2 := World.alloc_heap_new w2 (.cells #[.int .u64 0, .int .u64 0, .int .u64 0, .int .u64 0] 99); obtain ⟨z0, z1, z2, z3⟩ := (hq_zero hz2).all; obtain ⟨f0, f1, f2, f3⟩ := (hq_zero hz2).frz))); unfold stV))
    all_goals go_wp2_with fail
    all_goals gi_meet
    case rel =>
      exact HBEG.out _ _ (hbw2.alloc hsz2 _) hsz2 (Hq.new w2 _ _ rfl)
    all_goals first | exact HBEG.out _ _ (below_putS hbw2 (Nat.le_refl _) _) (Nat.le_refl _) ((hq_zero hz2).putS _) | exact HBEG.out _ _ (below_putS hbw2 hsz1 _) hsz1 ((hq_zero hz2).putS _)
  case rest =>
    obtain ⟨nb, rfl, hL0, hj0⟩ := hcut
    have HR0 : Hid (∃ a : Nat, i ≤ a ∧ a ≤ s.size ∧ (i : Int) = (a : Int) ∧ ItL ss b off cap s i bf bw bs ba W.heap.size nb a wc ∧ J (ahead l a) wc) := ⟨i, Nat.le_refl _, hi, rfl, hL0, hj0⟩
    have r2' := hL0.m.r2
    clear hL0 hj0 r0 r1 r2 HBEG HB HPL HMW HJ0
    gi_wp2_with fail
    clear r2'
    gi_loopw [6] (fun va wr => ∃ a : Nat, i ≤ a ∧ a ≤ s.size ∧ va = .int .i64 (a : Int) ∧ Hid (ItL ss b off cap s i bf bw bs ba W.heap.size nb a wr ∧ J (ahead l a) wr)) (fun va _ => s.size + 1 - (intOf va).toNat)
    case atStart =>
      obtain ⟨a, h1, h2, h3, h4⟩ := HR0.out
      exact ⟨a, h1, h2, by rw [h3], h4⟩
    case round =>
      clear HR0
      obtain ⟨a, hia, has, rfl, HR⟩ := hrel
      obtain ⟨hL, hj⟩ := HR.out
      have hsub : Sub ss (curS ss s.data.toList i a) := cur_sub HLD.out hpos
      have CE := hid (sempty_any (by omega) (curS ss s.data.toList i a) hsub wr)
      have CD := hid (fun w' (h : ItL ss b off cap s i bf bw bs ba W.heap.size nb a w') => sdone_any ss (by omega) b off cap (curS ss s.data.toList i a) hsub w' h.m.tab h.m.blt h.m.steps)
      obtain ⟨c0, c1, c2, c3⟩ := hL.now.all
      have HEND : Hid (curS ss s.data.toList i a = noP → ahead l a = l) := fun h => cur_all (by omega) hia HL.out h
      have HLL := hid hL
      have HJJ := hid hj
      unfold stV at CE CD
      clear hL hj HR
      gi_wp2_with fail
      refine ⟨trivial, (callsIn_wide.2 CE.out).mono ?_⟩
      rintro e w1 ⟨y, rfl, hy, hb1⟩
      cases y with
      | true =>
        have HP : Hid (J l w1) := by
          have := abN_below HJ.out HJJ.out hb1
          rwa [HEND.out (hy.1 rfl)] at this
        clear HEND hy CE CD c0 c1 c2 c3
        gi_wp2
        go_end0
        exact ⟨⟨_, rfl⟩, HP.out⟩
      | false =>
        have hL1 := HLL.out.below hb1
        have hj1 := abN_below HJ.out HJJ.out hb1
        obtain ⟨c0, c1, c2, c3⟩ := hL1.now.all
        have r0 := hL1.m.r0
        have C1 := hid (CD.out w1 hL1)
        have HL1 := hid hL1
        have HJ1 := hid hj1
        clear hL1 hj1 hy HEND CE CD HLL HJJ hb1
        have HDN := hid (fun y => cur_done (ss := ss) (s := s.data.toList) (i := i) (show i ≤ s.data.toList.length by omega) HL.out y)
        cases hd : donF ss (curS ss s.data.toList i a)
        case' false =>
          rw [hd] at C1
          have hna : ¬ a ∈ l := fun h => by
            have := (HDN.out a).2 h
            rw [hd] at this
            cases this
          gi_wp2_with fail
          refine ⟨trivial, (callsIn_wide.2 C1.out).mono ?_⟩
          rintro e w3 ⟨rfl, hb2⟩
          have hL3 := HL1.out.below hb2
          have hj3 := abN_below HJ.out HJ1.out hb2
          rw [← ahead_no a hna] at hj3
          clear hna hd C1 HDN HL1 HJ1 c0 c1 c2 c3 r0 hb2
          gi_wp2_with fail
          refine ⟨fun f h => (by cases h), ?_⟩
        case' true =>
          rw [hd] at C1
          have hya : a ∈ l := (HDN.out a).1 hd
          obtain ⟨rest, hrest⟩ := ahead_split HL.out.1 a hya
          have hrest := hid hrest
          have HAH : Hid (ahead l (a + 1) = ahead l a ++ [a]) := ahead_yes HL.out.1 a hya
          gi_wp2_with fail
          refine ⟨trivial, (callsIn_wide.2 C1.out).mono ?_⟩
          rintro e w2 ⟨rfl, hb2⟩
          have HL2 := hid (HL1.out.below hb2)
          obtain ⟨fn, tmps, assign, body, hyy, hRR⟩ := HY.out (ahead l a) a rest w2 hrest.out (abN_below HJ.out HJ1.out hb2)
          have HRR := hid hRR
          clear hya hd C1 HDN HL1 HJ1 c0 c1 c2 c3 r0 hb2 hRR hrest
          gi_wp2_with fail
          refine HRR.out.mono ?_
          rintro e w3 ⟨rfl, hj3, hK3⟩
          have hL3 := HL2.out.kp hK3
          rw [← HAH.out] at hj3
          clear HAH HRR HL2 hK3 hyy
        all_goals
          have r0 := hL3.m.r0
          have r1 := hL3.m.r1
          obtain ⟨c0, c1, c2, c3⟩ := hL3.now.all
          obtain ⟨f0, f1, f2, f3⟩ := hL3.now.frz
          have HL3 := hid hL3
          have HJ3 := hid hj3
          clear hL3 hj3
          by_cases hae : a = s.size
          · have he : ((a : Int) == (s.size : Int)) = true := by rw [hae]; simp
            have HP : Hid (J l w3) := by
              have := HJ3.out
              rw [hae, ← hlen, cur_last (by omega) HL.out] at this
              exact this
            clear HL3 HJ3 hae
            gi_wp2
            exact bodyPost_ret (results_none rfl _ _ _) rfl ⟨⟨_, rfl⟩, HP.out⟩
          · have he : ((a : Int) == (s.size : Int)) = false := by rw [beq_eq_false_iff_ne]; omega
            have hal : a < s.size := by omega
            have g0 : (0 : Int) ≤ (a : Int) := by omega
            have g1 : (a : Int) < (s.size : Int) := by omega
            have hsa : s.data.toList[a]? = some s[a] := by
              rw [List.getElem?_eq_getElem (by simpa using hal)]; rfl
            have HNX : Hid (nxtS ss (curS ss s.data.toList i a) s[a].toNat false (decide (a + 1 = s.size)) = curS ss s.data.toList i (a + 1)) := by
              show _ = _
              rw [cur_next ss s.data.toList i a hia s[a] hsa, hlen]
            have CP := hid (fun w' => placeOf_any s (a + 1) w')
            have e1 : ((a + 1 : Nat) : Int) = (a : Int) + 1 := by omega
            rw [e1, show decide (a + 1 = 0) = false by simp, hlen] at CP
            have hw1 : IntKind.i64.wrap ((a : Int) + 1) = (a : Int) + 1 := by rw [IntKind.wrap_i64]; omega
            have CN := hid (fun w' (h : ItL ss b off cap s i bf bw bs ba W.heap.size nb a w') => snext_any ss HF.out HOK.out b off cap (curS ss s.data.toList i a) hsub s[a] false (decide (a + 1 = s.size)) w' h.m.tab h.m.blt h.m.steps)
            rw [HNX.out] at CN
            unfold stV at CN
            clear e1 hsa
            gi_wp2_with fail
            refine wpIn_wide.2 ?_
            refine wp_region_noPanic ?_
            refine wp_region_held_drew (S := fun w => w.cell? ⟨bw, 0, none⟩ = some (.slice (some ⟨b, off, none⟩) ss.length cap) ∧ w.cell? ⟨bs, 0, none⟩ = some (.string s)) (by kernel_rfl) (HL3.out.below (Below.refl _ _).drew).S2 (fun hHeld => ?_)
            refine wpAnyH_take (i := 0) (oi := _) (v := ?_) rfl (by kernel_rfl) (by kernel_rfl) (by kernel_rfl) (fun _ _ _ h => h) (Or.inl ⟨by rfl, ?_⟩) (by assumption) ?_
            rotate_left
            · (intro w hSw; (try dsimp only at hSw); simp only [List.getElem_toArray, List.getElem_cons_zero, List.getElem_cons_succ]; go_simp; try with_reducible rfl)
            simp only [List.getElem_toArray, List.getElem_cons_zero, List.getElem_cons_succ, Act.put, List.setIfInBounds_toArray, List.set_cons_zero, List.set_cons_succ]
            refine wpAnyH_take (i := 2) (oi := _) (v := ?_) rfl (by kernel_rfl) (by kernel_rfl) (by kernel_rfl) (fun _ _ _ h => h) (Or.inl ⟨by rfl, ?_⟩) (by assumption) ?_
            rotate_left
            · (intro w hSw; (try dsimp only at hSw); simp only [List.getElem_toArray, List.getElem_cons_zero, List.getElem_cons_succ]; go_simp; try with_reducible rfl)
            simp only [List.getElem_toArray, List.getElem_cons_zero, List.getElem_cons_succ, Act.put, List.setIfInBounds_toArray, List.set_cons_zero, List.set_cons_succ]
            refine wpAnyH_take (i := 3) (oi := _) (v := ?_) rfl (by kernel_rfl) (by kernel_rfl) (by kernel_rfl) (fun _ _ _ h => h) (Or.inl ⟨by rfl, ?_⟩) (by assumption) ?_
            rotate_left
            · (intro w hSw; (try dsimp only at hSw); simp only [List.getElem_toArray, List.getElem_cons_zero, List.getElem_cons_succ]; go_simp; try with_reducible rfl)
            simp only [List.getElem_toArray, List.getElem_cons_zero, List.getElem_cons_succ, Act.put, List.setIfInBounds_toArray, List.set_cons_zero, List.set_cons_succ]
            refine wpAnyH_take (i := 4) (oi := _) (v := ?_) rfl (by kernel_rfl) (by kernel_rfl) (by kernel_rfl) (fun _ _ _ h => h) (Or.inl ⟨by rfl, ?_⟩) (by assumption) ?_
            rotate_left
            · (intro w hSw; (try dsimp only at hSw); simp only [List.getElem_toArray, List.getElem_cons_zero, List.getElem_cons_succ]; go_simp; try with_reducible rfl)
            simp only [List.getElem_toArray, List.getElem_cons_zero, List.getElem_cons_succ, Act.put, List.setIfInBounds_toArray, List.set_cons_zero, List.set_cons_succ]
            refine wpAnyH_take (i := 5) (oi := _) (v := ?_) rfl (by kernel_rfl) (by kernel_rfl) (by kernel_rfl) (fun _ _ _ h => h) (Or.inl ⟨by rfl, ?_⟩) (by assumption) ?_
            rotate_left
            · (intro w hSw; (try dsimp only at hSw); simp only [List.getElem_toArray, List.getElem_cons_zero, List.getElem_cons_succ]; go_simp; try with_reducible rfl)
            simp only [List.getElem_toArray, List.getElem_cons_zero, List.getElem_cons_succ, Act.put, List.setIfInBounds_toArray, List.set_cons_zero, List.set_cons_succ]
            refine wpAnyH_take (i := 6) (oi := _) (v := ?_) rfl (by kernel_rfl) (by kernel_rfl) (by kernel_rfl) (fun _ _ _ h => h) (Or.inl ⟨by rfl, ?_⟩) (by assumption) ?_
            rotate_left
            · (intro w hSw; (try dsimp only at hSw); simp only [List.getElem_toArray, List.getElem_cons_zero, List.getElem_cons_succ]; go_simp; try with_reducible rfl)
            simp only [List.getElem_toArray, List.getElem_cons_zero, List.getElem_cons_succ, Act.put, List.setIfInBounds_toArray, List.set_cons_zero, List.set_cons_succ]
            refine wpAnyH_take (i := 7) (oi := _) (v := ?_) rfl (by kernel_rfl) (by kernel_rfl) (by kernel_rfl) (fun _ _ _ h => h) (Or.inl ⟨by rfl, ?_⟩) (by assumption) ?_
            rotate_left
            · (intro w hSw; (try dsimp only at hSw); simp only [List.getElem_toArray, List.getElem_cons_zero, List.getElem_cons_succ]; go_simp; try with_reducible rfl)
            simp only [List.getElem_toArray, List.getElem_cons_zero, List.getElem_cons_succ, Act.put, List.setIfInBounds_toArray, List.set_cons_zero, List.set_cons_succ]
            refine wpAnyH_ready (rs := [1, 8]) (by kernel_rfl) (by simp) (AllReadyH.cons (o := _) rfl (fun K hK => ?_) (AllReadyH.cons (o := _) rfl (fun K hK => ?_) (AllReadyH.nil)))
            · try simp only [List.getElem_toArray, List.getElem_cons_zero, List.getElem_cons_succ]
              go_simp
              refine hK.out _ _ ?_ (fun hHeld => ?_)
              · exact hHeld
              clear hK K
              try simp only [List.getElem_toArray, List.getElem_cons_zero, List.getElem_cons_succ, Act.put, List.setIfInBounds_toArray, List.set_cons_zero, List.set_cons_succ]
              refine wpAnyH_ready (rs := [8]) (by kernel_rfl) (by simp) (AllReadyH.cons (o := _) rfl (fun K hK => ?_) (AllReadyH.nil))
              try simp only [List.getElem_toArray, List.getElem_cons_zero, List.getElem_cons_succ]
              go_simp
              refine (CP.out _).mono ?_
              rintro e w4 ⟨rfl, hb4⟩
              have m4 := (HL3.out.below (Below.refl _ _).drew).below hb4
              obtain ⟨y0, y1, y2, y3⟩ := m4.now.all
              try go_simp
              refine hK.out _ _ ?_ (fun hHeld => ?_)
              · exact m4.S2
              clear hK K
              try simp only [List.getElem_toArray, List.getElem_cons_zero, List.getElem_cons_succ, Act.put, List.setIfInBounds_toArray, List.set_cons_zero, List.set_cons_succ]
              refine wpAnyH_ready (rs := [9]) (by kernel_rfl) (by simp) (AllReadyH.cons (o := _) rfl (fun K hK => ?_) (AllReadyH.nil))
              try simp only [List.getElem_toArray, List.getElem_cons_zero, List.getElem_cons_succ]
              go_simp
              refine (CN.out _ m4).mono ?_
              rintro e w5 ⟨rfl, hb5⟩
              have m5 := m4.below hb5
              obtain ⟨z0, z1, z2, z3⟩ := m5.now.all
              obtain ⟨q0, q1, q2, q3⟩ := m5.now.frz
              try go_simp
              refine hK.out _ _ ?_ (fun hHeld => ?_)
              · exact m5.S2
              clear hK K
              try simp only [List.getElem_toArray, List.getElem_cons_zero, List.getElem_cons_succ, Act.put, List.setIfInBounds_toArray, List.set_cons_zero, List.set_cons_succ]
              refine wpAnyH_ready (rs := [10]) (by kernel_rfl) (by simp) (AllReadyH.cons (o := _) rfl (fun K hK => ?_) (AllReadyH.nil))
              try simp only [List.getElem_toArray, List.getElem_cons_zero, List.getElem_cons_succ]
              go_simp
              refine hK.out _ _ ?_ (fun hHeld => ?_)
              · exact (m5.put (a + 1)).S2
              clear hK K
              try simp only [List.getElem_toArray, List.getElem_cons_zero, List.getElem_cons_succ, Act.put, List.setIfInBounds_toArray, List.set_cons_zero, List.set_cons_succ]
              refine wpAnyH_done (by kernel_rfl) ?_ _
              refine NoPanic.normal ?_
              have HP : Hid (ItL ss b off cap s i bf bw bs ba W.heap.size nb (a + 1) (putS w5 nb (curS ss s.data.toList i (a + 1))) ∧ J (ahead l (a + 1)) (putS w5 nb (curS ss s.data.toList i (a + 1)))) := ⟨m5.put (a + 1), HJ.out _ _ _ (some nb) (abN_below HJ.out (abN_below HJ.out (abN_below HJ.out HJ3.out (Below.refl _ _).drew) hb4) hb5) (grown_putS _ _ _) (fun r e => by cases e; exact ⟨m5.lo, ⟨_, m5.now, rfl⟩, m5.fn⟩)⟩
              clear m4 m5 y0 y1 y2 y3 z0 z1 z2 z3 q0 q1 q2 q3 hHeld CP CN c0 c1 c2 c3 f0 f1 f2 f3 r0 r1 HL3 HJ3
              gi_wp2
              exact ⟨⟨a + 1, by omega, by omega, by go_num, HP⟩, by simp [intOf]; omega⟩
            · try simp only [List.getElem_toArray, List.getElem_cons_zero, List.getElem_cons_succ]
              go_simp
              refine (CP.out _).mono ?_
              rintro e w4 ⟨rfl, hb4⟩
              have m4 := (HL3.out.below (Below.refl _ _).drew).below hb4
              obtain ⟨y0, y1, y2, y3⟩ := m4.now.all
              try go_simp
              refine hK.out _ _ ?_ (fun hHeld => ?_)
              · exact m4.S2
              clear hK K
              try simp only [List.getElem_toArray, List.getElem_cons_zero, List.getElem_cons_succ, Act.put, List.setIfInBounds_toArray, List.set_cons_zero, List.set_cons_succ]
              refine wpAnyH_ready (rs := [1]) (by kernel_rfl) (by simp) (AllReadyH.cons (o := _) rfl (fun K hK => ?_) (AllReadyH.nil))
              try simp only [List.getElem_toArray, List.getElem_cons_zero, List.getElem_cons_succ]
              go_simp
              refine hK.out _ _ ?_ (fun hHeld => ?_)
              · exact m4.S2
              clear hK K
              try simp only [List.getElem_toArray, List.getElem_cons_zero, List.getElem_cons_succ, Act.put, List.setIfInBounds_toArray, List.set_cons_zero, List.set_cons_succ]
              refine wpAnyH_ready (rs := [9]) (by kernel_rfl) (by simp) (AllReadyH.cons (o := _) rfl (fun K hK => ?_) (AllReadyH.nil))
              try simp only [List.getElem_toArray, List.getElem_cons_zero, List.getElem_cons_succ]
              go_simp
              refine (CN.out _ m4).mono ?_
              rintro e w5 ⟨rfl, hb5⟩
              have m5 := m4.below hb5
              obtain ⟨z0, z1, z2, z3⟩ := m5.now.all
              obtain ⟨q0, q1, q2, q3⟩ := m5.now.frz
              try go_simp
              refine hK.out _ _ ?_ (fun hHeld => ?_)
              · exact m5.S2
              clear hK K
              try simp only [List.getElem_toArray, List.getElem_cons_zero, List.getElem_cons_succ, Act.put, List.setIfInBounds_toArray, List.set_cons_zero, List.set_cons_succ]
              refine wpAnyH_ready (rs := [10]) (by kernel_rfl) (by simp) (AllReadyH.cons (o := _) rfl (fun K hK => ?_) (AllReadyH.nil))
              try simp only [List.getElem_toArray, List.getElem_cons_zero, List.getElem_cons_succ]
              go_simp
              refine hK.out _ _ ?_ (fun hHeld => ?_)
              · exact (m5.put (a + 1)).S2
              clear hK K
              try simp only [List.getElem_toArray, List.getElem_cons_zero, List.getElem_cons_succ, Act.put, List.setIfInBounds_toArray, List.set_cons_zero, List.set_cons_succ]
              refine wpAnyH_done (by kernel_rfl) ?_ _
              refine NoPanic.normal ?_
              have HP : Hid (ItL ss b off cap s i bf bw bs ba W.heap.size nb (a + 1) (putS w5 nb (curS ss s.data.toList i (a + 1))) ∧ J (ahead l (a + 1)) (putS w5 nb (curS ss s.data.toList i (a + 1)))) := ⟨m5.put (a + 1), HJ.out _ _ _ (some nb) (abN_below HJ.out (abN_below HJ.out (abN_below HJ.out HJ3.out (Below.refl _ _).drew) hb4) hb5) (grown_putS _ _ _) (fun r e => by cases e; exact ⟨m5.lo, ⟨_, m5.now, rfl⟩, m5.fn⟩)⟩
              clear m4 m5 y0 y1 y2 y3 z0 z1 z2 z3 q0 q1 q2 q3 hHeld CP CN c0 c1 c2 c3 f0 f1 f2 f3 r0 r1 HL3 HJ3
              gi_wp2
              exact ⟨⟨a + 1, by omega, by omega, by go_num, HP⟩, by simp [intOf]; omega⟩
theorem enters_yiter : ∀ args w, (callFunc 51 args).run Tryd.prog w = .ok (.enter 51 args) w := fun _ _ => by kernel_rfl
end Go.Proofs.YtgnmlnfddcnkbaaDoor

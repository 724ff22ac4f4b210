/- What is known, in a map: spots and sets of places. A loop over a method's value, whose receiver stands ahead of yield; the body always goes on, and may call what writes a map that lay ahead of the loop. Package mean: a set of places hands on its places, rising. append, of a number. The reader of package mean in memory, and what is asked of its calls. What rex.End answers: plain mathematics. Package rex: End. Package mean: second, reading, check. Package mean: look, at the leaves but Byte. (Made by wip/tools/genlk.py.) -/
import Derived.Test.YtgnmlnfddcnkbaaDoorY09
import Derived.DeepKeys4
import Derived.Maps.OwnSet
import Derived.Maps.Range
import Derived.RangeFuncNested
import Derived.RangeFuncBound
import Derived.RangeFuncCalls
import Derived.RangeFuncLeaves
import Derived.Shelf.Abstract
import Derived.Shelf.RegionOpen
import Derived.WalkKit
import Derived.OwnWalkIn
import Derived.TacticsInMore
import Derived.LoopNIn
import Derived.LoopIn
import Derived.Test.YtgnmlnfddcnkbaaDoorY03
import Derived.Test.YtgnmlnfddcnkbaaDoorY06
import Derived.OwnWalk
import Derived.KernelRfl
import Derived.Test.YtgnmlnfddcnkbaaDoorY02
import Derived.Test.YtgnmlnfddcnkbaaDoorY07
namespace Go.Proofs.YtgnmlnfddcnkbaaDoor
set_option linter.unusedSimpArgs false
set_option linter.unusedVariables false
set_option maxRecDepth 100000
open Go.RowKit

/-- A spot as a value and as a key. -/
def spotV (i a : Nat) : Value := .agg #[.int .i64 (i : Int), .int .i64 (a : Int)]
def spotL (i a : Nat) : Lit := .string (keyBytes [.int .i64 (i : Int), .int .i64 (a : Int)])
theorem spot_row : (120 : TypeId) < Tryd.prog.types.size := of_decide_eq_true (by kernel_rfl)
theorem spot_laid : laidOutB Tryd.prog = true := by kernel_rfl
theorem spot_wide : (match Tryd.prog.underlying 120 with | some (.array _ _) | some (.struct _) => true | _ => false) = true := by kernel_rfl
theorem spot_keyed : Maps.Keyed Tryd.prog 120 := Maps.Keyed.of_law (deep_law_laid spot_laid (m := 2) (by omega) spot_row (by kernel_rfl) spot_wide)
theorem spot_key (i a : Nat) (hi : i < 1000000) (ha : a < 1000000) : keyOf Tryd.prog 120 (spotV i a) = some (spotL i a) := by
  have hk : Tryd.prog.keyType 120 = true := by kernel_rfl
  have hf : (spotV i a).formed Tryd.prog 120 = true := by
    unfold spotV
    kernel_rfl
  obtain ⟨d, hd⟩ : ∃ d, Tryd.prog.types.size = d + 1 := ⟨Tryd.prog.types.size - 1, (Nat.sub_add_cancel (Nat.lt_of_le_of_lt (Nat.zero_le _) spot_row)).symm⟩
  have wi : (Lit.int .i64 (i : Int)).wf = true := WalkArith.wf_i64 (by omega)
  have wa : (Lit.int .i64 (a : Int)).wf = true := WalkArith.wf_i64 (by omega)
  have hc : Tryd.prog.cellsOf 120 = 2 := by kernel_rfl
  have hc1 : Tryd.prog.cellsOf 3 = 1 := by kernel_rfl
  unfold keyOf
  rw [Tryd.underlying120]
  simp only [hk, hf, Bool.and_self, if_true, hd]
  simp [spotV, spotL, Value.cells, Program.keyLits, Tryd.underlying120, Tryd.underlying3, hc, hc1, wi, wa]
/-- How an element of the map reads: as itself. -/
def rv (v : Value) : Option (DataW Value × List MemPlace) := some (.held v, [])
theorem zero_places (w : World) : (zeroValue 78).run Tryd.prog w = .ok (.agg #[.int .u64 0, .int .u64 0, .int .u64 0, .int .u64 0, .int .u64 0, .int .u64 0, .int .u64 0]) w := by kernel_rfl
/-- The map in block M holds at spots i a values x with ok i a x alone. -/
def Kn (w : World) (M : Nat) (ok : Nat → Nat → Value → Prop) : Prop :=
  ∃ D : DataW Value, w.ownsMap Tryd.prog 120 rv M (Maps.size D) D ∧ ∀ kl, Maps.has D kl = true → ∃ i a x, i < 60 ∧ a < 401 ∧ kl = spotL i a ∧ ok i a x ∧ ∀ z, D.atKey kl z = .held x
theorem Kn.made (w : World) (ok : Nat → Nat → Value → Prop) : Kn (w.alloc (.map #[] 0)) w.heap.size ok :=
  ⟨.map [], World.ownsMap_made w _ _ _, fun kl h => by simp [Maps.has] at h⟩
theorem Kn.lt {w : World} {M : Nat} {ok : Nat → Nat → Value → Prop} (h : Kn w M ok) : M < w.heap.size := by
  obtain ⟨D, h, _⟩ := h
  exact h.lt
theorem Kn.kept {w w' : World} {M : Nat} {ok : Nat → Nat → Value → Prop} {row : Option Nat} (h : Kn w M ok) (hg : w.grownBy w' row) (hne : some M ≠ row) : Kn w' M ok := by
  obtain ⟨D, h, hk⟩ := h
  exact ⟨D, h.kept hg hne, hk⟩
theorem Kn.heap {w : World} {M : Nat} {ok : Nat → Nat → Value → Prop} (h : Kn w M ok) : ∃ es clock, w.heap[M]? = some (.map es clock) := by
  obtain ⟨D, ⟨es, clock, hb, _⟩, _⟩ := h
  exact ⟨es, clock, hb⟩
theorem spot_inj {i a j b : Nat} (hi : i < 1000000) (ha : a < 1000000) (hj : j < 1000000) (hb : b < 1000000) (h : spotL i a = spotL j b) : i = j ∧ a = b := by
  have h1 := spot_key i a hi ha
  have h2 := spot_key j b hj hb
  rw [h] at h1
  have := spot_keyed.inj h1 h2
  unfold spotV at this
  simp at this
  omega
/-- What is looked up. -/
theorem Kn.look {w : World} {M : Nat} {ok : Nat → Nat → Value → Prop} (h : Kn w M ok) (i a : Nat) (hi : i < 60) (ha : a < 401) :
    (∃ x, ok i a x ∧ ∀ w' : World, w'.heap[M]? = w.heap[M]? → (Instr.lookup 116 (.map (some M)) (spotV i a) true).run Tryd.prog w' = .ok (.tuple #[x, .bool true]) w') ∨
    (∀ w' : World, w'.heap[M]? = w.heap[M]? → (Instr.lookup 116 (.map (some M)) (spotV i a) true).run Tryd.prog w' = .ok (.tuple #[.agg #[.int .u64 0, .int .u64 0, .int .u64 0, .int .u64 0, .int .u64 0, .int .u64 0, .int .u64 0], .bool false]) w') := by
  obtain ⟨D, h, hk⟩ := h
  have hkey := spot_key i a (by omega) (by omega)
  have hown : ∀ w' : World, w'.heap[M]? = w.heap[M]? → w'.ownsMap Tryd.prog 120 rv M (Maps.size D) D := fun w' e => by
    obtain ⟨es, clock, hb, r⟩ := h
    exact ⟨es, clock, e.trans hb, r⟩
  cases hh : Maps.has D (spotL i a) with
  | true =>
    obtain ⟨j, b, x, hj, hb, e, hx, hat⟩ := hk _ hh
    obtain ⟨rfl, rfl⟩ := spot_inj (by omega) (by omega) (by omega) (by omega) e
    refine Or.inl ⟨x, hx, fun w' e' => ?_⟩
    obtain ⟨v, ps, hrun, hv⟩ := (hown w' e').look_ok spot_keyed Tryd.underlying116 (zero_places w') (zd := .held _) (zp := []) rfl hkey
    rw [hat] at hv
    simp [rv] at hv
    rw [hh, hv.1] at hrun
    exact hrun
  | false =>
    refine Or.inr fun w' e' => ?_
    obtain ⟨v, ps, hrun, hv⟩ := (hown w' e').look_ok spot_keyed Tryd.underlying116 (zero_places w') (zd := .held _) (zp := []) rfl hkey
    rw [Maps.atKey_of_not_has hh] at hv
    simp [rv] at hv
    rw [hh, hv.1] at hrun
    exact hrun
theorem Kn.small {w : World} {M : Nat} {D : DataW Value} {n : Nat} (h : w.ownsMap Tryd.prog 120 rv M n D) (hk : ∀ kl, Maps.has D kl = true → ∃ i a, i < 60 ∧ a < 401 ∧ kl = spotL i a) : Maps.size D ≤ 24060 := by
  obtain ⟨es, rfl, hp, hl⟩ := h.entries spot_keyed
  have h1 : (es.map (·.1)).length ≤ 24060 := by
    refine pigeon (fun c => spotL (c / 401) (c % 401)) 24060 _ (List.pairwise_map.2 hp) (fun k hm => ?_)
    obtain ⟨q, hq, rfl⟩ := List.mem_map.1 hm
    have : Maps.has (DataW.map es) q.1 = true := by
      rw [Maps.has_eq, List.any_eq_true]
      exact ⟨q, hq, WideAt.sameKey_self (hl q hq)⟩
    obtain ⟨i, a, hi, ha, e⟩ := hk _ this
    refine ⟨i * 401 + a, by omega, ?_⟩
    rw [e]
    have e1 : (i * 401 + a) / 401 = i := by omega
    have e2 : (i * 401 + a) % 401 = a := by omega
    simp only [e1, e2]
  simpa [Maps.size] using h1
/-- What is stored. -/
theorem Kn.store {w : World} {M : Nat} {ok : Nat → Nat → Value → Prop} (h : Kn w M ok) (i a : Nat) (x : Value) (hi : i < 60) (ha : a < 401) (hx : ok i a x) :
    ∃ w', (Instr.mapUpdate 116 (.map (some M)) (spotV i a) x).run Tryd.prog w = .ok () w' ∧ Kn w' M ok ∧ w.grownBy w' (some M) := by
  obtain ⟨D, h, hk⟩ := h
  have hkey := spot_key i a (by omega) (by omega)
  have hs := Kn.small h (fun kl hh => by obtain ⟨i, a, x, h1, h2, h3, _⟩ := hk kl hh; exact ⟨i, a, h1, h2, h3⟩)
  obtain ⟨w', hrun, hown, hg⟩ := h.update spot_keyed Tryd.underlying116 (by unfold maxLen; omega) hkey (val := x) (d := .held x) (ps := []) rfl
  have hkl := spot_keyed.key hkey
  refine ⟨w', hrun, ⟨D.put (spotL i a) (.held x), ?_, fun kl hh => ?_⟩, hg⟩
  · obtain ⟨es, clock, hb, F, _, e⟩ := hown
    refine ⟨es, clock, hb, F, ?_, e⟩
    rw [e]
    simp [Maps.size, length_sorted]
  · by_cases e : kl = spotL i a
    · subst e
      exact ⟨i, a, x, hi, ha, rfl, hx, fun z => Maps.atKey_put_same h.isMap hkl _ _⟩
    · rw [Maps.has_put_other e] at hh
      obtain ⟨j, b, y, h1, h2, h3, h4, h5⟩ := hk kl hh
      exact ⟨j, b, y, h1, h2, h3, h4, fun z => by rw [Maps.atKey_put_other e]; exact h5 z⟩
end Go.Proofs.YtgnmlnfddcnkbaaDoor
namespace Go.Proofs.YtgnmlnfddcnkbaaDoor
set_option linter.unusedSimpArgs false
set_option linter.unusedVariables false
open Go.RowKit

variable {F : Fence} {n : Nat} {P : Program}

/-- What an iterator does that is a method's value: one by one it hands on xs; Tb: what it needs of each world. -/
def RunsOn {α : Type} (F : Fence) (n : Nat) (P : Program) (g : Nat) (fb : Array Value) (enc : α → Value) (Tb : World → Prop) (xs : List α) : Prop :=
  ∀ (l : Nat) (J : List α → World → Prop) (W : World), AbidesFrom W.heap.size J → (∀ pre W1, J pre W1 → Tb W1) →
    (∀ pre x rest W1, xs = pre ++ x :: rest → J pre W1 → YieldAt F (n - 1) P l #[enc x] W1 fun e W' => e = .returned (.bool true) ∧ J (pre ++ [x]) W') →
    J [] W → CallsIn F n P g (fb ++ #[.func (.yield l) #[] #[]]) W fun e W' => (∃ v, e = .returned v) ∧ J xs W'
/-- The body goes on. -/
def onPost {α : Type} (B : Nat) (I : List α → World → Prop) (xs : List α) (W : World) : Exit → Act → World → Prop
  | .normal, _, W' => KeepsFrom B W W' ∧ I xs W'
  | _, _, _ => False
theorem wpIn_runs {α : Type} {g : Operand} {ps : Array Tmp} {assign body : Code} {Q : Exit → Act → World → Prop} {a : Act} {w : World}
    (hro : F.round = none) (h1 : 1 ≤ n) (gf : Nat) (fb : Array Value) (hg : a.eval g = .func (.func gf) fb #[]) (hFg : F.fn gf) (eg : ∀ args w, (callFunc gf args).run P w = .ok (.enter gf args) w)
    (enc : α → Value) (Tb : World → Prop) (xs : List α) (hseq : RunsOn F (n - 1) P gf fb enc Tb xs) (hps : ps.size = 1)
    (I : List α → World → Prop) (hI : OwnFrom w.heap.size I) (hIT : ∀ pre W, I pre W → Tb W) (h0 : I [] w) (a₁ : α → Act)
    (hassign : ∀ (l : Nat) (x : α) (W : World) (K : Act → World → Prop), K (a₁ x) W →
      assign.wpIn (F.inRound l) (n - 1 - 1) P (Exit.then K (fun _ _ _ => False)) { tmps := (ps.zip #[enc x]).foldl (fun t (p, v) => t.setIfInBounds p v) a.tmps, defers := [] } W)
    (hbody : ∀ (l : Nat) (pre : List α) (x : α) (rest : List α) (W : World), xs = pre ++ x :: rest → I pre W → body.wpIn (F.inRound l) (n - 1 - 1) P (onPost w.heap.size I (pre ++ [x]) W) (a₁ x) W)
    (hdone : ∀ (D : Nat) (W : World), w.heap.size ≤ D → I xs W → W.heap[D]? = some (.deferred (some [])) → Q .normal { a with defers := { target := .collected D, args := #[] } :: a.defers } W) :
    (Code.rangeFunc g ps assign body).wpIn F n P Q a w := by
  refine wpIn_rangeFunc fun fn hfn => ?_
  rw [hro]
  -- the two blocks that the loop itself lays: for deferred calls at D, the record at L
  let D := w.heap.size
  let L := w.heap.size + 1
  let rec0 : LoopState → Option Code → Loop := fun st pe => { state := st, pending := pe, fn := fn, tmps := a.tmps, params := ps, assign := assign, body := body, defers := D }
  let V := (w.alloc (.deferred (some []))).alloc (.loop (rec0 .ready none))
  have hVL : V.heap[L]? = some (.loop (rec0 .ready none)) := by
    have := World.alloc_heap_new (w.alloc (.deferred (some []))) (.loop (rec0 .ready none))
    rwa [World.size_alloc] at this
  have hVD : V.heap[D]? = some (.deferred (some [])) := (Below.heap_alloc _ _ _ (by simp [D])).trans (World.alloc_heap_new w _)
  have hVI : I [] V := hI.alloc _ (hI.alloc _ h0)
  have hVs : V.heap.size = w.heap.size + 2 := by simp [V]
  refine ⟨L, [{ target := .collected D, args := #[] }], V, { target := .fn (.func gf) #[], args := fb ++ #[.func (.yield L) #[] #[]] }, V, gf, fb ++ #[.func (.yield L) #[] #[]], V, run_enterLoop_outer _ _ _ _ _, ?_, ?_, ?_, fun _ => h1, ?_⟩
  · simp only [resolve, hg]
    simp [go_sem, Deferred.ofValue]
  · intro f' hf'
    simp [Target.leads] at hf'
    subst hf'
    exact hFg
  · simp [invoke, go_sem, eg]
  · have key := hseq L (fun pre W => I pre W ∧ W.heap[L]? = some (.loop (rec0 .ready none)) ∧ W.heap[D]? = some (.deferred (some []))) V
      (fun s A B row hs hgr hr => by
        have hr' : ∀ r, row = some r → w.heap.size ≤ r ∧ ∃ o : Obj, A.heap[r]? = some o ∧ o.isCells = false := fun r e => by
          obtain ⟨h2, o, ho, hw⟩ := hr r e
          exact ⟨by omega, o, ho, Obj.not_cells_of_walk hw⟩
        exact ⟨hI s A B row hs.1 hgr hr', (grownBy_keeps hgr (fun r e => (hr r e).2) hs.2.1 rfl).trans hs.2.1, (grownBy_keeps hgr (fun r e => (hr r e).2) hs.2.2 rfl).trans hs.2.2⟩)
      (fun pre W h => hIT pre W h.1)
      (fun pre x rest W hx h => by
        obtain ⟨hi, hl, hd⟩ := h
        have hlt : L < W.heap.size := (Array.getElem?_eq_some_iff.1 hl).1
        have hy := run_yield (P := P) (args := #[enc x]) hl (by simp [rec0, hps])
        let Wb := W.putObj L (.loop { rec0 .ready none with state := .busy })
        have hbL : Wb.heap[L]? = some (.loop { rec0 .ready none with state := .busy }) := World.putObj_heap_same hlt
        have hbD : Wb.heap[D]? = some (.deferred (some [])) := (World.putObj_heap_other (by simp [D, L])).trans hd
        refine ⟨fn, _, assign, body, hy, roundIn_of_wpIn hfn (hassign L x W _ ⟨Wb, run_beginRound hl rfl, ?_⟩)⟩
        refine wpIn_mono (hbody L pre x rest Wb hx (hI.putObj _ hi (by simp [L]) hl rfl)) ?_
        intro e a3 W3 hp
        cases e with
        | normal =>
          obtain ⟨hk3, hi3⟩ := hp
          have hl3 := hk3.same L _ (by simp [L]) hbL rfl
          have hd3 := hk3.same D _ (Nat.le_refl _) hbD rfl
          exact ⟨_, _, run_endRound none hl3, rfl, hI.putObj _ hi3 (by simp [L]) hl3 rfl, World.putObj_heap_same (Array.getElem?_eq_some_iff.1 hl3).1, (World.putObj_heap_other (by simp [D, L])).trans hd3⟩
        | _ => exact hp.elim)
      ⟨hVI, hVL, hVD⟩
    refine key.mono ?_
    rintro e W2 ⟨⟨v, rfl⟩, hi, hl, hd⟩
    exact ⟨none, _, run_endLoop hl (by simp [rec0]), hdone D _ (Nat.le_refl _) (hI.putObj _ hi (by simp [L]) hl rfl) ((World.putObj_heap_other (by simp [D, L])).trans hd)⟩
end Go.Proofs.YtgnmlnfddcnkbaaDoor
namespace Go.Proofs.YtgnmlnfddcnkbaaDoor
set_option linter.unusedSimpArgs false
set_option linter.unusedVariables false
set_option maxRecDepth 100000
open Go.RowKit Go.Shelf
attribute [local go_sem] Oper.semAt_some

theorem el_split (p : Nat → Bool) (x N : Nat) (hx : x < N) (hp : p x = true) : ∃ rest, el p N = el p x ++ x :: rest := by
  obtain ⟨d, rfl⟩ : ∃ d, N = x + 1 + d := ⟨N - x - 1, by omega⟩
  refine ⟨(List.range d |>.map fun j => x + 1 + j).filter p, ?_⟩
  unfold el
  rw [List.range_add, List.range_succ, List.filter_append, List.filter_append]
  simp [hp]
set_option maxHeartbeats 2000000 in
theorem rises (n : Nat) (hn : 1 ≤ n) (p : Nat → Bool) : RunsOn Fence.wide n Tryd.prog 33 #[plV p] (fun x : Nat => Value.int .i64 (x : Int)) Tab (el p 448) := by
  intro l J W hJ hJT hY h0
  have hI7 : Hid _ := hid (idx7 p)
  unfold plV
  refine callsIn_of_wp Tryd.func33 rfl trivial ?_ rfl
  simp only [Tryd.ntmps33, List.size_toArray, List.length_cons, List.length_nil, Nat.reduceAdd, Nat.reduceSub, Array.replicate_succ, Array.replicate_zero, List.push_toArray, List.append_toArray, List.nil_append, List.cons_append]
  gi_wp2
  gi_loopw [8] (fun v wr => ∃ k : Nat, k ≤ 7 ∧ v = .int .i64 (k : Int) ∧ J (el p (64 * k)) wr) (fun v _ => 7 - (intOf v).toNat)
  case atStart =>
    exact ⟨0, by omega, rfl, hJ _ _ _ none h0 (World.grownBy_alloc _ _ _) (fun r e => by cases e)⟩
  case round =>
    obtain ⟨k, hk, rfl, hj⟩ := hrel
    by_cases hlt : k < 7
    · have i0 : (0 : Int) ≤ (k : Int) := by omega
      have i1 : (k : Int) < 7 := by omega
      have hqk := fun w => hI7.out k hlt w
      have hwd : wd p k = ((cutw (fun j => p (64 * k + j)) 0 : Nat) : Int) := by rw [cutw_zero]; rfl
      gi_wp2
      gi_loopw [5] (fun v wr => ∃ m : Nat, m ≤ 64 ∧ v = .int .u64 ((cutw (fun j => p (64 * k + j)) m : Nat) : Int) ∧ J (el p (64 * k + m)) wr) (fun v _ => (intOf v).toNat)
      case atStart =>
        exact ⟨0, by omega, rfl, hj⟩
      case round =>
        obtain ⟨m, hm, rfl, hj2⟩ := hrel
        by_cases hz : cutw (fun j => p (64 * k + j)) m = 0
        · have hz0 : ((cutw (fun j => p (64 * k + j)) m : Nat) : Int) = 0 := by omega
          have hj3 : J (el p (64 * (k + 1))) wr := by
            rw [el_skip' p (64 * k + m) (64 * (k + 1)) (by omega) (fun j h1 h2 => by
              have := cutw_none hz (j - 64 * k) (by omega) (by omega)
              rwa [show 64 * k + (j - 64 * k) = j by omega] at this)]
            exact hj2
          gi_wp2
          exact ⟨⟨k + 1, by omega, by go_num, hj3⟩, by simp [intOf]; omega⟩
        · obtain ⟨k0, hk0, h1, h2, h3, h4, h5⟩ := cutw_step hz
          have hlt64 : cutw (fun j => p (64 * k + j)) m < 18446744073709551616 := mkw64 _
          obtain ⟨rest, hrest⟩ := el_split p (64 * k + k0) 448 (by omega) h3
          have hj3 : J (el p (64 * k + k0)) wr := by
            rw [el_skip' p (64 * k + m) (64 * k + k0) (by omega) (fun j g1 g2 => by
              have := h4 (j - 64 * k) (by omega) (by omega)
              rwa [show 64 * k + (j - 64 * k) = j by omega] at this)]
            exact hj2
          obtain ⟨fn, tmps, assign, body, hy, hR⟩ := hY _ _ rest wr hrest hj3
          have hTz := tz_any _ hz hlt64 wr (hJT _ _ hj2)
          rw [← hk0] at hTz
          replace hTz := hid hTz
          have hnz : (((cutw (fun j => p (64 * k + j)) m : Nat) : Int) == 0) = false := by rw [beq_eq_false_iff_ne]; omega
          have ev : ((64 * k + k0 : Nat) : Int) = (k : Int) * 64 + (k0 : Int) := by omega
          rw [ev] at hy
          have hand : bits .and .u64 ((cutw (fun j => p (64 * k + j)) m : Nat) : Int) (((cutw (fun j => p (64 * k + j)) m : Nat) : Int) - 1) = ((cutw (fun j => p (64 * k + j)) (k0 + 1) : Nat) : Int) := by
            have e1 : ((cutw (fun j => p (64 * k + j)) m : Nat) : Int) - 1 = ((cutw (fun j => p (64 * k + j)) m - 1 : Nat) : Int) := by omega
            rw [e1, u64_and_nat _ _ hlt64 (by omega), h5]
          have hless : cutw (fun j => p (64 * k + j)) (k0 + 1) < cutw (fun j => p (64 * k + j)) m := by
            rw [← h5]
            have : cutw (fun j => p (64 * k + j)) m &&& (cutw (fun j => p (64 * k + j)) m - 1) ≤ cutw (fun j => p (64 * k + j)) m - 1 := Nat.and_le_right
            omega
          clear h5 hk0
          generalize hn2 : cutw (fun j => p (64 * k + j)) (k0 + 1) = n2 at hand hless
          generalize cutw (fun j => p (64 * k + j)) m = nn at *
          gi_wp2_with (refine ⟨trivial, ?_⟩; gi_at_call 58; refine (callsIn_wide.2 hTz.out).mono ?_; rintro e w' ⟨rfl, rfl⟩)
          refine hR.mono ?_
          rintro e W3 ⟨rfl, hJ3⟩
          gi_wp2
          exact ⟨⟨k0 + 1, by omega, by rw [hn2], by rw [← Nat.add_assoc, el_snoc p _ h3]; exact hJ3⟩, by simp [intOf]; omega⟩
    · have hk7 : k = 7 := by omega
      subst hk7
      gi_wp2
      go_end0
      exact ⟨⟨_, rfl⟩, hj⟩
theorem enters_rising : ∀ args w, (callFunc 33 args).run Tryd.prog w = .ok (.enter 33 args) w := fun _ _ => by kernel_rfl
end Go.Proofs.YtgnmlnfddcnkbaaDoor
namespace Go.Proofs.YtgnmlnfddcnkbaaDoor
set_option linter.unusedSimpArgs false
set_option linter.unusedVariables false
set_option maxRecDepth 100000
open Go.RowKit
def isCells (l : List Nat) : List Value := l.map fun x : Nat => Value.int .i64 (x : Int)
/-- A slice of the call's own that reads as the numbers l. -/
def IsOwn (w : World) (B : Nat) (v : Value) (l : List Nat) : Prop := w.ownsRow B 3 1 v l.length (isCells l)
theorem IsOwn.nil (w : World) (B : Nat) : IsOwn w B (.slice none 0 0) [] := ⟨rfl, Or.inl ⟨rfl, rfl⟩⟩
theorem IsOwn.isIn {w : World} {B : Nat} {v : Value} {l : List Nat} (h : IsOwn w B v l) (hm : l.length ≤ maxLen) : IsIn w v l := by
  rcases h.2 with ⟨hv, h0⟩ | ⟨g, cap, cur, hv, hb, hg, hc, _⟩
  · have e : l = [] := List.eq_nil_of_length_eq_zero h0
    subst e
    rw [hv]
    exact isIn_nil w
  · refine ⟨_, _, hv, hm, Or.inr ⟨g, 0, rfl, ?_, ?_⟩⟩
    · rcases Nat.lt_or_ge g w.heap.size with h' | h'
      · exact h'
      · rw [Array.getElem?_eq_none h'] at hg; cases hg
    · intro i x hx
      have := h.cells (g := g) (by rw [hv]; rfl) i (.int .i64 (x : Int)) (by simp [isCells, hx])
      rw [Addr.add_lit] at this
      exact this
theorem IsOwn.kept {w w' : World} {B : Nat} {v : Value} {l : List Nat} (h : IsOwn w B v l) (hb : Below w.heap.size w w') : IsOwn w' B v l := by
  refine World.ownsRow.kept (row := none) h ⟨hb.os, hb.tape, hb.output, hb.size, fun k hk _ => hb.block k hk⟩ ?_
  cases hv : v.ownBlock with
  | none => exact Or.inl rfl
  | some x => exact Or.inr (by simp)
theorem IsOwn.form {w : World} {B : Nat} {v : Value} {l : List Nat} (h : IsOwn w B v l) : ∃ a cap, v = .slice a l.length cap := by
  rcases h.2 with ⟨hv, h0⟩ | ⟨g, cap, cur, hv, _⟩
  · exact ⟨none, 0, by rw [hv, h0]⟩
  · exact ⟨_, _, hv⟩
theorem IsOwn.grown {w w' : World} {B : Nat} {v : Value} {l : List Nat} (h : IsOwn w B v l) (hB : B ≤ w.heap.size) (hg : w.grownBy w' v.ownBlock) : Below B w w' := by
  refine ⟨hg.os, hg.tape, hg.output, hg.size, fun k hk => hg.block k (by omega) ?_⟩
  intro e
  rcases h.2 with ⟨hv, _⟩ | ⟨b, cap, cur, hv, hb, _⟩
  · rw [hv] at e; cases e
  · rw [hv] at e
    injection e with e
    simp only at e
    omega
/-- append of one number, which lies in a new row. -/
theorem wpList_append_is {ops : Array Oper} {rest : List Oper} {o : Oper} {a : Act} {Q : Exit → Act → World → Prop} {w : World} (hgd : o.guard = none) (s x : Operand)
    (ho : o.op = .call { callee := .builtin .append, args := #[s, x], argTypes := #[34, 34] })
    (B : Nat) (v : Value) (hs : a.eval s = v) (l : List Nat) (hown : IsOwn w B v l) (g2 c2 n : Nat) (hx : a.eval x = .slice (some ⟨g2, 0, none⟩) 1 c2)
    (hnew : w.cell? ⟨g2, 0, none⟩ = some (.int .i64 (n : Int))) (hlen : l.length ≤ 1000000000) (hbase : B ≤ w.heap.size)
    (h : ∀ g cap w', IsOwn w' B (.slice (some ⟨g, 0, none⟩) (l.length + 1) cap) (l ++ [n]) → w.grownBy w' v.ownBlock → B ≤ g → g < w'.heap.size → wpList Tryd.prog ops Q rest (a.put o.dst (.slice (some ⟨g, 0, none⟩) (l.length + 1) cap)) w') : wpList Tryd.prog ops Q (o :: rest) a w := by
  have hinfo : (Tryd.prog.info? 3).map (fun i => (i.zero, i.size, i.bytes)) = some (some (.int .i64 0), 1, 8) := by kernel_rfl
  obtain ⟨i0, hi, hz0, hz1, hz2⟩ := info_parts hinfo
  refine wpList_append_lies w hgd s x 34 ho B 3 i0 _ 1 8 Tryd.underlying34 hi hz0 hz1 hz2 rfl (by decide) v l.length (isCells l) hs hown ⟨g2, 0, none⟩ 1 c2 (isCells [n]) hx rfl ?_ (by simp [isCells, Value.oneCell']) (by omega) (by unfold maxLen; omega) (by omega) hbase _ rfl ?_
  · intro j u hj
    cases j with
    | zero =>
      simp [isCells] at hj
      subst hj
      rw [Addr.add_lit]
      exact hnew
    | succ j => simp [isCells] at hj
  · intro g cap w' h1 h2 h3 h4
    have e : IsOwn w' B (.slice (some ⟨g, 0, none⟩) (l.length + 1) cap) (l ++ [n]) := by
      unfold IsOwn
      simpa [isCells] using h1
    have hg : B ≤ g := by
      rcases h3 with h3 | h3
      · rcases hown.2 with ⟨hv, _⟩ | ⟨g', cap', cur, hv, hb, _⟩
        · rw [hv] at h3; cases h3
        · rw [hv] at h3
          injection h3 with h3
          simp at h3
          omega
      · omega
    exact h g cap w' e h2 hg h4
end Go.Proofs.YtgnmlnfddcnkbaaDoor
namespace Go.Proofs.YtgnmlnfddcnkbaaDoor
set_option linter.unusedSimpArgs false
set_option linter.unusedVariables false
set_option maxRecDepth 100000
open Go.RowKit

/-- A reader: where it began, where it lies, its map, its nodes, its text. -/
structure Cx where
  W0 : World
  rb : Nat
  M : Nat
  b : Nat
  off : Nat
  cap : Nat
  ns : List Nd
  s : ByteArray
def Cx.v (c : Cx) : Value := .slice (some ⟨c.b, c.off, none⟩) c.ns.length c.cap
def Cx.S (c : Cx) : List UInt8 := c.s.data.toList
theorem Cx.S_len (c : Cx) : c.S.length = c.s.size := Array.length_toList
structure Cx.Good (c : Cx) : Prop where
  nsAt : NsAt c.W0 c.b c.off c.ns
  blt : c.b < c.W0.heap.size
  fault : faultL c.ns = 0
  wf : ∀ n ∈ c.ns, n.wf
  size : c.s.size ≤ 400
  tab : Tab c.W0
  hrb : c.W0.heap.size ≤ c.rb
  hM : c.W0.heap.size ≤ c.M
  ne : c.rb ≠ c.M
theorem Cx.Good.len {c : Cx} (h : c.Good) : c.ns.length ≤ 60 := ((faultL_zero c.ns).1 h.fault).1
/-- What may be known of a spot. -/
def Cx.ok (c : Cx) (i a : Nat) (x : Value) : Prop := ∃ (t : Rx) (p q : List Nd), t.Ok ∧ c.ns = p ++ t.flat ++ q ∧ p.length = i ∧ a ≤ c.s.size ∧ x = plV (fs c.S t a)
structure Cx.At (c : Cx) (w : World) : Prop where
  bel : Below c.W0.heap.size c.W0 w
  rd : w.heap[c.rb]? = some (.cells #[c.v, .string c.s, .map (some c.M)] 118 (0, 0))
  kn : Kn w c.M c.ok
theorem Cx.At.lt {c : Cx} {w : World} (h : c.At w) : c.rb < w.heap.size := by
  have := h.rd
  rcases Nat.lt_or_ge c.rb w.heap.size with h' | h'
  · exact h'
  · rw [Array.getElem?_eq_none h'] at this; cases this
theorem Cx.At.c0 {c : Cx} {w : World} (h : c.At w) : w.cell? ⟨c.rb, 0, none⟩ = some c.v := by rw [Lib.cell_of_heap h.rd]; rfl
theorem Cx.At.c1 {c : Cx} {w : World} (h : c.At w) : w.cell? ⟨c.rb, 1, none⟩ = some (.string c.s) := by rw [Lib.cell_of_heap h.rd]; rfl
theorem Cx.At.c2 {c : Cx} {w : World} (h : c.At w) : w.cell? ⟨c.rb, 2, none⟩ = some (.map (some c.M)) := by rw [Lib.cell_of_heap h.rd]; rfl
/-- Other blocks are turned, none of them the reader's. -/
theorem Cx.At.turn {c : Cx} {w w' : World} (h : c.At w) {row : Option Nat} (hg : w.grownBy w' row) (hr : ∀ r, row = some r → c.W0.heap.size ≤ r ∧ r ≠ c.rb ∧ r ≠ c.M) : c.At w' where
  bel := h.bel.grown hg h.bel.size (fun k e => (hr k e).1)
  rd := (hg.block c.rb h.lt (fun e => (hr _ e.symm).2.1 rfl)).trans h.rd
  kn := h.kn.kept hg (fun e => (hr _ e.symm).2.2 rfl)
theorem Cx.At.alloc {c : Cx} {w : World} (h : c.At w) (o : Obj) : c.At (w.alloc o) := h.turn (World.grownBy_alloc w o none) (fun r e => by cases e)
theorem Cx.At.drew {c : Cx} {w : World} (h : c.At w) : c.At w.drew := ⟨h.bel.drew, h.rd, by obtain ⟨D, h1, h2⟩ := h.kn; exact ⟨D, h1.drew, h2⟩⟩
theorem Cx.At.below {c : Cx} {w w' : World} (h : c.At w) (hb : Below w.heap.size w w') : c.At w' := h.turn (below_grown hb none) (fun r e => by cases e)
/-- What is asked of ends and look, at a tree that begins at node i, from place a. -/
def EndsOk (c : Cx) (t : Rx) (i a : Nat) : Prop := ∀ w, c.At w → Calls Tryd.prog 32 #[.pointer (some ⟨c.rb, 0, none⟩), .int .i64 (i : Int), .int .i64 (a : Int)] w fun e w' => e = .returned (plV (fs c.S t a)) ∧ c.At w' ∧ w.grownBy w' (some c.M)
def LookOk (c : Cx) (t : Rx) (i a : Nat) : Prop := ∀ w, c.At w → Calls Tryd.prog 57 #[.pointer (some ⟨c.rb, 0, none⟩), .int .i64 (i : Int), .int .i64 (a : Int)] w fun e w' => e = .returned (plV (fs c.S t a)) ∧ c.At w' ∧ w.grownBy w' (some c.M)
theorem Cx.ok_one {c : Cx} {t : Rx} (ht : t.Ok) {p q : List Nd} (hns : c.ns = p ++ t.flat ++ q) {a : Nat} {x : Value} (h : c.ok p.length a x) : x = plV (fs c.S t a) := by
  obtain ⟨u, p', q', hu, hns', hl, _, rfl⟩ := h
  rw [hns, List.append_assoc, List.append_assoc] at hns'
  obtain ⟨_, h2⟩ := List.append_inj hns' hl.symm
  obtain ⟨rfl, _⟩ := flat_pre t u ht hu q q' h2
  rfl
theorem grown_drew {w w' : World} {row : Option Nat} (h : w.grownBy w' row) : w.grownBy w'.drew row := ⟨h.os, h.tape, h.output, h.size, h.block⟩
/-- A block that is new is turned. -/
theorem grown_new {w w' w'' : World} {row : Option Nat} {r : Nat} (h : w.grownBy w' row) (k : w'.grownBy w'' (some r)) (hr : w.heap.size ≤ r) : w.grownBy w'' row :=
  ⟨k.os.trans h.os, k.tape.trans h.tape, k.output.trans h.output, Nat.le_trans h.size k.size, fun i hi hne => (k.block i (Nat.lt_of_lt_of_le hi h.size) (fun e => by cases e; omega)).trans (h.block i hi hne)⟩
theorem flat_lt {c : Cx} {t : Rx} {p q : List Nd} (hns : c.ns = p ++ t.flat ++ q) : p.length < c.ns.length := by
  rw [hns]
  have := t.flat_pos
  simp
  omega
end Go.Proofs.YtgnmlnfddcnkbaaDoor
namespace Go.Proofs.YtgnmlnfddcnkbaaDoor
set_option linter.unusedSimpArgs false
set_option linter.unusedVariables false
set_option maxRecDepth 100000
open Go.RowKit

/-- What End answers: the place, and the fault. -/
def endN (ns : List Nd) (i : Int) : Int := if faultL ns = 0 ∧ 0 ≤ i ∧ i < ns.length then endI (endE ns i.toNat) else 0
def endErr (ns : List Nd) (i : Int) : Int := if faultL ns = 0 then (if 0 ≤ i ∧ i < ns.length then 0 else 1) else faultL ns
theorem rexEnd_in (ns : List Nd) (i : Int) (h : faultL ns = 0) (h1 : 0 ≤ i) (h2 : i < ns.length) : endN ns i = endI (endE ns i.toNat) ∧ endErr ns i = 0 := by
  simp [endN, endErr, h, h1, h2]
theorem rexEnd_out (ns : List Nd) (i : Int) (h : faultL ns = 0) (h1 : ¬ (0 ≤ i ∧ i < ns.length)) : endN ns i = 0 ∧ endErr ns i = 1 := by
  rw [endN, endErr, if_neg (fun h2 => h1 h2.2), if_pos h, if_neg h1]
  exact ⟨rfl, rfl⟩
theorem rexEnd_bad (ns : List Nd) (i : Int) (h : ¬ faultL ns = 0) : endN ns i = 0 ∧ endErr ns i = faultL ns := by
  rw [endN, endErr, if_neg (fun h2 => h h2.1), if_neg h]
  exact ⟨rfl, rfl⟩
end Go.Proofs.YtgnmlnfddcnkbaaDoor
namespace Go.Proofs.YtgnmlnfddcnkbaaDoor
set_option linter.unusedSimpArgs false
set_option linter.unusedVariables false
set_option maxRecDepth 100000
open Go.RowKit

set_option maxHeartbeats 4000000 in
theorem rend_any (ns : List Nd) (v : Value) (i : Int) (w : World) (hN : NsIn w v ns) :
    Calls Tryd.prog 82 #[v, .int .i64 i] w fun e w' => e = .returned (.tuple #[.int .i64 (endN ns i), errV (endErr ns i)]) ∧ Below w.heap.size w w' := by
  have CC : Hid _ := rcheck_any ns v w hN
  by_cases hf : faultL ns = 0
  · obtain ⟨hl, hr, hv⟩ := (faultL_zero ns).1 hf
    by_cases hi : 0 ≤ i ∧ i < ns.length
    · obtain ⟨c1, c2⟩ := rexEnd_in ns i hf hi.1 hi.2
      rw [c1, c2]
      obtain ⟨j, rfl⟩ : ∃ j : Nat, i = (j : Int) := ⟨i.toNat, by omega⟩
      rw [Int.toNat_natCast]
      obtain ⟨k, hk⟩ := part_at ns hv j (by omega)
      obtain ⟨a, cap, rfl, hm, h | ⟨b, off, rfl, hlt, hn⟩⟩ := hN
      · subst h; rw [endE_nil] at hv; cases hv
      have C2 : Hid (∀ w', Below w.heap.size w w' → Calls Tryd.prog 46 #[.slice (some ⟨b, off, none⟩) ns.length cap, .int .i64 j] w' fun e w'' => e = .returned (.tuple #[.int .i64 k, .bool true]) ∧ w'' = w') := fun w' hb => behind_k ns b off cap hl w' (hn.below hb hlt) j _ k hk
      rw [hk, show endI (some k) = (k : Int) from rfl]
      rw [hf] at CC
      rw [show errV 0 = .nilIface from rfl] at CC ⊢
      have i0 : (0 : Int) ≤ (j : Int) := hi.1
      have i1 : (j : Int) < (ns.length : Int) := hi.2
      clear hr hv hn hf hk c1 c2 hi
      go_enter Tryd.func82, Tryd.ntmps82
      go_wp2_with fail
      refine Calls.mono CC.out ?_
      rintro e w1 ⟨rfl, hb⟩
      have B1 : Hid _ := hb
      clear hb
      go_wp2_with fail
      refine Calls.mono (C2.out _ B1.out) ?_
      rintro e w1 ⟨rfl, rfl⟩
      go_wp2
      go_ret2
      exact ⟨rfl, B1.out⟩
    · obtain ⟨c1, c2⟩ := rexEnd_out ns i hf hi
      rw [c1, c2]
      obtain ⟨a, cap, rfl, hm, _⟩ := hN
      rw [hf] at CC
      rw [show errV 0 = .nilIface from rfl] at CC
      rw [show errV 1 = .iface 45 (.int .i64 1) from rfl]
      clear hr hv hf c1 c2
      by_cases i0 : i < 0
      · clear hi
        go_enter Tryd.func82, Tryd.ntmps82
        go_wp2_with fail
        refine Calls.mono CC.out ?_
        rintro e w1 ⟨rfl, hb⟩
        have B1 : Hid _ := hb
        clear hb
        go_wp2
        go_ret2
        exact ⟨rfl, B1.out⟩
      · have i1 : (ns.length : Int) ≤ i := by omega
        clear hi
        go_enter Tryd.func82, Tryd.ntmps82
        go_wp2_with fail
        refine Calls.mono CC.out ?_
        rintro e w1 ⟨rfl, hb⟩
        have B1 : Hid _ := hb
        clear hb
        go_wp2
        go_ret2
        exact ⟨rfl, B1.out⟩
  · obtain ⟨c1, c2⟩ := rexEnd_bad ns i hf
    rw [c1, c2]
    obtain ⟨a, cap, rfl, hm, _⟩ := hN
    rw [show errV (faultL ns) = .iface 45 (.int .i64 (faultL ns)) from if_neg hf] at CC ⊢
    clear hf c1 c2
    generalize faultL ns = ft at *
    go_enter Tryd.func82, Tryd.ntmps82
    go_wp2_with fail
    refine Calls.mono CC.out ?_
    rintro e w1 ⟨rfl, hb⟩
    have B1 : Hid _ := hb
    clear hb
    go_wp2
    go_ret2
    exact ⟨rfl, B1.out⟩
end Go.Proofs.YtgnmlnfddcnkbaaDoor
namespace Go.Proofs.YtgnmlnfddcnkbaaDoor
set_option linter.unusedSimpArgs false
set_option linter.unusedVariables false
set_option maxRecDepth 100000
open Go.RowKit
set_option maxHeartbeats 1000000 in
theorem second_any {c : Cx} (hc : c.Good) {n : Nd} {a b : Rx} (ha : a.Ok) {p q : List Nd} (hns : c.ns = p ++ (Rx.two n a b).flat ++ q) (w : World) (hA : c.At w) :
    Calls Tryd.prog 72 #[.pointer (some ⟨c.rb, 0, none⟩), .int .i64 (p.length : Int)] w fun e w' => e = .returned (.int .i64 ((p.length + 1 + a.flat.length : Nat) : Int)) ∧ Below w.heap.size w w' := by
  have hl := hc.len
  have h1 := flat_lt hns
  have hN : NsIn w c.v c.ns := ⟨_, _, rfl, by unfold maxLen; omega, Or.inr ⟨c.b, c.off, rfl, Nat.lt_of_lt_of_le hc.blt hA.bel.size, hc.nsAt.below hA.bel hc.blt⟩⟩
  have hns2 : c.ns = (p ++ [n]) ++ a.flat ++ (b.flat ++ q) := by rw [hns]; simp [Rx.flat]
  have hend : endN c.ns ((p.length : Int) + 1) = ((p.length + 1 + a.flat.length : Nat) : Int) ∧ endErr c.ns ((p.length : Int) + 1) = 0 := by
    have hlen : p.length + 1 < c.ns.length := by
      rw [hns2]
      have := a.flat_pos
      simp
      omega
    have := rexEnd_in c.ns ((p.length : Int) + 1) hc.fault (by omega) (by omega)
    refine ⟨?_, this.2⟩
    rw [this.1, show (((p.length : Int) + 1).toNat) = (p ++ [n]).length by simp]
    rw [hns2, endE_mid a ha (p ++ [n]) (b.flat ++ q)]
    simp [endI]
  have C := hid (rend_any c.ns c.v ((p.length : Int) + 1) w hN)
  rw [hend.1, hend.2] at C
  rw [show errV 0 = .nilIface from rfl] at C
  have c0 := hA.c0
  unfold Cx.v at c0 C
  clear hns hns2 hend hN
  go_enter Tryd.func72, Tryd.ntmps72
  go_wp2_with fail
  refine C.out.mono ?_
  rintro e w1 ⟨rfl, hb⟩
  go_wp2
  go_ret
  exact ⟨rfl, hb⟩
set_option maxHeartbeats 1000000 in
theorem mcheck_any (ns : List Nd) (v : Value) (s : ByteArray) (w : World) (hN : NsIn w v ns) (hs : s.size ≤ maxLen) :
    Calls Tryd.prog 29 #[v, .string s] w fun e w' => e = .returned (errV (meanF ns s.size)) ∧ Below w.heap.size w w' := by
  have C := hid (rcheck_any ns v w hN)
  obtain ⟨a, cap, rfl, hm, _⟩ := hN
  unfold meanF
  by_cases hf : faultL ns = 0
  · rw [if_pos hf]
    rw [hf] at C
    rw [show errV 0 = .nilIface from rfl] at C
    by_cases h4 : 400 < s.size
    · rw [if_pos h4]
      rw [show errV 3 = .iface 45 (.int .i64 3) from rfl]
      have h4' : (400 : Int) < (s.size : Int) := by omega
      go_enter Tryd.func29, Tryd.ntmps29
      go_wp2_with fail
      refine C.out.mono ?_
      rintro e w1 ⟨rfl, hb⟩
      go_wp2
      go_ret
      exact ⟨rfl, hb⟩
    · rw [if_neg h4]
      rw [show errV 0 = .nilIface from rfl]
      have h4' : (s.size : Int) ≤ 400 := by omega
      go_enter Tryd.func29, Tryd.ntmps29
      go_wp2_with fail
      refine C.out.mono ?_
      rintro e w1 ⟨rfl, hb⟩
      go_wp2
      go_ret
      exact ⟨rfl, hb⟩
  · rw [if_neg hf]
    rw [show errV (faultL ns) = .iface 45 (.int .i64 (faultL ns)) by unfold errV; rw [if_neg hf]] at C ⊢
    go_enter Tryd.func29, Tryd.ntmps29
    go_wp2_with fail
    refine C.out.mono ?_
    rintro e w1 ⟨rfl, hb⟩
    go_wp2
    go_ret
    exact ⟨rfl, hb⟩
set_option maxHeartbeats 1000000 in
theorem reading_any (a : Option Addr) (l cap : Nat) (s : ByteArray) (w : World) :
    Calls Tryd.prog 31 #[.slice a l cap, .string s] w fun e w' => e = .returned (.pointer (some ⟨w.heap.size + 1, 0, none⟩)) ∧ w' = (w.alloc (.map #[] 0)).alloc (.cells #[.slice a l cap, .string s, .map (some w.heap.size)] 118) := by
  have hmm := @run_makeMap Tryd.prog
  go_enter Tryd.func31, Tryd.ntmps31
  go_wp2
  go_ret
  exact ⟨rfl, rfl⟩
end Go.Proofs.YtgnmlnfddcnkbaaDoor
namespace Go.Proofs.YtgnmlnfddcnkbaaDoor
set_option linter.unusedSimpArgs false
set_option linter.unusedVariables false
set_option maxRecDepth 100000
open Go.RowKit
set_option maxHeartbeats 4000000 in
theorem look_begin {c : Cx} (hc : c.Good) (n : Nd)  {p q : List Nd} (hns : c.ns = p ++ (Rx.leaf n).flat ++ q) (hop : n.op = 8) (a : Nat) (ha : a ≤ c.s.size) : LookOk c (Rx.leaf n) p.length a := by
  intro w hA
  have hlen := hc.len
  have hsz := hc.size
  have hpl := flat_lt hns
  have hW := hA.bel.size
  have hA0 := hA.lt
  have hM0 := hA.kn.lt
  have hn : c.ns[p.length]? = some n := by rw [hns, List.append_assoc, List.getElem?_append_right (Nat.le_refl _)]; simp [Rx.flat]
  have hZ : Hp (w.alloc (.cells #[.int .u64 0, .int .u64 0, .int .u64 0, .int .u64 0, .int .u64 0, .int .u64 0, .int .u64 0] 78)) w.heap.size noP := Hp.zero _ _ rfl
  have hA1 : c.At (w.alloc (.cells #[.int .u64 0, .int .u64 0, .int .u64 0, .int .u64 0, .int .u64 0, .int .u64 0, .int .u64 0] 78)) := hA.alloc _
  have hG1 : w.grownBy (w.alloc (.cells #[.int .u64 0, .int .u64 0, .int .u64 0, .int .u64 0, .int .u64 0, .int .u64 0, .int .u64 0] 78)) (some c.M) := World.grownBy_alloc _ _ _
  have hz1 : (w.alloc (.cells #[.int .u64 0, .int .u64 0, .int .u64 0, .int .u64 0, .int .u64 0, .int .u64 0, .int .u64 0] 78)).heap.size = w.heap.size + 1 := by simp
  obtain ⟨n0, n1, n2, n3, n4⟩ := (hc.nsAt.below hA1.bel hc.blt) _ _ hn
  rw [hop] at n0
  have c0 := hA1.c0
  have c1 := hA1.c1
  unfold Cx.v at c0
  have i0 : (0 : Int) ≤ (p.length : Int) := by omega
  have i1 : (p.length : Int) < (c.ns.length : Int) := by omega
  have s0 : (c.s.size : Int) ≤ 400 := by omega
  have hres : fs c.S (.leaf n) a = whenP ((a : Int) == 0) a := by
    rw [fs_begin n a hop]
    congr 1
    rw [Bool.eq_iff_iff]; simp
  clear hn hns hop n1 n2 n3 n4
  go_enter Tryd.func57, Tryd.ntmps57
  go_wp2_with fail
  refine (pwhen_any ((a : Int) == 0) a (by omega) _).mono ?_
  rintro e w1 ⟨rfl, hb⟩
  have hZ1 := hZ.below hb hZ.lt
  have hA2 := hA1.below hb
  have hG2 : w.grownBy w1 (some c.M) := hG1.trans (below_grown hb _)
  clear hZ n0 c0 c1
  obtain ⟨d0, d1, d2, d3, d4, d5, d6⟩ := hZ1.all
  obtain ⟨f0, f1, f2, f3, f4, f5, f6⟩ := hZ1.frz
  unfold plV
  go_wp2
  have hq := hZ1.put7 (whenP ((a : Int) == 0) a)
  obtain ⟨e0, e1, e2, e3, e4, e5, e6⟩ := hq.all
  refine bodyPost_ret (v := plV (whenP ((a : Int) == 0) a)) (by simp [results, Tryd.results57, go_sem, plV, e0, e1, e2, e3, e4, e5, e6]) rfl ⟨by rw [hres], hA2.turn (grown_put7 _ _ _) (fun r e => by cases e; exact ⟨hW, by omega, by omega⟩), grown_new hG2 (grown_put7 _ _ _) (Nat.le_refl _)⟩
set_option maxHeartbeats 4000000 in
theorem look_end {c : Cx} (hc : c.Good) (n : Nd)  {p q : List Nd} (hns : c.ns = p ++ (Rx.leaf n).flat ++ q) (hop : n.op = 9) (a : Nat) (ha : a ≤ c.s.size) : LookOk c (Rx.leaf n) p.length a := by
  intro w hA
  have hlen := hc.len
  have hsz := hc.size
  have hpl := flat_lt hns
  have hW := hA.bel.size
  have hA0 := hA.lt
  have hM0 := hA.kn.lt
  have hn : c.ns[p.length]? = some n := by rw [hns, List.append_assoc, List.getElem?_append_right (Nat.le_refl _)]; simp [Rx.flat]
  have hZ : Hp (w.alloc (.cells #[.int .u64 0, .int .u64 0, .int .u64 0, .int .u64 0, .int .u64 0, .int .u64 0, .int .u64 0] 78)) w.heap.size noP := Hp.zero _ _ rfl
  have hA1 : c.At (w.alloc (.cells #[.int .u64 0, .int .u64 0, .int .u64 0, .int .u64 0, .int .u64 0, .int .u64 0, .int .u64 0] 78)) := hA.alloc _
  have hG1 : w.grownBy (w.alloc (.cells #[.int .u64 0, .int .u64 0, .int .u64 0, .int .u64 0, .int .u64 0, .int .u64 0, .int .u64 0] 78)) (some c.M) := World.grownBy_alloc _ _ _
  have hz1 : (w.alloc (.cells #[.int .u64 0, .int .u64 0, .int .u64 0, .int .u64 0, .int .u64 0, .int .u64 0, .int .u64 0] 78)).heap.size = w.heap.size + 1 := by simp
  obtain ⟨n0, n1, n2, n3, n4⟩ := (hc.nsAt.below hA1.bel hc.blt) _ _ hn
  rw [hop] at n0
  have c0 := hA1.c0
  have c1 := hA1.c1
  unfold Cx.v at c0
  have i0 : (0 : Int) ≤ (p.length : Int) := by omega
  have i1 : (p.length : Int) < (c.ns.length : Int) := by omega
  have s0 : (c.s.size : Int) ≤ 400 := by omega
  have hres : fs c.S (.leaf n) a = whenP ((a : Int) == (c.s.size : Int)) a := by
    rw [fs_end n a hop, Cx.S_len]
    congr 1
    rw [Bool.eq_iff_iff]; simp; omega
  clear hn hns hop n1 n2 n3 n4
  go_enter Tryd.func57, Tryd.ntmps57
  go_wp2_with fail
  refine (pwhen_any ((a : Int) == (c.s.size : Int)) a (by omega) _).mono ?_
  rintro e w1 ⟨rfl, hb⟩
  have hZ1 := hZ.below hb hZ.lt
  have hA2 := hA1.below hb
  have hG2 : w.grownBy w1 (some c.M) := hG1.trans (below_grown hb _)
  clear hZ n0 c0 c1
  obtain ⟨d0, d1, d2, d3, d4, d5, d6⟩ := hZ1.all
  obtain ⟨f0, f1, f2, f3, f4, f5, f6⟩ := hZ1.frz
  unfold plV
  go_wp2
  have hq := hZ1.put7 (whenP ((a : Int) == (c.s.size : Int)) a)
  obtain ⟨e0, e1, e2, e3, e4, e5, e6⟩ := hq.all
  refine bodyPost_ret (v := plV (whenP ((a : Int) == (c.s.size : Int)) a)) (by simp [results, Tryd.results57, go_sem, plV, e0, e1, e2, e3, e4, e5, e6]) rfl ⟨by rw [hres], hA2.turn (grown_put7 _ _ _) (fun r e => by cases e; exact ⟨hW, by omega, by omega⟩), grown_new hG2 (grown_put7 _ _ _) (Nat.le_refl _)⟩
set_option maxHeartbeats 4000000 in
theorem look_empty {c : Cx} (hc : c.Good) (n : Nd)  {p q : List Nd} (hns : c.ns = p ++ (Rx.leaf n).flat ++ q) (hop : n.op = 2) (a : Nat) (ha : a ≤ c.s.size) : LookOk c (Rx.leaf n) p.length a := by
  intro w hA
  have hlen := hc.len
  have hsz := hc.size
  have hpl := flat_lt hns
  have hW := hA.bel.size
  have hA0 := hA.lt
  have hM0 := hA.kn.lt
  have hn : c.ns[p.length]? = some n := by rw [hns, List.append_assoc, List.getElem?_append_right (Nat.le_refl _)]; simp [Rx.flat]
  have hZ : Hp (w.alloc (.cells #[.int .u64 0, .int .u64 0, .int .u64 0, .int .u64 0, .int .u64 0, .int .u64 0, .int .u64 0] 78)) w.heap.size noP := Hp.zero _ _ rfl
  have hA1 : c.At (w.alloc (.cells #[.int .u64 0, .int .u64 0, .int .u64 0, .int .u64 0, .int .u64 0, .int .u64 0, .int .u64 0] 78)) := hA.alloc _
  have hG1 : w.grownBy (w.alloc (.cells #[.int .u64 0, .int .u64 0, .int .u64 0, .int .u64 0, .int .u64 0, .int .u64 0, .int .u64 0] 78)) (some c.M) := World.grownBy_alloc _ _ _
  have hz1 : (w.alloc (.cells #[.int .u64 0, .int .u64 0, .int .u64 0, .int .u64 0, .int .u64 0, .int .u64 0, .int .u64 0] 78)).heap.size = w.heap.size + 1 := by simp
  obtain ⟨n0, n1, n2, n3, n4⟩ := (hc.nsAt.below hA1.bel hc.blt) _ _ hn
  rw [hop] at n0
  have c0 := hA1.c0
  have c1 := hA1.c1
  unfold Cx.v at c0
  have i0 : (0 : Int) ≤ (p.length : Int) := by omega
  have i1 : (p.length : Int) < (c.ns.length : Int) := by omega
  have s0 : (c.s.size : Int) ≤ 400 := by omega
  have hres : fs c.S (.leaf n) a = whenP true a := fs_empty n a (by rw [Cx.S_len]; exact ha) (by omega) (by omega) (by omega)
  clear hn hns hop n1 n2 n3 n4
  go_enter Tryd.func57, Tryd.ntmps57
  go_wp2_with fail
  refine (pwhen_any true a (by omega) _).mono ?_
  rintro e w1 ⟨rfl, hb⟩
  have hZ1 := hZ.below hb hZ.lt
  have hA2 := hA1.below hb
  have hG2 : w.grownBy w1 (some c.M) := hG1.trans (below_grown hb _)
  clear hZ n0 c0 c1
  obtain ⟨d0, d1, d2, d3, d4, d5, d6⟩ := hZ1.all
  obtain ⟨f0, f1, f2, f3, f4, f5, f6⟩ := hZ1.frz
  unfold plV
  go_wp2
  have hq := hZ1.put7 (whenP true a)
  obtain ⟨e0, e1, e2, e3, e4, e5, e6⟩ := hq.all
  refine bodyPost_ret (v := plV (whenP true a)) (by simp [results, Tryd.results57, go_sem, plV, e0, e1, e2, e3, e4, e5, e6]) rfl ⟨by rw [hres], hA2.turn (grown_put7 _ _ _) (fun r e => by cases e; exact ⟨hW, by omega, by omega⟩), grown_new hG2 (grown_put7 _ _ _) (Nat.le_refl _)⟩
end Go.Proofs.YtgnmlnfddcnkbaaDoor

/- Package mean: a set of places hands on its places, rising. append, of a number. The library's Collect over a set of places. The reader of package mean in memory, and what is asked of its calls. Package rex: mayBeNothing, Empty. -/
import Derived.Test.YtajkkmnojfghoaaDoorY08
import Derived.Test.YtajkkmnojfghoaaDoorY03
import Derived.Test.YtajkkmnojfghoaaDoorY04
import Derived.OwnWalk
import Derived.KernelRfl
import Derived.Test.YtajkkmnojfghoaaDoorY02
import Derived.Test.YtajkkmnojfghoaaDoorY05
namespace Go.Proofs.YtajkkmnojfghoaaDoor
set_option linter.unusedSimpArgs false
set_option linter.unusedVariables false
set_option maxRecDepth 100000
open Go.RowKit Go.Shelf
attribute [local go_sem] Oper.semAt_some

theorem el_split (p : Nat → Bool) (x N : Nat) (hx : x < N) (hp : p x = true) : ∃ rest, el p N = el p x ++ x :: rest := by
  obtain ⟨d, rfl⟩ : ∃ d, N = x + 1 + d := ⟨N - x - 1, by omega⟩
  refine ⟨(List.range d |>.map fun j => x + 1 + j).filter p, ?_⟩
  unfold el
  rw [List.range_add, List.range_succ, List.filter_append, List.filter_append]
  simp [hp]
set_option maxHeartbeats 2000000 in
theorem rises (n : Nat) (hn : 1 ≤ n) (p : Nat → Bool) : RunsOn Fence.wide n Tryd.prog 67 #[plV p] (fun x : Nat => Value.int .i64 (x : Int)) Tab (el p 448) := by
  intro l J W hJ hJT hY h0
  have hI7 : Hid _ := hid (idx7 p)
  unfold plV
  refine callsIn_of_wp Tryd.func67 rfl trivial ?_ rfl
  simp only [Tryd.ntmps67, List.size_toArray, List.length_cons, List.length_nil, Nat.reduceAdd, Nat.reduceSub, Array.replicate_succ, Array.replicate_zero, List.push_toArray, List.append_toArray, List.nil_append, List.cons_append]
  gi_wp2
  gi_loopw [8] (fun v wr => ∃ k : Nat, k ≤ 7 ∧ v = .int .i64 (k : Int) ∧ J (el p (64 * k)) wr) (fun v _ => 7 - (intOf v).toNat)
  case atStart =>
    exact ⟨0, by omega, rfl, hJ _ _ _ none h0 (World.grownBy_alloc _ _ _) (fun r e => by cases e)⟩
  case round =>
    obtain ⟨k, hk, rfl, hj⟩ := hrel
    by_cases hlt : k < 7
    · have i0 : (0 : Int) ≤ (k : Int) := by omega
      have i1 : (k : Int) < 7 := by omega
      have hqk := fun w => hI7.out k hlt w
      have hwd : wd p k = ((cutw (fun j => p (64 * k + j)) 0 : Nat) : Int) := by rw [cutw_zero]; rfl
      gi_wp2
      gi_loopw [5] (fun v wr => ∃ m : Nat, m ≤ 64 ∧ v = .int .u64 ((cutw (fun j => p (64 * k + j)) m : Nat) : Int) ∧ J (el p (64 * k + m)) wr) (fun v _ => (intOf v).toNat)
      case atStart =>
        exact ⟨0, by omega, rfl, hj⟩
      case round =>
        obtain ⟨m, hm, rfl, hj2⟩ := hrel
        by_cases hz : cutw (fun j => p (64 * k + j)) m = 0
        · have hz0 : ((cutw (fun j => p (64 * k + j)) m : Nat) : Int) = 0 := by omega
          have hj3 : J (el p (64 * (k + 1))) wr := by
            rw [el_skip' p (64 * k + m) (64 * (k + 1)) (by omega) (fun j h1 h2 => by
              have := cutw_none hz (j - 64 * k) (by omega) (by omega)
              rwa [show 64 * k + (j - 64 * k) = j by omega] at this)]
            exact hj2
          gi_wp2
          exact ⟨⟨k + 1, by omega, by go_num, hj3⟩, by simp [intOf]; omega⟩
        · obtain ⟨k0, hk0, h1, h2, h3, h4, h5⟩ := cutw_step hz
          have hlt64 : cutw (fun j => p (64 * k + j)) m < 18446744073709551616 := mkw64 _
          obtain ⟨rest, hrest⟩ := el_split p (64 * k + k0) 448 (by omega) h3
          have hj3 : J (el p (64 * k + k0)) wr := by
            rw [el_skip' p (64 * k + m) (64 * k + k0) (by omega) (fun j g1 g2 => by
              have := h4 (j - 64 * k) (by omega) (by omega)
              rwa [show 64 * k + (j - 64 * k) = j by omega] at this)]
            exact hj2
          obtain ⟨fn, tmps, assign, body, hy, hR⟩ := hY _ _ rest wr hrest hj3
          have hTz := tz_any _ hz hlt64 wr (hJT _ _ hj2)
          rw [← hk0] at hTz
          replace hTz := hid hTz
          have hnz : (((cutw (fun j => p (64 * k + j)) m : Nat) : Int) == 0) = false := by rw [beq_eq_false_iff_ne]; omega
          have ev : ((64 * k + k0 : Nat) : Int) = (k : Int) * 64 + (k0 : Int) := by omega
          rw [ev] at hy
          have hand : bits .and .u64 ((cutw (fun j => p (64 * k + j)) m : Nat) : Int) (((cutw (fun j => p (64 * k + j)) m : Nat) : Int) - 1) = ((cutw (fun j => p (64 * k + j)) (k0 + 1) : Nat) : Int) := by
            have e1 : ((cutw (fun j => p (64 * k + j)) m : Nat) : Int) - 1 = ((cutw (fun j => p (64 * k + j)) m - 1 : Nat) : Int) := by omega
            rw [e1, u64_and_nat _ _ hlt64 (by omega), h5]
          have hless : cutw (fun j => p (64 * k + j)) (k0 + 1) < cutw (fun j => p (64 * k + j)) m := by
            rw [← h5]
            have : cutw (fun j => p (64 * k + j)) m &&& (cutw (fun j => p (64 * k + j)) m - 1) ≤ cutw (fun j => p (64 * k + j)) m - 1 := Nat.and_le_right
            omega
          clear h5 hk0
          generalize hn2 : cutw (fun j => p (64 * k + j)) (k0 + 1) = n2 at hand hless
          generalize cutw (fun j => p (64 * k + j)) m = nn at *
          gi_wp2_with (refine ⟨trivial, ?_⟩; gi_at_call 87; refine (callsIn_wide.2 hTz.out).mono ?_; rintro e w' ⟨rfl, rfl⟩)
          refine hR.mono ?_
          rintro e W3 ⟨rfl, hJ3⟩
          gi_wp2
          exact ⟨⟨k0 + 1, by omega, by rw [hn2], by rw [← Nat.add_assoc, el_snoc p _ h3]; exact hJ3⟩, by simp [intOf]; omega⟩
    · have hk7 : k = 7 := by omega
      subst hk7
      gi_wp2
      go_end0
      exact ⟨⟨_, rfl⟩, hj⟩
end Go.Proofs.YtajkkmnojfghoaaDoor
namespace Go.Proofs.YtajkkmnojfghoaaDoor
set_option linter.unusedSimpArgs false
set_option linter.unusedVariables false
set_option maxRecDepth 100000
open Go.RowKit
def isCells (l : List Nat) : List Value := l.map fun x : Nat => Value.int .i64 (x : Int)
/-- A slice of the call's own that reads as the numbers l. -/
def IsOwn (w : World) (B : Nat) (v : Value) (l : List Nat) : Prop := w.ownsRow B 3 1 v l.length (isCells l)
theorem IsOwn.nil (w : World) (B : Nat) : IsOwn w B (.slice none 0 0) [] := ⟨rfl, Or.inl ⟨rfl, rfl⟩⟩
theorem IsOwn.isIn {w : World} {B : Nat} {v : Value} {l : List Nat} (h : IsOwn w B v l) (hm : l.length ≤ maxLen) : IsIn w v l := by
  rcases h.2 with ⟨hv, h0⟩ | ⟨g, cap, cur, hv, hb, hg, hc, _⟩
  · have e : l = [] := List.eq_nil_of_length_eq_zero h0
    subst e
    rw [hv]
    exact isIn_nil w
  · refine ⟨_, _, hv, hm, Or.inr ⟨g, 0, rfl, ?_, ?_⟩⟩
    · rcases Nat.lt_or_ge g w.heap.size with h' | h'
      · exact h'
      · rw [Array.getElem?_eq_none h'] at hg; cases hg
    · intro i x hx
      have := h.cells (g := g) (by rw [hv]; rfl) i (.int .i64 (x : Int)) (by simp [isCells, hx])
      rw [Addr.add_lit] at this
      exact this
theorem IsOwn.kept {w w' : World} {B : Nat} {v : Value} {l : List Nat} (h : IsOwn w B v l) (hb : Below w.heap.size w w') : IsOwn w' B v l := by
  refine World.ownsRow.kept (row := none) h ⟨hb.os, hb.tape, hb.output, hb.size, fun k hk _ => hb.block k hk⟩ ?_
  cases hv : v.ownBlock with
  | none => exact Or.inl rfl
  | some x => exact Or.inr (by simp)
theorem IsOwn.form {w : World} {B : Nat} {v : Value} {l : List Nat} (h : IsOwn w B v l) : ∃ a cap, v = .slice a l.length cap := by
  rcases h.2 with ⟨hv, h0⟩ | ⟨g, cap, cur, hv, _⟩
  · exact ⟨none, 0, by rw [hv, h0]⟩
  · exact ⟨_, _, hv⟩
theorem IsOwn.grown {w w' : World} {B : Nat} {v : Value} {l : List Nat} (h : IsOwn w B v l) (hB : B ≤ w.heap.size) (hg : w.grownBy w' v.ownBlock) : Below B w w' := by
  refine ⟨hg.os, hg.tape, hg.output, hg.size, fun k hk => hg.block k (by omega) ?_⟩
  intro e
  rcases h.2 with ⟨hv, _⟩ | ⟨b, cap, cur, hv, hb, _⟩
  · rw [hv] at e; cases e
  · rw [hv] at e
    injection e with e
    simp only at e
    omega
/-- append of one number, which lies in a new row. -/
theorem wpList_append_is {ops : Array Oper} {rest : List Oper} {o : Oper} {a : Act} {Q : Exit → Act → World → Prop} {w : World} (hgd : o.guard = none) (s x : Operand)
    (ho : o.op = .call { callee := .builtin .append, args := #[s, x], argTypes := #[60, 60] })
    (B : Nat) (v : Value) (hs : a.eval s = v) (l : List Nat) (hown : IsOwn w B v l) (g2 c2 n : Nat) (hx : a.eval x = .slice (some ⟨g2, 0, none⟩) 1 c2)
    (hnew : w.cell? ⟨g2, 0, none⟩ = some (.int .i64 (n : Int))) (hlen : l.length ≤ 1000000000) (hbase : B ≤ w.heap.size)
    (h : ∀ g cap w', IsOwn w' B (.slice (some ⟨g, 0, none⟩) (l.length + 1) cap) (l ++ [n]) → w.grownBy w' v.ownBlock → B ≤ g → g < w'.heap.size → wpList Tryd.prog ops Q rest (a.put o.dst (.slice (some ⟨g, 0, none⟩) (l.length + 1) cap)) w') : wpList Tryd.prog ops Q (o :: rest) a w := by
  have hinfo : (Tryd.prog.info? 3).map (fun i => (i.zero, i.size, i.bytes)) = some (some (.int .i64 0), 1, 8) := by kernel_rfl
  obtain ⟨i0, hi, hz0, hz1, hz2⟩ := info_parts hinfo
  refine wpList_append_lies w hgd s x 60 ho B 3 i0 _ 1 8 Tryd.underlying60 hi hz0 hz1 hz2 rfl (by decide) v l.length (isCells l) hs hown ⟨g2, 0, none⟩ 1 c2 (isCells [n]) hx rfl ?_ (by simp [isCells, Value.oneCell']) (by omega) (by unfold maxLen; omega) (by omega) hbase _ rfl ?_
  · intro j u hj
    cases j with
    | zero =>
      simp [isCells] at hj
      subst hj
      rw [Addr.add_lit]
      exact hnew
    | succ j => simp [isCells] at hj
  · intro g cap w' h1 h2 h3 h4
    have e : IsOwn w' B (.slice (some ⟨g, 0, none⟩) (l.length + 1) cap) (l ++ [n]) := by
      unfold IsOwn
      simpa [isCells] using h1
    have hg : B ≤ g := by
      rcases h3 with h3 | h3
      · rcases hown.2 with ⟨hv, _⟩ | ⟨g', cap', cur, hv, hb, _⟩
        · rw [hv] at h3; cases h3
        · rw [hv] at h3
          injection h3 with h3
          simp at h3
          omega
      · omega
    exact h g cap w' e h2 hg h4
end Go.Proofs.YtajkkmnojfghoaaDoor
namespace Go.Proofs.YtajkkmnojfghoaaDoor
set_option linter.unusedSimpArgs false
set_option linter.unusedVariables false
set_option maxRecDepth 100000
open Go.RowKit Go.Shelf
attribute [local go_sem] Oper.semAt_some

theorem enters_rising : ∀ args w, (callFunc 67 args).run Tryd.prog w = .ok (.enter 67 args) w := fun _ _ => by kernel_rfl
set_option maxHeartbeats 2000000 in
theorem appendSeq_in (n : Nat) (hn : 3 ≤ n) (p : Nat → Bool) (w : World) (hT : Tab w) :
    CallsIn Fence.wide n Tryd.prog 85 #[.slice none 0 0, .func (.func 67) #[plV p] #[]] w fun e W' => ∃ u, e = .returned u ∧ IsOwn W' w.heap.size u (el p 448) ∧ Below w.heap.size w W' := by
  have hinfo : (Tryd.prog.info? 3).map (fun i => (i.zero, i.size, i.bytes)) = some (some (.int .i64 0), 1, 8) := by kernel_rfl
  obtain ⟨i0, hi, hz0, hz1, hz2⟩ := info_parts hinfo
  have hel : (el p 448).length ≤ 448 := el_len p 448
  refine callsIn_of_wp_marks Tryd.func85 rfl trivial ?_ rfl
  simp only [Tryd.ntmps85, List.size_toArray, List.length_cons, List.length_nil, Nat.reduceAdd, Nat.reduceSub, Array.replicate_succ, Array.replicate_zero, List.push_toArray, List.append_toArray, List.nil_append, List.cons_append]
  gi_wp2
  have bO := Boxed.new w 60 (.slice none 0 0)
  have hB0 : Below w.heap.size w (w.alloc (.cells #[.slice none 0 0] 60)) := (Below.refl _ w).alloc (Nat.le_refl _) _
  refine wpIn_runs rfl (by omega) 67 #[plV p] rfl trivial enters_rising (fun x : Nat => Value.int .i64 (x : Int)) Tab (el p 448) (rises (n - 1) (by omega) p) rfl
    (fun pre W => (∃ v, Boxed W w.heap.size 60 v ∧ W.ownsRow w.heap.size 3 1 v pre.length (isCells pre) ∧ True) ∧ Below w.heap.size w W)
    (OwnFrom.and (Own.from (holdsRow_own w.heap.size w.heap.size 60 3 1 (fun pre : List Nat => pre.length) (fun pre => isCells pre) (fun pre v => True)) _) (ownFrom_below (Nat.le_refl _) (by simp)))
    (fun pre W h => hT.below h.2 (Nat.le_refl _))
    ⟨⟨_, bO, World.ownsRow_nil _ _ _ _, trivial⟩, hB0⟩
    (fun x => { tmps := #[.slice none 0 0, .func (.func 67) #[plV p] #[], .pointer (some ⟨w.heap.size, 0, none⟩), undef, .slice none 0 0, .int .i64 (x : Int), .func (.func 67) #[plV p] #[], .int .i64 (x : Int), undef, undef, undef, undef, undef], defers := [] }) ?assign ?body ?done
  case assign =>
    intro l x W K hK
    gi_wp2
    exact hK
  case body =>
    rintro l pre x rest W hx ⟨⟨v, hv, hrow, _⟩, hB⟩
    have hc := hv.cell
    have hpl : pre.length < 448 := by
      have := congrArg List.length hx
      simp at this
      omega
    gi_wp2_with (gi_at_builtin; refine wpListIn_append_own _ rfl _ _ 60 rfl w.heap.size 3 i0 (.int .i64 0) 1 8 Tryd.underlying60 hi hz0 hz1 hz2 rfl (by decide) _ _ _ rfl (hrow.alloc _) ⟨W.heap.size, 0, none⟩ 1 1 [.int .i64 (x : Int)] rfl rfl (cell_one_new _ _ _) (by simp [Value.oneCell']) (by unfold maxLen; omega) (by omega) (by have := hB.size; simp; omega) ?_; intro v' w1 hown' hgrow _; obtain ⟨g', cap', rfl⟩ := ownsRow_succ hown'; obtain ⟨hv1, hv2, hr2, hk2, hb2⟩ := hv.appended (by decide) hrow hB.size (Nat.le_refl _) hown' hgrow; have hc1 := hv1.cell; have hf1 := hv1.frozen)
    exact ⟨hk2.from _, ⟨_, hv2, by simpa [isCells] using hr2, trivial⟩, hB.trans hb2⟩
  case done =>
    rintro D W hD ⟨⟨v, hv, hrow, _⟩, hB⟩ hK
    have hc := hv.cell
    gi_wp2
    refine ⟨by simp, .inl ⟨_, _, rfl, run_takeDeferred hK, ?_⟩⟩
    exact ⟨_, results_tmp rfl _ _ _, v, rfl, ownsRow_putObj hrow _ hK rfl, hB.trans (belowK_b (w := w) (Nat.le_refl _) W D _ _ (by simp at hD; omega) hK rfl rfl)⟩
theorem collect_any (p : Nat → Bool) (w : World) (hT : Tab w) :
    Calls Tryd.prog 64 #[.func (.func 67) #[plV p] #[]] w fun e W' => ∃ u, e = .returned u ∧ IsIn W' u (el p 448) ∧ Below w.heap.size w W' := by
  have C := hid ((callsIn_wide (n := 3)).1 (appendSeq_in 3 (by omega) p w hT))
  have hel : (el p 448).length ≤ 448 := el_len p 448
  go_enter Tryd.func64, Tryd.ntmps64
  go_wp2_with fail
  refine C.out.mono ?_
  rintro e w1 ⟨u, rfl, hu, hb⟩
  obtain ⟨a, cap, rfl⟩ := hu.form
  go_wp2
  go_ret
  exact ⟨_, rfl, hu.isIn (by unfold maxLen; omega), hb⟩
end Go.Proofs.YtajkkmnojfghoaaDoor
namespace Go.Proofs.YtajkkmnojfghoaaDoor
set_option linter.unusedSimpArgs false
set_option linter.unusedVariables false
set_option maxRecDepth 100000
open Go.RowKit

/-- A reader: where it began, where it lies, its map, its nodes, its text. -/
structure Cx where
  W0 : World
  rb : Nat
  M : Nat
  b : Nat
  off : Nat
  cap : Nat
  ns : List Nd
  s : ByteArray
def Cx.v (c : Cx) : Value := .slice (some ⟨c.b, c.off, none⟩) c.ns.length c.cap
def Cx.S (c : Cx) : List UInt8 := c.s.data.toList
theorem Cx.S_len (c : Cx) : c.S.length = c.s.size := Array.length_toList
structure Cx.Good (c : Cx) : Prop where
  nsAt : NsAt c.W0 c.b c.off c.ns
  blt : c.b < c.W0.heap.size
  fault : faultL c.ns = 0
  wf : ∀ n ∈ c.ns, n.wf
  size : c.s.size ≤ 400
  tab : Tab c.W0
  hrb : c.W0.heap.size ≤ c.rb
  hM : c.W0.heap.size ≤ c.M
  ne : c.rb ≠ c.M
theorem Cx.Good.len {c : Cx} (h : c.Good) : c.ns.length ≤ 60 := ((faultL_zero c.ns).1 h.fault).1
/-- What may be known of a spot. -/
def Cx.ok (c : Cx) (i a : Nat) (x : Value) : Prop := ∃ (t : Rx) (p q : List Nd), t.Ok ∧ c.ns = p ++ t.flat ++ q ∧ p.length = i ∧ a ≤ c.s.size ∧ x = plV (fs c.S t a)
structure Cx.At (c : Cx) (w : World) : Prop where
  bel : Below c.W0.heap.size c.W0 w
  rd : w.heap[c.rb]? = some (.cells #[c.v, .string c.s, .map (some c.M)] 132 (0, 0))
  kn : Kn w c.M c.ok
theorem Cx.At.lt {c : Cx} {w : World} (h : c.At w) : c.rb < w.heap.size := by
  have := h.rd
  rcases Nat.lt_or_ge c.rb w.heap.size with h' | h'
  · exact h'
  · rw [Array.getElem?_eq_none h'] at this; cases this
theorem Cx.At.c0 {c : Cx} {w : World} (h : c.At w) : w.cell? ⟨c.rb, 0, none⟩ = some c.v := by rw [Lib.cell_of_heap h.rd]; rfl
theorem Cx.At.c1 {c : Cx} {w : World} (h : c.At w) : w.cell? ⟨c.rb, 1, none⟩ = some (.string c.s) := by rw [Lib.cell_of_heap h.rd]; rfl
theorem Cx.At.c2 {c : Cx} {w : World} (h : c.At w) : w.cell? ⟨c.rb, 2, none⟩ = some (.map (some c.M)) := by rw [Lib.cell_of_heap h.rd]; rfl
/-- Other blocks are turned, none of them the reader's. -/
theorem Cx.At.turn {c : Cx} {w w' : World} (h : c.At w) {row : Option Nat} (hg : w.grownBy w' row) (hr : ∀ r, row = some r → c.W0.heap.size ≤ r ∧ r ≠ c.rb ∧ r ≠ c.M) : c.At w' where
  bel := h.bel.grown hg h.bel.size (fun k e => (hr k e).1)
  rd := (hg.block c.rb h.lt (fun e => (hr _ e.symm).2.1 rfl)).trans h.rd
  kn := h.kn.kept hg (fun e => (hr _ e.symm).2.2 rfl)
theorem Cx.At.alloc {c : Cx} {w : World} (h : c.At w) (o : Obj) : c.At (w.alloc o) := h.turn (World.grownBy_alloc w o none) (fun r e => by cases e)
theorem Cx.At.drew {c : Cx} {w : World} (h : c.At w) : c.At w.drew := ⟨h.bel.drew, h.rd, by obtain ⟨D, h1, h2⟩ := h.kn; exact ⟨D, h1.drew, h2⟩⟩
theorem Cx.At.below {c : Cx} {w w' : World} (h : c.At w) (hb : Below w.heap.size w w') : c.At w' := h.turn (below_grown hb none) (fun r e => by cases e)
/-- What is asked of ends and look, at a tree that begins at node i, from place a. -/
def EndsOk (c : Cx) (t : Rx) (i a : Nat) : Prop := ∀ w, c.At w → Calls Tryd.prog 66 #[.pointer (some ⟨c.rb, 0, none⟩), .int .i64 (i : Int), .int .i64 (a : Int)] w fun e w' => e = .returned (plV (fs c.S t a)) ∧ c.At w' ∧ w.grownBy w' (some c.M)
def LookOk (c : Cx) (t : Rx) (i a : Nat) : Prop := ∀ w, c.At w → Calls Tryd.prog 86 #[.pointer (some ⟨c.rb, 0, none⟩), .int .i64 (i : Int), .int .i64 (a : Int)] w fun e w' => e = .returned (plV (fs c.S t a)) ∧ c.At w' ∧ w.grownBy w' (some c.M)
theorem Cx.ok_one {c : Cx} {t : Rx} (ht : t.Ok) {p q : List Nd} (hns : c.ns = p ++ t.flat ++ q) {a : Nat} {x : Value} (h : c.ok p.length a x) : x = plV (fs c.S t a) := by
  obtain ⟨u, p', q', hu, hns', hl, _, rfl⟩ := h
  rw [hns, List.append_assoc, List.append_assoc] at hns'
  obtain ⟨_, h2⟩ := List.append_inj hns' hl.symm
  obtain ⟨rfl, _⟩ := flat_pre t u ht hu q q' h2
  rfl
theorem grown_drew {w w' : World} {row : Option Nat} (h : w.grownBy w' row) : w.grownBy w'.drew row := ⟨h.os, h.tape, h.output, h.size, h.block⟩
/-- A block that is new is turned. -/
theorem grown_new {w w' w'' : World} {row : Option Nat} {r : Nat} (h : w.grownBy w' row) (k : w'.grownBy w'' (some r)) (hr : w.heap.size ≤ r) : w.grownBy w'' row :=
  ⟨k.os.trans h.os, k.tape.trans h.tape, k.output.trans h.output, Nat.le_trans h.size k.size, fun i hi hne => (k.block i (Nat.lt_of_lt_of_le hi h.size) (fun e => by cases e; omega)).trans (h.block i hi hne)⟩
theorem flat_lt {c : Cx} {t : Rx} {p q : List Nd} (hns : c.ns = p ++ t.flat ++ q) : p.length < c.ns.length := by
  rw [hns]
  have := t.flat_pos
  simp
  omega
end Go.Proofs.YtajkkmnojfghoaaDoor
namespace Go.Proofs.YtajkkmnojfghoaaDoor
set_option linter.unusedSimpArgs false
set_option linter.unusedVariables false
set_option maxRecDepth 100000
open Go.RowKit

/-- The place behind a part that is whole. -/
theorem behind_k (ns : List Nd) (b off cap : Nat) (hm : ns.length ≤ 60) (w : World) (hN : NsAt w b off ns) (i f k : Nat) (h : endF ns f i = some k) :
    Calls Tryd.prog 54 #[.slice (some ⟨b, off, none⟩) ns.length cap, .int .i64 i] w fun e w' => e = .returned (.tuple #[.int .i64 k, .bool true]) ∧ w' = w := by
  have g := endF_gt ns f i k h
  have h1 := behind_at ns b off cap i (by unfold maxLen; omega) (by omega) (by omega) w hN
  obtain ⟨e1, e2⟩ := end_beh ns f i k h
  rw [e1, e2] at h1
  exact h1
set_option maxHeartbeats 4000000 in
theorem mayBe_at (ns : List Nd) (hr : ∀ n ∈ ns, 1 ≤ n.op ∧ n.op ≤ 9) (b off cap : Nat) (hm : ns.length ≤ 60) (w : World) (hN : NsAt w b off ns) : ∀ (f i j : Nat), f ≤ ns.length + 1 → endF ns f i = some j →
    Calls Tryd.prog 56 #[.slice (some ⟨b, off, none⟩) ns.length cap, .int .i64 i] w fun e w' => e = .returned (.bool (empF ns f i)) ∧ w' = w := by
  have HB : Hid _ := behind_k ns b off cap hm w hN
  intro f
  induction f with
  | zero => intro i j _ h; simp [endF] at h
  | succ f ih =>
    intro i j hf h
    have IH := (show Hid _ from ih)
    clear ih
    obtain ⟨n, hn, hil, hc⟩ := part_cases ns f i j h
    have hop := hr n (List.mem_of_getElem? hn)
    have HC := (show Hid _ from hc)
    have HE : Hid _ := empF_at ns f i n hn
    obtain ⟨c0, _⟩ := hN i n hn
    have i0 : (0 : Int) ≤ (i : Int) := by omega
    have i1 : (i : Int) < (ns.length : Int) := by omega
    have hs := arg_succ i
    have HS := (show Hid _ from hs)
    clear hc hn h hs
    obtain ⟨op, c⟩ := n
    simp only at *
    have h9 : op = 1 ∨ op = 2 ∨ op = 3 ∨ op = 4 ∨ op = 5 ∨ op = 6 ∨ op = 7 ∨ op = 8 ∨ op = 9 := by omega
    clear hop
    rcases h9 with rfl | rfl | rfl | rfl | rfl | rfl | rfl | rfl | rfl
    · go_enter Tryd.func56, Tryd.ntmps56
      go_wp2
      go_ret
      exact ⟨by rw [HE.out]; rfl, rfl⟩
    · go_enter Tryd.func56, Tryd.ntmps56
      go_wp2
      go_ret
      exact ⟨by rw [HE.out]; rfl, rfl⟩
    · obtain ⟨k, hk1, hk2⟩ : ∃ k, endF ns f (i + 1) = some k ∧ endF ns f k = some j := by
        rcases HC.out with ⟨h0, _⟩ | ⟨h0, _⟩ | ⟨_, h0⟩
        · simp [prt] at h0
        · simp [prt] at h0
        · exact h0
      have HX : Hid (empF ns (f + 1) i = (empF ns f (i + 1) && empF ns f k)) := by
        show _ = _
        rw [HE.out, endE_of ns f (i + 1) k (by omega) hk1]; rfl
      have c1 := IH.out (i + 1) k (by omega) hk1
      have c2 := HB.out (i + 1) f k hk1
      have c3 := IH.out k j (by omega) hk2
      rw [HS.out] at c1 c2
      have C1 := (show Hid _ from c1)
      have C2 := (show Hid _ from c2)
      have C3 := (show Hid _ from c3)
      clear c1 c2 c3 hk1 hk2 HC HE HB IH HS
      generalize empF ns f (i + 1) = x at *
      generalize empF ns f k = y at *
      cases x
      · go_enter Tryd.func56, Tryd.ntmps56
        go_wp2_with fail
        refine Calls.mono C2.out ?_
        rintro e w1 ⟨rfl, rfl⟩
        go_wp2_with fail
        refine Calls.mono C1.out ?_
        rintro e w1 ⟨rfl, rfl⟩
        go_wp2
        go_ret
        exact ⟨by rw [HX.out]; rfl, rfl⟩
      · go_enter Tryd.func56, Tryd.ntmps56
        go_wp2_with fail
        refine Calls.mono C2.out ?_
        rintro e w1 ⟨rfl, rfl⟩
        go_wp2_with fail
        refine Calls.mono C1.out ?_
        rintro e w1 ⟨rfl, rfl⟩
        go_wp2_with fail
        refine Calls.mono C3.out ?_
        rintro e w1 ⟨rfl, rfl⟩
        go_wp2
        go_ret
        exact ⟨by rw [HX.out]; rfl, rfl⟩
    · obtain ⟨k, hk1, hk2⟩ : ∃ k, endF ns f (i + 1) = some k ∧ endF ns f k = some j := by
        rcases HC.out with ⟨h0, _⟩ | ⟨h0, _⟩ | ⟨_, h0⟩
        · simp [prt] at h0
        · simp [prt] at h0
        · exact h0
      have HX : Hid (empF ns (f + 1) i = (empF ns f (i + 1) || empF ns f k)) := by
        show _ = _
        rw [HE.out, endE_of ns f (i + 1) k (by omega) hk1]; rfl
      have c1 := IH.out (i + 1) k (by omega) hk1
      have c2 := HB.out (i + 1) f k hk1
      have c3 := IH.out k j (by omega) hk2
      rw [HS.out] at c1 c2
      have C1 := (show Hid _ from c1)
      have C2 := (show Hid _ from c2)
      have C3 := (show Hid _ from c3)
      clear c1 c2 c3 hk1 hk2 HC HE HB IH HS
      generalize empF ns f (i + 1) = x at *
      generalize empF ns f k = y at *
      cases x
      · go_enter Tryd.func56, Tryd.ntmps56
        go_wp2_with fail
        refine Calls.mono C2.out ?_
        rintro e w1 ⟨rfl, rfl⟩
        go_wp2_with fail
        refine Calls.mono C1.out ?_
        rintro e w1 ⟨rfl, rfl⟩
        go_wp2_with fail
        refine Calls.mono C3.out ?_
        rintro e w1 ⟨rfl, rfl⟩
        go_wp2
        go_ret
        exact ⟨by rw [HX.out]; rfl, rfl⟩
      · go_enter Tryd.func56, Tryd.ntmps56
        go_wp2_with fail
        refine Calls.mono C2.out ?_
        rintro e w1 ⟨rfl, rfl⟩
        go_wp2_with fail
        refine Calls.mono C1.out ?_
        rintro e w1 ⟨rfl, rfl⟩
        go_wp2
        go_ret
        exact ⟨by rw [HX.out]; rfl, rfl⟩
    · go_enter Tryd.func56, Tryd.ntmps56
      go_wp2
      go_ret
      exact ⟨by rw [HE.out]; rfl, rfl⟩
    · have hk1 : endF ns f (i + 1) = some j := by
        rcases HC.out with ⟨h0, _⟩ | ⟨_, h0⟩ | ⟨h0, _⟩
        · simp [prt] at h0
        · exact h0
        · simp [prt] at h0
      have HX : Hid (empF ns (f + 1) i = empF ns f (i + 1)) := by
        show _ = _
        rw [HE.out]; rfl
      have c1 := IH.out (i + 1) j (by omega) hk1
      rw [HS.out] at c1
      have C1 := (show Hid _ from c1)
      clear c1 hk1 HC HE HB IH HS
      go_enter Tryd.func56, Tryd.ntmps56
      go_wp2_with fail
      refine Calls.mono C1.out ?_
      rintro e w1 ⟨rfl, rfl⟩
      go_wp2
      go_ret
      exact ⟨by rw [HX.out]; rfl, rfl⟩
    · go_enter Tryd.func56, Tryd.ntmps56
      go_wp2
      go_ret
      exact ⟨by rw [HE.out]; rfl, rfl⟩
    · go_enter Tryd.func56, Tryd.ntmps56
      go_wp2
      go_ret
      exact ⟨by rw [HE.out]; rfl, rfl⟩
    · go_enter Tryd.func56, Tryd.ntmps56
      go_wp2
      go_ret
      exact ⟨by rw [HE.out]; rfl, rfl⟩
set_option maxHeartbeats 4000000 in
theorem rempty_any (ns : List Nd) (v : Value) (w : World) (hN : NsIn w v ns) :
    Calls Tryd.prog 29 #[v] w fun e w' => e = .returned (.tuple #[.bool (decide (faultL ns = 0) && empE ns), errV (faultL ns)]) ∧ Below w.heap.size w w' := by
  have CC : Hid _ := rcheck_any ns v w hN
  by_cases hf : faultL ns = 0
  · obtain ⟨hl, hr, hv⟩ := (faultL_zero ns).1 hf
    obtain ⟨a, cap, rfl, hm, h | ⟨b, off, rfl, hlt, hn⟩⟩ := hN
    · subst h; rw [endE_nil] at hv; cases hv
    have C2 : Hid (∀ w', Below w.heap.size w w' → Calls Tryd.prog 56 #[.slice (some ⟨b, off, none⟩) ns.length cap, .int .i64 0] w' fun e w'' => e = .returned (.bool (empE ns)) ∧ w'' = w') := fun w' hb =>
      mayBe_at ns (fun n hn => (hr n hn).1) b off cap hl w' (hn.below hb hlt) (ns.length + 1) 0 ns.length (Nat.le_refl _) hv
    rw [hf] at CC ⊢
    rw [decide_eq_true rfl, Bool.true_and]
    rw [show errV 0 = .nilIface from rfl] at CC ⊢
    clear hl hr hv hn hf
    generalize empE ns = em at *
    go_enter Tryd.func29, Tryd.ntmps29
    go_wp2_with fail
    refine Calls.mono CC.out ?_
    rintro e w1 ⟨rfl, hb⟩
    have B1 : Hid _ := hb
    clear hb
    go_wp2_with fail
    refine Calls.mono (C2.out _ B1.out) ?_
    rintro e w1 ⟨rfl, rfl⟩
    go_wp2
    go_ret2
    exact ⟨rfl, B1.out⟩
  · obtain ⟨a, cap, rfl, hm, _⟩ := hN
    rw [decide_eq_false hf, Bool.false_and]
    rw [show errV (faultL ns) = .iface 25 (.int .i64 (faultL ns)) from if_neg hf] at CC ⊢
    clear hf
    generalize faultL ns = ft at *
    go_enter Tryd.func29, Tryd.ntmps29
    go_wp2_with fail
    refine Calls.mono CC.out ?_
    rintro e w1 ⟨rfl, hb⟩
    have B1 : Hid _ := hb
    clear hb
    go_wp2
    go_ret2
    exact ⟨rfl, B1.out⟩
end Go.Proofs.YtajkkmnojfghoaaDoor

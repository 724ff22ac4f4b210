/- Package sim: IsDone. A step as a value; two steps are the same. append, of a number. What a loop's body, or a closure, leaves as it lay: all but one box, the row that the box names, and some blocks. Package sim: the closure that goes all ways at a place. -/
import Derived.Test.YtejbififfceamaaGreatDoorY23
import Derived.Test.YtejbififfceamaaGreatDoorY21
import Derived.Test.YtejbififfceamaaGreatDoorY09
import Derived.Test.YtejbififfceamaaGreatDoorY20
import Derived.OwnWalk
import Derived.KernelRfl
import Derived.RangeFuncBox
import Derived.RangeFuncWrites
import Derived.RangeFuncFrom
namespace Go.Proofs.YtejbififfceamaaGreatDoor
set_option linter.unusedSimpArgs false
set_option linter.unusedVariables false
set_option maxRecDepth 100000
open Go.RowKit Go.Shelf
attribute [local go_sem] Oper.semAt_some
/-- A program's ways, as a value. -/
abbrev wyV (b off n cap : Nat) : Value := .agg #[.slice (some ⟨b, off, none⟩) n cap]
theorem el_one {ss : List St} {p : Nat → Bool} (hp : Sub ss p) {pre rest : List Nat} {x : Nat} (h : el p 256 = pre ++ x :: rest) : p x = true ∧ x < ss.length := by
  have : x ∈ el p 256 := by rw [h]; simp
  have := (el_mem p 256 x).1 this
  exact ⟨this.2, hp x this.2⟩
/-- A store into a box leaves what the loop keeps of deferred calls. -/
theorem boxed_def {W : World} {b D : Nat} {t : TypeId} {v : Value} (h : Boxed W b t v) (u : Value) (hK : W.heap[D]? = some (.deferred (some []))) : (W.setCell ⟨b, 0, none⟩ u).heap[D]? = some (.deferred (some [])) := by
  have hne : b ≠ D := fun e => by
    rw [← e, show W.heap[b]? = _ from h] at hK
    cases hK
  exact (Below.heap_setCell W ⟨b, 0, none⟩ u D (fun e => hne e.symm)).trans hK
theorem Boxed.putK {W : World} {b D : Nat} {t : TypeId} {v : Value} (h : Boxed W b t v) (hK : W.heap[D]? = some (.deferred (some []))) (o : Obj) : Boxed (W.putObj D o) b t v := by
  have hne : b ≠ D := fun e => by
    rw [← e, show W.heap[b]? = _ from h] at hK
    cases hK
  exact (World.putObj_heap_other hne).trans h
set_option maxHeartbeats 4000000 in
theorem sdone_in (ss : List St) (hl : ss.length ≤ 200) (b off cap : Nat) (p : Nat → Bool) (hp : Sub ss p) (w : World) (hT : Tab w) (hlt : b < w.heap.size) (hN : SsAt w b off ss) :
    CallsIn Fence.wide 3 Tryz.prog 137 #[wyV b off ss.length cap, stV p] w fun e w' => e = .returned (.bool (donF ss p)) ∧ Below w.heap.size w w' := by
  refine callsIn_of_wp_marks Tryz.func137 rfl trivial ?_ rfl
  simp only [Tryz.ntmps137, List.size_toArray, List.length_cons, List.length_nil, Nat.reduceAdd, Nat.reduceSub, Array.replicate_succ, Array.replicate_zero, List.push_toArray, List.append_toArray, List.nil_append, List.cons_append]
  unfold stV
  gi_wp2_with fail
  obtain ⟨W0, hW0⟩ : ∃ W0, W0 = ((w.alloc (.cells #[.slice (some ⟨b, off, none⟩) ss.length cap] 160)).alloc (.cells #[.int .u64 (wd p 0), .int .u64 (wd p 1), .int .u64 (wd p 2), .int .u64 (wd p 3)] 207)).alloc (.cells #[.bool false] 4) := ⟨_, rfl⟩
  have hB0 : Below w.heap.size w W0 := by rw [hW0]; exact ((((Below.refl _ w).alloc (Nat.le_refl _) _).alloc (by simp) _).alloc (by simp; omega) _)
  have hs0 : W0.heap.size = w.heap.size + 3 := by rw [hW0]; simp
  have hb1 : Boxed W0 w.heap.size 160 (.slice (some ⟨b, off, none⟩) ss.length cap) := by
    rw [hW0]; exact (Below.heap_alloc _ _ _ (by simp; omega)).trans ((Below.heap_alloc _ _ _ (by simp)).trans (World.alloc_heap_new w _))
  have hb2 : Boxed W0 (w.heap.size + 1 + 1) 4 (.bool false) := by
    rw [hW0]
    have := World.alloc_heap_new ((w.alloc (.cells #[.slice (some ⟨b, off, none⟩) ss.length cap] 160)).alloc (.cells #[.int .u64 (wd p 0), .int .u64 (wd p 1), .int .u64 (wd p 2), .int .u64 (wd p 3)] 207)) (.cells #[.bool false] 4)
    show _ = _
    rw [show w.heap.size + 1 + 1 = ((w.alloc (.cells #[.slice (some ⟨b, off, none⟩) ss.length cap] 160)).alloc (.cells #[.int .u64 (wd p 0), .int .u64 (wd p 1), .int .u64 (wd p 2), .int .u64 (wd p 3)] 207)).heap.size by simp]
    exact this
  rw [← hW0]
  refine wpIn_runsTo rfl (by omega) 140 #[stV p] rfl trivial enters_srising (fun x : Nat => Value.int .i64 (x : Int)) Tab (el p 256) (srises (3 - 1) (by omega) p) rfl
    (fun pre W => (Boxed W w.heap.size 160 (.slice (some ⟨b, off, none⟩) ss.length cap) ∧ Boxed W (w.heap.size + 1 + 1) 4 (.bool false) ∧ (∀ x ∈ pre, ¬ Dne ss x)) ∧ Below w.heap.size w W)
    (fun pre W => (Boxed W (w.heap.size + 1 + 1) 4 (.bool true) ∧ donF ss p = true) ∧ Below w.heap.size w W)
    (OwnFrom.and (OwnFrom.and (Own.from (boxed_own _ _ (fun _ => _)) _) (OwnFrom.and (Own.from (boxed_own _ _ (fun _ => _)) _) (ownFrom_pure _ (fun pre : List Nat => ∀ x ∈ pre, ¬ Dne ss x)))) (ownFrom_below (Nat.le_refl _) (by omega)))
    (OwnFrom.and (OwnFrom.and (Own.from (boxed_own _ _ (fun _ => _)) _) (ownFrom_pure _ (fun _ => _))) (ownFrom_below (Nat.le_refl _) (by omega)))
    (fun pre W h => hT.below h.2 (Nat.le_refl _))
    ⟨⟨hb1, hb2, by simp⟩, hB0⟩
    (fun x => { tmps := #[wyV b off ss.length cap, stV p, .pointer (some ⟨w.heap.size, 0, none⟩), .pointer (some ⟨w.heap.size + 1, 0, none⟩), .pointer (some ⟨w.heap.size + 1 + 1, 0, none⟩), .int .i64 (x : Int), stV p, .func (.func 140) #[stV p] #[], .int .i64 (x : Int), undef, undef, undef, undef, undef, undef, undef], defers := [] }) ?assign ?body ?done ?stop
  case assign =>
    intro l x W K hK
    gi_wp2
    exact hK
  case body =>
    rintro l pre x rest W hx ⟨⟨h1, h2, h3⟩, hB⟩
    obtain ⟨hpx, hxl⟩ := el_one hp hx
    obtain ⟨n, hn⟩ : ∃ n, ss[x]? = some n := ⟨ss[x], List.getElem?_eq_getElem hxl⟩
    have c0 := h1.cell
    have c2 := h2.cell
    have f2 := h2.frozen
    obtain ⟨d0, _⟩ := (hN.below hB hlt) x n hn
    have g0 : (0 : Int) ≤ (x : Int) := by omega
    have g1 : (x : Int) < (ss.length : Int) := by omega
    have H1 := hid h1
    have H2 := hid h2
    have HB := hid hB
    have HD : Hid (n.op = 5 → donF ss p = true) := fun e => donF_iff.2 ⟨x, hpx, n, hn, e⟩
    have HND : Hid (¬ n.op = 5 → ∀ y ∈ pre ++ [x], ¬ Dne ss y) := fun e y hy => by
      rcases List.mem_append.1 hy with hy | hy
      · exact h3 y hy
      · rw [List.mem_singleton.1 hy]
        rintro ⟨m, hm, e5⟩
        rw [hn] at hm
        obtain rfl := Option.some.inj hm
        exact e e5
    clear h1 h2 h3 hB hx hn
    by_cases h5 : n.op = 5
    · rw [h5] at d0
      gi_wp2
      exact ⟨(KeepsOthers.setCell _ _ _).from _, ⟨H2.out.set _, HD.out h5⟩, HB.out.setCell (p := ⟨w.heap.size + 1 + 1, 0, none⟩) (by simp only; omega) _⟩
    · have h5' : (n.op == 5) = false := by rw [beq_eq_false_iff_ne]; exact h5
      gi_wp2
      exact ⟨KeepsFrom.refl _ _, ⟨H1.out, H2.out, HND.out h5⟩, HB.out⟩
  case done =>
    rintro D W hD ⟨⟨h1, h2, h3⟩, hB⟩ hK
    have c2 := h2.cell
    have f2 := h2.frozen
    have HN : Hid (donF ss p = false) := by
      show _ = _
      cases h : donF ss p with
      | false => rfl
      | true =>
        obtain ⟨k, hk, hd⟩ := donF_iff.1 h
        exact absurd hd (h3 k ((el_in hl hp k).2 hk))
    gi_wp2
    refine ⟨by simp, .inl ⟨_, _, rfl, run_takeDeferred (boxed_def h2 _ hK), ?_⟩⟩
    have c3 := (Boxed.putK (h2.set (.bool false)) (boxed_def h2 _ hK) (.deferred none)).cell
    refine ⟨.bool false, by simp [results, Tryz.results137, go_sem, c3], by rw [HN.out], ?_⟩
    exact (hB.setCell (p := ⟨w.heap.size + 1 + 1, 0, none⟩) (by simp only; omega) _).trans (belowK_b (w := w) (Nat.le_refl _) _ D _ _ (by omega) (boxed_def h2 _ hK) rfl rfl)
  case stop =>
    rintro D pre W hD ⟨⟨h2, h3⟩, hB⟩ hK
    have c2 := h2.cell
    gi_wp2
    refine ⟨by simp, .inl ⟨_, _, rfl, run_takeDeferred hK, ?_⟩⟩
    have c3 := (Boxed.putK h2 hK (.deferred none)).cell
    refine ⟨.bool true, by simp [results, Tryz.results137, go_sem, c3], by rw [h3], ?_⟩
    exact hB.trans (belowK_b (w := w) (Nat.le_refl _) _ D _ _ (by omega) hK rfl rfl)
theorem sdone_any (ss : List St) (hl : ss.length ≤ 200) (b off cap : Nat) (p : Nat → Bool) (hp : Sub ss p) (w : World) (hT : Tab w) (hlt : b < w.heap.size) (hN : SsAt w b off ss) :
    Calls Tryz.prog 137 #[wyV b off ss.length cap, stV p] w fun e w' => e = .returned (.bool (donF ss p)) ∧ Below w.heap.size w w' := callsIn_wide.1 (sdone_in ss hl b off cap p hp w hT hlt hN)
end Go.Proofs.YtejbififfceamaaGreatDoor
namespace Go.Proofs.YtejbififfceamaaGreatDoor
set_option linter.unusedSimpArgs false
set_option linter.unusedVariables false
set_option maxRecDepth 100000
open Go.RowKit
/-- A step as a value. -/
abbrev St.v (n : St) : Value := .agg #[.int .i64 n.op, .int .u64 n.c.a, .int .u64 n.c.b, .int .u64 n.c.c, .int .u64 n.c.d, .int .i64 n.x, .int .i64 n.y]
abbrev St.arr (n : St) : Array Value := #[.int .i64 n.op, .int .u64 n.c.a, .int .u64 n.c.b, .int .u64 n.c.c, .int .u64 n.c.d, .int .i64 n.x, .int .i64 n.y]
def St.eqb (a b : St) : Bool := a.op == b.op && (a.c.eqb b.c && (a.x == b.x && a.y == b.y))
theorem list4st {α : Type} (l : List α) (h : l.length = 4) : ∃ a b c d, l = [a, b, c, d] := by
  match l, h with
  | [a, b, c, d], _ => exact ⟨a, b, c, d, rfl⟩
theorem eq7d (d : Nat) (x y : St) (w : World) : (Op.equalIn (d + 1 + 1 + 1) 158 x.v y.v).run Tryz.prog w = .ok (x.eqb y) w := by
  have hs : Tryz.prog.underlying 158 = some (.struct (Tryz.prog.fieldsOf 158)) := by kernel_rfl
  have hp : Tryz.prog.stoodInHeld 158 = false := by kernel_rfl
  rw [run_equalIn_struct w (d + 1 + 1) _ _ _ hs hp]
  have hf : (Tryz.prog.fieldsOf 158).toList.map (fun f => (f.type, f.offset, f.name == "_")) = [(3, 0, false), (104, 1, false), (3, 5, false), (3, 6, false)] := by kernel_rfl
  generalize (Tryz.prog.fieldsOf 158).toList = fs at hf
  obtain ⟨f0, f1, f2, f3, rfl⟩ := list4st fs (by have := congrArg List.length hf; simpa using this)
  · simp only [List.map_cons, List.map_nil, List.cons.injEq, Prod.mk.injEq, and_true] at hf
    obtain ⟨⟨t0, o0, n0⟩, ⟨t1, o1, n1⟩, ⟨t2, o2, n2⟩, ⟨t3, o3, n3⟩⟩ := hf
    have n0' : f0.name ≠ "_" := by simpa using n0
    have n1' : f1.name ≠ "_" := by simpa using n1
    have n2' : f2.name ≠ "_" := by simpa using n2
    have n3' : f3.name ≠ "_" := by simpa using n3
    have hi : ∀ (a b : Int) (w : World), (Op.equalIn (d + 1 + 1) 3 (.int .i64 a) (.int .i64 b)).run Tryz.prog w = .ok (a == b) w := fun a b w => run_equalIn_int w (d + 1) 3 .i64 .i64 a b Tryz.underlying3
    have hc : ∀ (x y : C4) (w : World), (Op.equalIn (d + 1 + 1) 104 x.v y.v).run Tryz.prog w = .ok (x.eqb y) w := fun x y w => eq4d d x y w
    have q0 : ∀ (z : St) (w : World), (part 3 z.arr 0).run Tryz.prog w = .ok (.int .i64 z.op) w := fun _ _ => by kernel_rfl
    have q1 : ∀ (z : St) (w : World), (part 104 z.arr 1).run Tryz.prog w = .ok z.c.v w := fun _ _ => by kernel_rfl
    have q2 : ∀ (z : St) (w : World), (part 3 z.arr 5).run Tryz.prog w = .ok (.int .i64 z.x) w := fun _ _ => by kernel_rfl
    have q3 : ∀ (z : St) (w : World), (part 3 z.arr 6).run Tryz.prog w = .ok (.int .i64 z.y) w := fun _ _ => by kernel_rfl
    simp only [Op.eqFields, t0, o0, t1, o1, t2, o2, t3, o3, ne_eq, n0', n1', n2', n3', not_false_eq_true, if_true, Sem.run_bind, q0, q1, q2, q3, Result.andThen_ok, hi, hc, Sem.run_ite, Sem.run_pure]
    unfold St.eqb
    cases h1 : x.op == y.op <;> cases h2 : x.c.eqb y.c <;> cases h3 : x.x == y.x <;> cases h4 : x.y == y.y <;> simp [q1, q2, q3, hc, hi, h2, h3, h4]
theorem eqS (x y : St) (w : World) : (Op.equalIn 10000 158 x.v y.v).run Tryz.prog w = .ok (x.eqb y) w := eq7d 9997 x y w
end Go.Proofs.YtejbififfceamaaGreatDoor
namespace Go.Proofs.YtejbififfceamaaGreatDoor
set_option linter.unusedSimpArgs false
set_option linter.unusedVariables false
set_option maxRecDepth 100000
open Go.RowKit
def isCells (l : List Nat) : List Value := l.map fun x : Nat => Value.int .i64 (x : Int)
/-- A slice of the call's own that reads as the numbers l. -/
def IsOwn (w : World) (B : Nat) (v : Value) (l : List Nat) : Prop := w.ownsRow B 3 1 v l.length (isCells l)
theorem IsOwn.nil (w : World) (B : Nat) : IsOwn w B (.slice none 0 0) [] := ⟨rfl, Or.inl ⟨rfl, rfl⟩⟩
theorem IsOwn.isIn {w : World} {B : Nat} {v : Value} {l : List Nat} (h : IsOwn w B v l) (hm : l.length ≤ maxLen) : IsIn w v l := by
  rcases h.2 with ⟨hv, h0⟩ | ⟨g, cap, cur, hv, hb, hg, hc, _⟩
  · have e : l = [] := List.eq_nil_of_length_eq_zero h0
    subst e
    rw [hv]
    exact isIn_nil w
  · refine ⟨_, _, hv, hm, Or.inr ⟨g, 0, rfl, ?_, ?_⟩⟩
    · rcases Nat.lt_or_ge g w.heap.size with h' | h'
      · exact h'
      · rw [Array.getElem?_eq_none h'] at hg; cases hg
    · intro i x hx
      have := h.cells (g := g) (by rw [hv]; rfl) i (.int .i64 (x : Int)) (by simp [isCells, hx])
      rw [Addr.add_lit] at this
      exact this
theorem IsOwn.kept {w w' : World} {B : Nat} {v : Value} {l : List Nat} (h : IsOwn w B v l) (hb : Below w.heap.size w w') : IsOwn w' B v l := by
  refine World.ownsRow.kept (row := none) h ⟨hb.os, hb.tape, hb.output, hb.size, fun k hk _ => hb.block k hk⟩ ?_
  cases hv : v.ownBlock with
  | none => exact Or.inl rfl
  | some x => exact Or.inr (by simp)
theorem IsOwn.form {w : World} {B : Nat} {v : Value} {l : List Nat} (h : IsOwn w B v l) : ∃ a cap, v = .slice a l.length cap := by
  rcases h.2 with ⟨hv, h0⟩ | ⟨g, cap, cur, hv, _⟩
  · exact ⟨none, 0, by rw [hv, h0]⟩
  · exact ⟨_, _, hv⟩
theorem IsOwn.grown {w w' : World} {B : Nat} {v : Value} {l : List Nat} (h : IsOwn w B v l) (hB : B ≤ w.heap.size) (hg : w.grownBy w' v.ownBlock) : Below B w w' := by
  refine ⟨hg.os, hg.tape, hg.output, hg.size, fun k hk => hg.block k (by omega) ?_⟩
  intro e
  rcases h.2 with ⟨hv, _⟩ | ⟨b, cap, cur, hv, hb, _⟩
  · rw [hv] at e; cases e
  · rw [hv] at e
    injection e with e
    simp only at e
    omega
/-- append of one number, which lies in a new row. -/
theorem wpList_append_is {ops : Array Oper} {rest : List Oper} {o : Oper} {a : Act} {Q : Exit → Act → World → Prop} {w : World} (hgd : o.guard = none) (s x : Operand)
    (ho : o.op = .call { callee := .builtin .append, args := #[s, x], argTypes := #[148, 148] })
    (B : Nat) (v : Value) (hs : a.eval s = v) (l : List Nat) (hown : IsOwn w B v l) (g2 c2 n : Nat) (hx : a.eval x = .slice (some ⟨g2, 0, none⟩) 1 c2)
    (hnew : w.cell? ⟨g2, 0, none⟩ = some (.int .i64 (n : Int))) (hlen : l.length ≤ 1000000000) (hbase : B ≤ w.heap.size)
    (h : ∀ g cap w', IsOwn w' B (.slice (some ⟨g, 0, none⟩) (l.length + 1) cap) (l ++ [n]) → w.grownBy w' v.ownBlock → B ≤ g → g < w'.heap.size → wpList Tryz.prog ops Q rest (a.put o.dst (.slice (some ⟨g, 0, none⟩) (l.length + 1) cap)) w') : wpList Tryz.prog ops Q (o :: rest) a w := by
  have hinfo : (Tryz.prog.info? 3).map (fun i => (i.zero, i.size, i.bytes)) = some (some (.int .i64 0), 1, 8) := by kernel_rfl
  obtain ⟨i0, hi, hz0, hz1, hz2⟩ := info_parts hinfo
  refine wpList_append_lies w hgd s x 148 ho B 3 i0 _ 1 8 Tryz.underlying148 hi hz0 hz1 hz2 rfl (by decide) v l.length (isCells l) hs hown ⟨g2, 0, none⟩ 1 c2 (isCells [n]) hx rfl ?_ (by simp [isCells, Value.oneCell']) (by omega) (by unfold maxLen; omega) (by omega) hbase _ rfl ?_
  · intro j u hj
    cases j with
    | zero =>
      simp [isCells] at hj
      subst hj
      rw [Addr.add_lit]
      exact hnew
    | succ j => simp [isCells] at hj
  · intro g cap w' h1 h2 h3 h4
    have e : IsOwn w' B (.slice (some ⟨g, 0, none⟩) (l.length + 1) cap) (l ++ [n]) := by
      unfold IsOwn
      simpa [isCells] using h1
    have hg : B ≤ g := by
      rcases h3 with h3 | h3
      · rcases hown.2 with ⟨hv, _⟩ | ⟨g', cap', cur, hv, hb, _⟩
        · rw [hv] at h3; cases h3
        · rw [hv] at h3
          injection h3 with h3
          simp at h3
          omega
      · omega
    exact h g cap w' e h2 hg h4
end Go.Proofs.YtejbififfceamaaGreatDoor
namespace Go.Proofs.YtejbififfceamaaGreatDoor
set_option linter.unusedSimpArgs false
set_option linter.unusedVariables false
set_option maxRecDepth 100000
open Go.RowKit

/-- Block k is turned: the box bf, the row that it names, or one of X. -/
def Frm (bf : Nat) (X : Nat → Prop) (W : World) (k : Nat) : Prop := k < W.heap.size ∧ (X k ∨ k = bf ∨ ∃ u, W.cell? ⟨bf, 0, none⟩ = some u ∧ u.ownBlock = some k)
/-- All other cells lie as they lay. -/
structure KpF (bf : Nat) (X : Nat → Prop) (W W' : World) : Prop where
  size : W.heap.size ≤ W'.heap.size
  same : ∀ k o, W.heap[k]? = some o → o.isCells = true → ¬ Frm bf X W k → W'.heap[k]? = some o
  row : ∀ k, Frm bf X W' k → Frm bf X W k ∨ W.heap.size ≤ k
theorem KpF.refl (bf : Nat) (X : Nat → Prop) (W : World) : KpF bf X W W := ⟨Nat.le_refl _, fun _ _ h _ _ => h, fun _ h => Or.inl h⟩
theorem heap_lt {W : World} {k : Nat} {o : Obj} (h : W.heap[k]? = some o) : k < W.heap.size := (Array.getElem?_eq_some_iff.1 h).1
theorem KpF.free {bf : Nat} {X : Nat → Prop} {W W' : World} (h : KpF bf X W W') {k : Nat} (hk : k < W.heap.size) (hn : ¬ Frm bf X W k) : ¬ Frm bf X W' k := fun hf => by
  rcases h.row k hf with h1 | h1
  · exact hn h1
  · omega
theorem KpF.trans {bf : Nat} {X : Nat → Prop} {A B C : World} (h : KpF bf X A B) (g : KpF bf X B C) : KpF bf X A C where
  size := Nat.le_trans h.size g.size
  same := fun k o hk ho hn => g.same k o (h.same k o hk ho hn) ho (h.free (heap_lt hk) hn)
  row := fun k hf => by
    rcases g.row k hf with h1 | h1
    · exact h.row k h1
    · exact Or.inr (Nat.le_trans h.size h1)
theorem cell_block {W : World} {k o : Nat} {c : Value} (h : W.cell? ⟨k, o, none⟩ = some c) : ∃ ob, W.heap[k]? = some ob ∧ ob.isCells = true := by
  unfold World.cell? at h
  split at h
  · rename_i cs t z hh
    exact ⟨_, hh, rfl⟩
  · cases h
theorem cell_of_block {W W' : World} {k : Nat} {ob : Obj} (h : W.heap[k]? = some ob) (h' : W'.heap[k]? = some ob) (o : Nat) : W'.cell? ⟨k, o, none⟩ = W.cell? ⟨k, o, none⟩ := by
  unfold World.cell?
  simp only [h, h']
theorem frozen_of_block {W W' : World} {k : Nat} {ob : Obj} (h : W.heap[k]? = some ob) (h' : W'.heap[k]? = some ob) (o : Nat) : W'.frozen? ⟨k, o, none⟩ = W.frozen? ⟨k, o, none⟩ := by
  unfold World.frozen?
  simp only [h, h']
theorem KpF.cell {bf : Nat} {X : Nat → Prop} {W W' : World} (h : KpF bf X W W') {k o : Nat} {c : Value} (hc : W.cell? ⟨k, o, none⟩ = some c) (hn : ¬ Frm bf X W k) : W'.cell? ⟨k, o, none⟩ = some c := by
  obtain ⟨ob, h1, h2⟩ := cell_block hc
  rw [cell_of_block h1 (h.same k ob h1 h2 hn), hc]
theorem cell_lt {W : World} {k o : Nat} {c : Value} (h : W.cell? ⟨k, o, none⟩ = some c) : k < W.heap.size := by
  obtain ⟨ob, h1, _⟩ := cell_block h
  exact heap_lt h1
/-- What only makes memory. -/
theorem KpF.below {bf : Nat} (X : Nat → Prop) {W W' : World} (h : Below W.heap.size W W') (hb : bf < W.heap.size) : KpF bf X W W' where
  size := h.size
  same := fun k o hk _ _ => (h.block k (heap_lt hk)).trans hk
  row := fun k hf => by
    rcases Nat.lt_or_ge k W.heap.size with hk | hk
    · refine Or.inl ⟨hk, ?_⟩
      rcases hf.2 with h1 | h1 | ⟨u, h1, h2⟩
      · exact Or.inl h1
      · exact Or.inr (Or.inl h1)
      · exact Or.inr (Or.inr ⟨u, (h.cell (p := ⟨bf, 0, none⟩) hb).symm.trans h1, h2⟩)
    · exact Or.inr hk
/-- A store into one of X. -/
theorem KpF.put {bf : Nat} {X : Nat → Prop} (W : World) (b o : Nat) (c : Value) (hX : X b) (hne : bf ≠ b) : KpF bf X W (W.setCell ⟨b, o, none⟩ c) where
  size := by simp
  same := fun k ob hk _ hn => by
    have hkb : k ≠ b := fun e => hn ⟨heap_lt hk, Or.inl (e ▸ hX)⟩
    simp [World.setCell, Array.getElem?_modify, hk, Ne.symm hkb]
  row := fun k hf => by
    refine Or.inl ⟨by simpa using hf.1, ?_⟩
    rcases hf.2 with h1 | h1 | ⟨u, h1, h2⟩
    · exact Or.inl h1
    · exact Or.inr (Or.inl h1)
    · refine Or.inr (Or.inr ⟨u, ?_, h2⟩)
      have hh : (W.setCell ⟨b, o, none⟩ c).heap[bf]? = W.heap[bf]? := by simp [World.setCell, Array.getElem?_modify, Ne.symm hne]
      unfold World.cell? at h1 ⊢
      simp only [hh] at h1
      exact h1
/-- A plain value is stored into the box. -/
theorem KpF.box {bf : Nat} {X : Nat → Prop} (W : World) (t : TypeId) (v c : Value) (hB : Boxed W bf t v) (hc : c.ownBlock = none) : KpF bf X W (W.setCell ⟨bf, 0, none⟩ c) where
  size := by simp
  same := fun k ob hk _ hn => by
    have hkb : k ≠ bf := fun e => hn ⟨heap_lt hk, Or.inr (Or.inl e)⟩
    simp [World.setCell, Array.getElem?_modify, hk, Ne.symm hkb]
  row := fun k hf => by
    refine Or.inl ⟨by simpa using hf.1, ?_⟩
    rcases hf.2 with h1 | h1 | ⟨u, h1, h2⟩
    · exact Or.inl h1
    · exact Or.inr (Or.inl h1)
    · have : (W.setCell ⟨bf, 0, none⟩ c).cell? ⟨bf, 0, none⟩ = some c := by
        simp [World.cell?, World.setCell, Array.getElem?_modify, show W.heap[bf]? = _ from hB]
      rw [this] at h1
      injection h1 with h1
      rw [← h1, hc] at h2
      cases h2
/-- append, and the box names what it made. -/
theorem KpF.grow {bf : Nat} {X : Nat → Prop} {W W1 : World} {t : TypeId} {u c : Value} (hB : Boxed W bf t u) (hg : W.grownBy W1 u.ownBlock) (hub : ∀ k, u.ownBlock = some k → k ≠ bf) (hc : ∀ k, c.ownBlock = some k → u.ownBlock = some k ∨ W.heap.size ≤ k) : KpF bf X W (W1.setCell ⟨bf, 0, none⟩ c) where
  size := by have := hg.size; simpa using this
  same := fun k ob hk _ hn => by
    have hkb : k ≠ bf := fun e => hn ⟨heap_lt hk, Or.inr (Or.inl e)⟩
    have hku : u.ownBlock ≠ some k := fun e => hn ⟨heap_lt hk, Or.inr (Or.inr ⟨u, hB.cell, e⟩)⟩
    have h1 := (hg.block k (heap_lt hk) (Ne.symm hku)).trans hk
    simp [World.setCell, Array.getElem?_modify, h1, Ne.symm hkb]
  row := fun k hf => by
    have hb1 : Boxed W1 bf t u := hB.kept hg (fun e => hub bf e.symm rfl)
    rcases Nat.lt_or_ge k W.heap.size with hk | hk
    · refine Or.inl ⟨hk, ?_⟩
      rcases hf.2 with h1 | h1 | ⟨u', h1, h2⟩
      · exact Or.inl h1
      · exact Or.inr (Or.inl h1)
      · have : (W1.setCell ⟨bf, 0, none⟩ c).cell? ⟨bf, 0, none⟩ = some c := by
          simp [World.cell?, World.setCell, Array.getElem?_modify, show W1.heap[bf]? = _ from hb1]
        rw [this] at h1
        injection h1 with h1
        rw [← h1] at h2
        rcases hc k h2 with h3 | h3
        · exact Or.inr (Or.inr ⟨u, hB.cell, h3⟩)
        · omega
    · exact Or.inr hk
/-- What the loop itself keeps. -/
theorem KpF.obj {bf : Nat} (X : Nat → Prop) (W : World) (l : Nat) (o o' : Obj) (hb : bf ≠ l) (hl : W.heap[l]? = some o) (ho : o.isCells = false) : KpF bf X W (W.putObj l o') where
  size := by simp
  same := fun k ob hk hc _ => by
    have hkl : k ≠ l := fun e => by
      rw [e, hl] at hk
      injection hk with hk
      rw [← hk, ho] at hc
      cases hc
    exact (World.putObj_heap_other hkl).trans hk
  row := fun k hf => by
    refine Or.inl ⟨by simpa using hf.1, ?_⟩
    rcases hf.2 with h1 | h1 | ⟨u, h1, h2⟩
    · exact Or.inl h1
    · exact Or.inr (Or.inl h1)
    · refine Or.inr (Or.inr ⟨u, ?_, h2⟩)
      have : (W.putObj l o').heap[bf]? = W.heap[bf]? := World.putObj_heap_other hb
      unfold World.cell? at h1 ⊢
      simp only [this] at h1
      exact h1
/-- The same, and the row is the old one or new. -/
theorem wpList_append_isr {ops : Array Oper} {rest : List Oper} {o : Oper} {a : Act} {Q : Exit → Act → World → Prop} {w : World} (hgd : o.guard = none) (s x : Operand)
    (ho : o.op = .call { callee := .builtin .append, args := #[s, x], argTypes := #[148, 148] })
    (B : Nat) (v : Value) (hs : a.eval s = v) (l : List Nat) (hown : IsOwn w B v l) (g2 c2 n : Nat) (hx : a.eval x = .slice (some ⟨g2, 0, none⟩) 1 c2)
    (hnew : w.cell? ⟨g2, 0, none⟩ = some (.int .i64 (n : Int))) (hlen : l.length ≤ 1000000000) (hbase : B ≤ w.heap.size)
    (h : ∀ g cap w', IsOwn w' B (.slice (some ⟨g, 0, none⟩) (l.length + 1) cap) (l ++ [n]) → w.grownBy w' v.ownBlock → B ≤ g → (v.ownBlock = some g ∨ w.heap.size ≤ g) → wpList Tryz.prog ops Q rest (a.put o.dst (.slice (some ⟨g, 0, none⟩) (l.length + 1) cap)) w') : wpList Tryz.prog ops Q (o :: rest) a w := by
  have hinfo : (Tryz.prog.info? 3).map (fun i => (i.zero, i.size, i.bytes)) = some (some (.int .i64 0), 1, 8) := by kernel_rfl
  obtain ⟨i0, hi, hz0, hz1, hz2⟩ := info_parts hinfo
  refine wpList_append_lies w hgd s x 148 ho B 3 i0 _ 1 8 Tryz.underlying148 hi hz0 hz1 hz2 rfl (by decide) v l.length (isCells l) hs hown ⟨g2, 0, none⟩ 1 c2 (isCells [n]) hx rfl ?_ (by simp [isCells, Value.oneCell']) (by omega) (by unfold maxLen; omega) (by omega) hbase _ rfl ?_
  · intro j u hj
    cases j with
    | zero =>
      simp [isCells] at hj
      subst hj
      rw [Addr.add_lit]
      exact hnew
    | succ j => simp [isCells] at hj
  · intro g cap w' h1 h2 h3 h4
    have e : IsOwn w' B (.slice (some ⟨g, 0, none⟩) (l.length + 1) cap) (l ++ [n]) := by
      unfold IsOwn
      simpa [isCells] using h1
    have hg : B ≤ g := by
      rcases h3 with h3 | h3
      · rcases hown.2 with ⟨hv, _⟩ | ⟨g', cap', cur, hv, hb, _⟩
        · rw [hv] at h3; cases h3
        · rw [hv] at h3
          injection h3 with h3
          simp at h3
          omega
      · omega
    exact h g cap w' e h2 hg (h3.imp id (fun e => by omega))
end Go.Proofs.YtejbififfceamaaGreatDoor
namespace Go.Proofs.YtejbififfceamaaGreatDoor
set_option linter.unusedSimpArgs false
set_option linter.unusedVariables false
set_option maxRecDepth 100000
open Go.RowKit
/-- A program and a place, and where the closure's variables lie. -/
structure Yc where
  ss : List St
  b : Nat
  off : Nat
  cap : Nat
  fi : Bool
  la : Bool
  bf : Nat
  bw : Nat
  bv : Nat
  ba : Nat
structure Yc.Good (c : Yc) : Prop where
  fault : stepsF c.ss = 0
  fb : c.bf ≠ c.b
  fw : c.bf ≠ c.bw
  fv : c.bf ≠ c.bv
  fa : c.bf ≠ c.ba
/-- The closure's value. -/
abbrev Yc.v (c : Yc) : Value := .func (.func 151) #[] #[.pointer (some ⟨c.bf, 0, none⟩), .pointer (some ⟨c.bw, 0, none⟩), .pointer (some ⟨c.bv, 0, none⟩), .pointer (some ⟨c.ba, 0, none⟩)]
/-- In w the steps S have been come to. -/
structure Yc.At (c : Yc) (w : World) (S : List Nat) : Prop where
  steps : SsAt w c.b c.off c.ss
  r0 : w.cell? ⟨c.bw, 0, none⟩ = some (.slice (some ⟨c.b, c.off, none⟩) c.ss.length c.cap)
  a0 : w.cell? ⟨c.ba, 0, none⟩ = some (.bool c.fi)
  a1 : w.cell? ⟨c.ba, 1, none⟩ = some (.bool c.la)
  v0 : w.cell? ⟨c.bv, 0, none⟩ = some c.v
  found : Hq w c.bf (fun j => decide (j ∈ S))
  nod : S.Nodup
  lt : ∀ x ∈ S, x < c.ss.length
  blt : c.b < w.heap.size
theorem Yc.At.len {c : Yc} {w : World} {S : List Nat} (h : c.At w S) : S.length ≤ c.ss.length := nodup_le _ _ h.nod h.lt
theorem SsAt.grown {w w' : World} {b off : Nat} {ss : List St} {row : Option Nat} (h : SsAt w b off ss) (hg : w.grownBy w' row) (hlt : b < w.heap.size) (hne : some b ≠ row) : SsAt w' b off ss := fun i n hi => by
  obtain ⟨h0, h1, h2, h3, h4, h5, h6⟩ := h i n hi
  have key : ∀ o, w'.cell? ⟨b, o, none⟩ = w.cell? ⟨b, o, none⟩ := fun o => World.cell?_of_block (a := ⟨b, o, none⟩) (hg.block b hlt hne)
  exact ⟨(key _).trans h0, (key _).trans h1, (key _).trans h2, (key _).trans h3, (key _).trans h4, (key _).trans h5, (key _).trans h6⟩
/-- Only the box of what is found is turned. -/
theorem Yc.At.turn {c : Yc} (hc : c.Good) {w w' : World} {S S' : List Nat} (h : c.At w S) (hg : w.grownBy w' (some c.bf)) (hf : Hq w' c.bf (fun j => decide (j ∈ S'))) (hn : S'.Nodup) (hl : ∀ x ∈ S', x < c.ss.length) : c.At w' S' := by
  have key : ∀ k o v, c.bf ≠ k → w.cell? ⟨k, o, none⟩ = some v → w'.cell? ⟨k, o, none⟩ = some v := fun k o v hk hv =>
    (World.cell?_of_block (a := ⟨k, o, none⟩) (hg.block k (cell_lt hv) (by intro e; injection e with e; exact hk e.symm))).trans hv
  exact ⟨h.steps.grown hg h.blt (by intro e; injection e with e; exact hc.fb e.symm), key _ _ _ hc.fw h.r0, key _ _ _ hc.fa h.a0, key _ _ _ hc.fa h.a1, key _ _ _ hc.fv h.v0, hf, hn, hl, Nat.lt_of_lt_of_le h.blt hg.size⟩
theorem Yc.At.below {c : Yc} {w w' : World} {S : List Nat} (h : c.At w S) (hb : Below w.heap.size w w') : c.At w' S where
  steps := h.steps.below hb h.blt
  r0 := (hb.cell (p := ⟨c.bw, 0, none⟩) (cell_lt h.r0)).trans h.r0
  a0 := (hb.cell (p := ⟨c.ba, 0, none⟩) (cell_lt h.a0)).trans h.a0
  a1 := (hb.cell (p := ⟨c.ba, 1, none⟩) (cell_lt h.a0)).trans h.a1
  v0 := (hb.cell (p := ⟨c.bv, 0, none⟩) (cell_lt h.v0)).trans h.v0
  found := h.found.below hb h.found.lt
  nod := h.nod
  lt := h.lt
  blt := Nat.lt_of_lt_of_le h.blt hb.size
theorem withP_snoc (S : List Nat) (k : Nat) : withP (fun j => decide (j ∈ S)) k = fun j => decide (j ∈ S ++ [k]) := by
  funext j
  unfold withP
  by_cases h : j = k
  · subst h; simp
  · simp [h]
/-- What it leaves, entered at k. -/
def YvP (c : Yc) (S : List Nat) (K : List Nat) (w : World) (e : Ending) (w' : World) : Prop := ∃ v S', e = .returned v ∧ c.At w' S' ∧ Vst c.ss (tx c.fi c.la) (pc c.fi) S S' K ∧ w.grownBy w' (some c.bf)
/-- The closure keeps its word while so many steps are left. -/
def YvOk (c : Yc) (f : Nat) : Prop := ∀ (S : List Nat) (k : Nat) (w : World), c.ss.length ≤ S.length + f → k < c.ss.length → c.At w S → Calls Tryz.prog 151 #[.int .i64 (k : Int), .pointer (some ⟨c.bf, 0, none⟩), .pointer (some ⟨c.bw, 0, none⟩), .pointer (some ⟨c.bv, 0, none⟩), .pointer (some ⟨c.ba, 0, none⟩)] w (YvP c S [k] w)
set_option maxHeartbeats 4000000 in
theorem yvisit_seen (c : Yc) (hc : c.Good) (S : List Nat) (k : Nat) (w : World) (hkl : k < c.ss.length) (h : c.At w S) (hk : k ∈ S) : Calls Tryz.prog 151 #[.int .i64 (k : Int), .pointer (some ⟨c.bf, 0, none⟩), .pointer (some ⟨c.bw, 0, none⟩), .pointer (some ⟨c.bv, 0, none⟩), .pointer (some ⟨c.ba, 0, none⟩)] w (YvP c S [k] w) := by
  obtain ⟨h200, hpos, hst⟩ := stepsF_zero hc.fault
  obtain ⟨p, hp⟩ : ∃ p, p = fun j => decide (j ∈ S) := ⟨_, rfl⟩
  have hpk : p k = true := by rw [hp]; simp [hk]
  have hF := h.found
  rw [← hp] at hF
  have C1 := hid (shas_any p k (by omega) w)
  rw [hpk] at C1
  obtain ⟨c0, c1, c2, c3⟩ := hF.all
  have HP : Hid (∀ v w1, Below w.heap.size w w1 → YvP c S [k] w (.returned v) w1) := fun v w1 hb => ⟨v, S, rfl, h.below hb, Vst.refl _ _ _ _ _ (fun x hx => by rw [List.mem_singleton.1 hx]; exact hk), gr_below hb _⟩
  unfold stV at C1
  clear h hst hF hp
  go_enter Tryz.func151, Tryz.ntmps151
  go_wp2_with fail
  refine Calls.mono C1.out ?_
  rintro e w1 ⟨rfl, hb⟩
  go_wp2
  first | go_end0 | go_ret
  exact HP.out _ _ hb
set_option maxHeartbeats 8000000 in
theorem yvisit_new (c : Yc) (hc : c.Good) (f : Nat) (ih : YvOk c f) (S : List Nat) (k : Nat) (w : World) (hfu : c.ss.length ≤ S.length + (f + 1)) (hkl : k < c.ss.length) (h : c.At w S) (hk : ¬ k ∈ S) : Calls Tryz.prog 151 #[.int .i64 (k : Int), .pointer (some ⟨c.bf, 0, none⟩), .pointer (some ⟨c.bw, 0, none⟩), .pointer (some ⟨c.bv, 0, none⟩), .pointer (some ⟨c.ba, 0, none⟩)] w (YvP c S [k] w) := by
  obtain ⟨h200, hpos, hst⟩ := stepsF_zero hc.fault
  obtain ⟨n, hn⟩ : ∃ n, c.ss[k]? = some n := ⟨c.ss[k], List.getElem?_eq_getElem hkl⟩
  have HRG := hid (hst n (List.mem_of_getElem? hn)).1
  obtain ⟨p, hp⟩ : ∃ p, p = fun j => decide (j ∈ S) := ⟨_, rfl⟩
  have hpk : p k = false := by rw [hp]; simp [hk]
  have hF := h.found
  rw [← hp] at hF
  have C1 := hid (shas_any p k (by omega) w)
  rw [hpk] at C1
  have C2 := hid (fun w1 => swith_any p k (by omega) w1)
  obtain ⟨c0, c1, c2, c3⟩ := hF.all
  have HH := hid h
  have HF := hid hF
  have HN := hid hn
  have HIH := hid ih
  have HC := hid hc
  have HKK := hid hk
  have HPP := hid hp
  unfold stV at C1 C2
  clear h hst hF hp ih hc hk hn
  go_enter Tryz.func151, Tryz.ntmps151
  go_wp2_with fail
  refine Calls.mono C1.out ?_
  rintro e w1 ⟨rfl, hb1⟩
  have hF1 := HF.out.below hb1 HF.out.lt
  obtain ⟨d0, d1, d2, d3⟩ := hF1.all
  have HB1 := hid hb1
  have HF1 := hid hF1
  clear hb1 hF1 c0 c1 c2 c3 C1
  go_wp2_with fail
  refine Calls.mono (C2.out w1) ?_
  rintro e w2 ⟨rfl, hb2⟩
  have hF2 := HF1.out.below hb2 HF1.out.lt
  obtain ⟨c0, c1, c2, c3⟩ := hF2.all
  obtain ⟨f0, f1, f2, f3⟩ := hF2.frz
  have hb : Below w.heap.size w w2 := HB1.out.trans (hb2.mono HB1.out.size)
  have hA2 := HH.out.below hb
  obtain ⟨W4, hW4⟩ : ∃ W4, putS w2 c.bf (withP p k) = W4 := ⟨_, rfl⟩
  have hg4 : w.grownBy W4 (some c.bf) := by rw [← hW4]; exact (gr_below hb _).trans (grown_putS _ _ _)
  have hA4 : c.At W4 (S ++ [k]) := by
    refine hA2.turn HC.out (w' := W4) (by rw [← hW4]; exact grown_putS _ _ _) ?_ ?_ ?_
    · rw [← hW4, ← withP_snoc, ← HPP.out]
      exact hF2.putS _
    · rw [List.nodup_append]
      refine ⟨HH.out.nod, by simp, fun x hx y hy => ?_⟩
      rw [List.mem_singleton.1 hy]
      intro e
      exact HKK.out (e ▸ hx)
    · intro x hx
      rcases List.mem_append.1 hx with hx | hx
      · exact HH.out.lt x hx
      · rw [List.mem_singleton.1 hx]; exact hkl
  have r0 := hA4.r0
  obtain ⟨s0, s1, s2, s3, s4, s5, s6⟩ := hA4.steps k n HN.out
  have g0 : (0 : Int) ≤ (k : Int) := by omega
  have g1 : (k : Int) < (c.ss.length : Int) := by omega
  have hop : n.op = 1 ∨ n.op = 2 ∨ n.op = 3 ∨ n.op = 4 ∨ n.op = 5 := by
    have := HRG.out
    unfold stRange at this
    omega
  clear hF2 hb2 hb hA2 d0 d1 d2 d3 HB1 HF1 C2 HF
  obtain ⟨W5, hW5⟩ : ∃ W5, W4.alloc (.cells #[.int .i64 n.op, .int .u64 n.c.a, .int .u64 n.c.b, .int .u64 n.c.c, .int .u64 n.c.d, .int .i64 n.x, .int .i64 n.y] 158) = W5 := ⟨_, rfl⟩
  have hb5 : Below W4.heap.size W4 W5 := by rw [← hW5]; exact (Below.refl _ _).alloc (Nat.le_refl _) _
  have hA5 := hid (hA4.below hb5)
  have hg5 : Hid (w.grownBy W5 (some c.bf)) := hg4.trans (gr_below hb5 _)
  have hh5 : W5.heap[W4.heap.size]? = some (.cells #[.int .i64 n.op, .int .u64 n.c.a, .int .u64 n.c.b, .int .u64 n.c.c, .int .u64 n.c.d, .int .i64 n.x, .int .i64 n.y] 158 (0, 0)) := by rw [← hW5]; exact heap_alloc_new W4 _
  have hne5 : c.bf ≠ W4.heap.size := by have := hA4.found.lt; omega
  have d0 := Lib.cell_of_heap hh5 0
  have d2 := Lib.cell_of_heap hh5 5
  have d3 := Lib.cell_of_heap hh5 6
  simp only [List.getElem?_toArray, List.getElem?_cons_zero, List.getElem?_cons_succ] at d0 d2 d3
  have HM : Hid (∀ w', W5.grownBy w' (some c.bf) → w'.cell? ⟨W4.heap.size, 6, none⟩ = some (.int .i64 n.y)) := fun w' hg => by
    have h1 := (hg.block W4.heap.size (heap_lt hh5) (by intro e; injection e with e; exact hne5 e.symm)).trans hh5
    exact (Lib.cell_of_heap h1 6).trans rfl
  have HFU := hid hfu
  have q0 := hA5.out.a0
  have q1 := hA5.out.a1
  have q2 := hA5.out.v0
  clear hA4 hg4 hb5 hh5 hne5 hfu
  have HXX : Hid ((n.op = 1 ∨ n.op = 2 ∨ n.op = 3 ∨ n.op = 4) → 0 ≤ n.x ∧ n.x < (c.ss.length : Int)) := fun h => by
    have := HRG.out
    unfold stRange at this
    omega
  have HYY : Hid (n.op = 2 → 0 ≤ n.y ∧ n.y < (c.ss.length : Int)) := fun h => by
    have := HRG.out
    unfold stRange at this
    omega
  -- nothing more
  have idle : Hid ((∀ y, ¬ Stp c.ss (tx c.fi c.la) k (pc c.fi) y (pc c.fi)) → ∀ v, YvP c S [k] w (.returned v) W5) := fun hno v =>
    ⟨v, S ++ [k], rfl, hA5.out, (Vst.refl _ _ _ _ [] (by simp)).enter (fun y => ⟨fun h => absurd h (hno y), fun h => by simp at h⟩), hg5.out⟩
  have goX : Hid ((n.op = 1 ∨ n.op = 2 ∨ n.op = 3 ∨ n.op = 4) → ∃ x : Nat, n.x = (x : Int) ∧ n.x.toNat = x ∧ x < c.ss.length ∧ Calls Tryz.prog 151 #[.int .i64 (x : Int), .pointer (some ⟨c.bf, 0, none⟩), .pointer (some ⟨c.bw, 0, none⟩), .pointer (some ⟨c.bv, 0, none⟩), .pointer (some ⟨c.ba, 0, none⟩)] W5 (YvP c (S ++ [k]) [x] W5)) := fun h => by
    obtain ⟨h0, h1⟩ := HXX.out h
    refine ⟨n.x.toNat, by omega, rfl, by omega, HIH.out (S ++ [k]) n.x.toNat W5 ?_ (by omega) hA5.out⟩
    have := HFU.out
    simp
    omega
  have one : Hid (∀ x, n.x.toNat = x → (∀ y, Stp c.ss (tx c.fi c.la) k (pc c.fi) y (pc c.fi) ↔ y = x) → ∀ v e W6, YvP c (S ++ [k]) [x] W5 e W6 → YvP c S [k] w (.returned v) W6) := fun x _ hx v e W6 hp => by
    obtain ⟨v', S', _, hA6, hV6, hg6⟩ := hp
    exact ⟨v, S', rfl, hA6, hV6.enter (fun y => by rw [hx y]; simp), hg5.out.trans hg6⟩
  clear HXX hA5
  rcases hop with h1 | h1 | h1 | h1 | h1
  · -- a byte
    have HP : Hid (∀ v, YvP c S [k] w (.returned v) W5) := idle.out (fun y hy => by rw [stp_stay HN.out] at hy; omega)
    rw [h1] at s0 d0 hW5
    clear idle goX one HM HYY HFU HRG HH HN HIH HC HKK HPP hg5
    go_wp2
    first | go_end0 | go_ret
    exact HP.out _
  · -- a fork
    obtain ⟨x, ex, exn, hxl, CX⟩ := goX.out (Or.inr (Or.inl h1))
    obtain ⟨y, eyn⟩ : ∃ y : Nat, n.y = (y : Int) := ⟨n.y.toNat, by have := HYY.out h1; omega⟩
    have hyl : y < c.ss.length := by have := HYY.out h1; omega
    have HYN : Hid (n.y.toNat = y) := by show _ = _; omega
    have HOP := hid h1
    have HXN := hid exn
    have CX := hid CX
    rw [h1] at s0 d0 hW5
    rw [ex] at s5 d2 hW5
    rw [eyn] at s6 d3 hW5 HM
    clear idle goX one HYY HRG HH HC HKK HPP exn h1
    go_wp2_with fail
    refine Calls.mono CX.out ?_
    rintro e W6 ⟨vv, S1, rfl, hA6, hV6, hg6⟩
    have e6 := HM.out W6 hg6
    have v6 := hA6.v0
    have HA6 := hid hA6
    have HV6 := hid hV6
    have HG6 := hid (hg5.out.trans hg6)
    have HF6 : Hid (c.ss.length ≤ S1.length + f) := by
      obtain ⟨m, hm⟩ := hV6.pre
      have := HFU.out
      show _ ≤ _
      rw [hm]
      simp
      omega
    clear hA6 hV6 hg6 q0 q1 q2 d0 d2 d3 HM
    go_wp2_with fail
    refine Calls.mono (HIH.out S1 y W6 HF6.out hyl HA6.out) ?_
    rintro e W7 ⟨vv2, S2, rfl, hA7, hV7, hg7⟩
    have HP : Hid (∀ v, YvP c S [k] w (.returned v) W7) := fun v => ⟨v, S2, rfl, hA7, (HV6.out.comp hV7).enter (fun z => by
      rw [stp_stay HN.out]
      have a1 := HOP.out
      have a2 := HXN.out
      have a3 := HYN.out
      simp
      constructor <;> intro hh <;> omega), HG6.out.trans hg7⟩
    clear hA7 hV7 hg7 v6 e6
    go_wp2
    first | go_end0 | go_ret
    exact HP.out _
  · -- the text's beginning
    cases hfi : c.fi with
    | true =>
      obtain ⟨x, ex, exn, hxl, CX⟩ := goX.out (Or.inr (Or.inr (Or.inl h1)))
      have HP : Hid (∀ v e W6, YvP c (S ++ [k]) [x] W5 e W6 → YvP c S [k] w (.returned v) W6) := one.out x exn (fun y => by
        rw [stp_stay HN.out]
        have := (tx_first c.fi).2 hfi
        constructor <;> intro hh <;> omega)
      have CX := hid CX
      rw [h1] at s0 d0 hW5
      rw [ex] at s5 d2 hW5
      rw [hfi] at q0
      clear idle goX one HYY HRG HH HC HKK HPP exn h1 HM HFU HIH HN hg5
      go_wp2_with fail
      refine Calls.mono CX.out ?_
      intro e W6 hp6
      obtain ⟨v6, _, rfl, _⟩ := id hp6
      go_wp2
      first | go_end0 | go_ret
      exact HP.out _ _ _ hp6
    | false =>
      have HP : Hid (∀ v, YvP c S [k] w (.returned v) W5) := idle.out (fun y hy => by
        rw [stp_stay HN.out] at hy
        have : ¬ pc c.fi = 0 := fun e => by have := (tx_first c.fi).1 e; rw [hfi] at this; cases this
        omega)
      rw [h1] at s0 d0 hW5
      rw [hfi] at q0
      clear idle goX one HM HYY HFU HRG HH HN HIH HC HKK HPP hg5
      go_wp2
      first | go_end0 | go_ret
      exact HP.out _
  · -- the text's end
    cases hla : c.la with
    | true =>
      obtain ⟨x, ex, exn, hxl, CX⟩ := goX.out (Or.inr (Or.inr (Or.inr h1)))
      have HP : Hid (∀ v e W6, YvP c (S ++ [k]) [x] W5 e W6 → YvP c S [k] w (.returned v) W6) := one.out x exn (fun y => by
        rw [stp_stay HN.out]
        have := (tx_last c.fi c.la).2 hla
        constructor <;> intro hh <;> omega)
      have CX := hid CX
      rw [h1] at s0 d0 hW5
      rw [ex] at s5 d2 hW5
      rw [hla] at q1
      clear idle goX one HYY HRG HH HC HKK HPP exn h1 HM HFU HIH HN hg5
      go_wp2_with fail
      refine Calls.mono CX.out ?_
      intro e W6 hp6
      obtain ⟨v6, _, rfl, _⟩ := id hp6
      go_wp2
      first | go_end0 | go_ret
      exact HP.out _ _ _ hp6
    | false =>
      have HP : Hid (∀ v, YvP c S [k] w (.returned v) W5) := idle.out (fun y hy => by
        rw [stp_stay HN.out] at hy
        have : ¬ pc c.fi = (tx c.fi c.la).length := fun e => by have := (tx_last c.fi c.la).1 e; rw [hla] at this; cases this
        omega)
      rw [h1] at s0 d0 hW5
      rw [hla] at q1
      clear idle goX one HM HYY HFU HRG HH HN HIH HC HKK HPP hg5
      go_wp2
      first | go_end0 | go_ret
      exact HP.out _
  · -- the program's end
    have HP : Hid (∀ v, YvP c S [k] w (.returned v) W5) := idle.out (fun y hy => by rw [stp_stay HN.out] at hy; omega)
    rw [h1] at s0 d0 hW5
    clear idle goX one HM HYY HFU HRG HH HN HIH HC HKK HPP hg5
    go_wp2
    first | go_end0 | go_ret
    exact HP.out _
theorem yvisit_any (c : Yc) (hc : c.Good) : ∀ f, YvOk c f
  | 0 => by
    intro S k w hfu hkl h
    have hS := h.len
    refine yvisit_seen c hc S k w hkl h ?_
    refine Classical.byContradiction fun hk => ?_
    have := nodup_le c.ss.length (k :: S) (List.nodup_cons.2 ⟨hk, h.nod⟩) (fun x hx => by
      rcases List.mem_cons.1 hx with rfl | hx
      · exact hkl
      · exact h.lt x hx)
    simp at this
    omega
  | f + 1 => by
    intro S k w hfu hkl h
    by_cases hk : k ∈ S
    · exact yvisit_seen c hc S k w hkl h hk
    · exact yvisit_new c hc f (yvisit_any c hc f) S k w hfu hkl h hk
end Go.Proofs.YtejbififfceamaaGreatDoor

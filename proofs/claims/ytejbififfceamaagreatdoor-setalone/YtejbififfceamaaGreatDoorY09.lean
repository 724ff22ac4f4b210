/- append of one member. class.Has. class.with. What each call of package class does, function by function, over the loaded program: first part: bits, join, Both, Either, Not, Has, with, Of, Many. class.Either. append, of nodes. The landed reader of package syn: in memory; more, sees, skip, misfitAt, take. The landed reader: more, misfitAt, sees, skip, take, close. Library functions that the program calls (strings.Builder, strings.IndexByte), as the shelf's contracts say them of this program. -/
import Derived.Test.YtejbififfceamaaGreatDoorY08
import Derived.Deep.AppendLies
import Derived.Deep.RegionLaw
import Derived.Deep.RegionHeld3
import Derived.Test.YtejbififfceamaaGreatDoorY01
import Derived.Test.YtejbififfceamaaGreatDoorY02
import Derived.OwnWalk
import Derived.KernelRfl
import Derived.Test.YtejbififfceamaaGreatDoorY05
import Derived.Lib.BufferOwn
import Derived.Defers
import Derived.Recover
import Derived.Shelf.Strings.Builder1
import Derived.Shelf.Small.Strs
import Derived.WalkKit
import Derived.WalkSpells
import Derived.WalkLawsBesides
import Derived.Test.YtejbififfceamaaGreatDoorProg
namespace Go.Proofs.YtejbififfceamaaGreatDoor
set_option linter.unusedSimpArgs false
set_option linter.unusedVariables false
set_option maxRecDepth 100000
open Go.RowKit
theorem mbCells_one1 (y : Mbr × Value) (h : y.2.oneCell' = true) : ∀ u ∈ mbCells [y], u.oneCell' = true := by
  intro u hu
  simp [mbCells] at hu
  rcases hu with rfl | rfl | rfl | rfl
  · rfl
  · rfl
  · exact h
  · rfl
theorem mbCells_lie {W : World} {g2 : Nat} {y : Mbr × Value} (h0 : W.cell? ⟨g2, 0, none⟩ = some (.int .i64 (y.1.id : Int))) (h1 : W.cell? ⟨g2, 1, none⟩ = some (.string y.1.text)) (h2 : W.cell? ⟨g2, 2, none⟩ = some y.2) (h3 : W.cell? ⟨g2, 3, none⟩ = some (.string y.1.need)) :
    ∀ j u, (mbCells [y])[j]? = some u → W.cell? ((⟨g2, 0, none⟩ : Addr).add j) = some u := by
  intro j u hj
  match j, hj with
  | 0, hj =>
    simp [mbCells] at hj
    subst hj
    rw [Addr.add_lit]
    exact h0
  | 1, hj =>
    simp [mbCells] at hj
    subst hj
    rw [Addr.add_lit]
    exact h1
  | 2, hj =>
    simp [mbCells] at hj
    subst hj
    rw [Addr.add_lit]
    exact h2
  | 3, hj =>
    simp [mbCells] at hj
    subst hj
    rw [Addr.add_lit]
    exact h3
  | j + 4, hj => simp [mbCells] at hj
theorem mb_info : (Tryz.prog.info? 73).map (fun i => (i.zero, i.size, i.bytes)) = some (some (.agg #[.int .i64 0, .string ByteArray.empty, .slice none 0 0, .string ByteArray.empty]), 4, 64) := by kernel_rfl
/-- append of one member, at a step of a region that draws. -/
theorem step_append_mb {ops : Array Oper} {o : Oper} {a : Act} {K : Act → World → Prop} {Q : Exit → Act → World → Prop} {E : Prop} {w : World} (hgd : o.guard = none) (s x : Operand)
    (ho : o.op = .call { callee := .builtin .append, args := #[s, x], argTypes := #[67, 67] })
    (B : Nat) (v : Value) (hs : a.eval s = v) (l : List (Mbr × Value)) (hown : MbOwn w B v l) (g2 c2 : Nat) (y : Mbr × Value) (hy : y.2.oneCell' = true) (hx : a.eval x = .slice (some ⟨g2, 0, none⟩) 1 c2)
    (h0 : w.cell? ⟨g2, 0, none⟩ = some (.int .i64 (y.1.id : Int))) (h1 : w.cell? ⟨g2, 1, none⟩ = some (.string y.1.text)) (h2 : w.cell? ⟨g2, 2, none⟩ = some y.2) (h3 : w.cell? ⟨g2, 3, none⟩ = some (.string y.1.need)) (hlen : l.length ≤ 1000000000) (hbase : B ≤ w.heap.size)
    (h : ∀ g cap w', MbOwn w' B (.slice (some ⟨g, 0, none⟩) (l.length + 1) cap) (l ++ [y]) → w.grownBy w' v.ownBlock → (v.ownBlock = some g ∨ w.heap.size ≤ g) → g < w'.heap.size → K (a.put o.dst (.slice (some ⟨g, 0, none⟩) (l.length + 1) cap)) w') :
    if Region.wanted o (yielded ops a.tmps) = true then Oper.wp Tryz.prog o a w K Q else E := by
  obtain ⟨i0, hi, hz0, hz1, hz2⟩ := info_parts mb_info
  refine step_append_lies w hgd s x 67 ho B 73 i0 _ 4 64 Tryz.underlying67 hi hz0 hz1 hz2 rfl (by decide) v l.length (mbCells l) hs hown ⟨g2, 0, none⟩ 1 c2 (mbCells [y]) hx rfl (mbCells_lie h0 h1 h2 h3) (mbCells_one1 y hy) (by omega) (by unfold maxLen; omega) (by omega) hbase w.heap.size rfl ?_
  intro g cap w' h1 h2 h3 h4
  refine h g cap w' ?_ h2 (h3.imp id (fun e => by omega)) h4
  unfold MbOwn
  rw [mbCells_append, List.length_append]
  exact h1
/-- append of one member. -/
theorem wpList_append_mb {ops : Array Oper} {rest : List Oper} {o : Oper} {a : Act} {Q : Exit → Act → World → Prop} {w : World} (hgd : o.guard = none) (s x : Operand)
    (ho : o.op = .call { callee := .builtin .append, args := #[s, x], argTypes := #[67, 67] })
    (B : Nat) (v : Value) (hs : a.eval s = v) (l : List (Mbr × Value)) (hown : MbOwn w B v l) (g2 c2 : Nat) (y : Mbr × Value) (hy : y.2.oneCell' = true) (hx : a.eval x = .slice (some ⟨g2, 0, none⟩) 1 c2)
    (h0 : w.cell? ⟨g2, 0, none⟩ = some (.int .i64 (y.1.id : Int))) (h1 : w.cell? ⟨g2, 1, none⟩ = some (.string y.1.text)) (h2 : w.cell? ⟨g2, 2, none⟩ = some y.2) (h3 : w.cell? ⟨g2, 3, none⟩ = some (.string y.1.need)) (hlen : l.length ≤ 1000000000) (hbase : B ≤ w.heap.size)
    (h : ∀ g cap w', MbOwn w' B (.slice (some ⟨g, 0, none⟩) (l.length + 1) cap) (l ++ [y]) → w.grownBy w' v.ownBlock → wpList Tryz.prog ops Q rest (a.put o.dst (.slice (some ⟨g, 0, none⟩) (l.length + 1) cap)) w') : wpList Tryz.prog ops Q (o :: rest) a w := by
  obtain ⟨i0, hi, hz0, hz1, hz2⟩ := info_parts mb_info
  refine wpList_append_lies w hgd s x 67 ho B 73 i0 _ 4 64 Tryz.underlying67 hi hz0 hz1 hz2 rfl (by decide) v l.length (mbCells l) hs hown ⟨g2, 0, none⟩ 1 c2 (mbCells [y]) hx rfl (mbCells_lie h0 h1 h2 h3) (mbCells_one1 y hy) (by omega) (by unfold maxLen; omega) (by omega) hbase w.heap.size rfl ?_
  intro g cap w' h1 h2 h3 h4
  refine h g cap w' ?_ h2
  unfold MbOwn
  rw [mbCells_append, List.length_append]
  exact h1
end Go.Proofs.YtejbififfceamaaGreatDoor
namespace Go.Proofs.YtejbififfceamaaGreatDoor
set_option linter.unusedSimpArgs false
set_option linter.unusedVariables false
set_option maxRecDepth 100000
open Go.RowKit
set_option maxHeartbeats 400000 in
theorem has_any (k : C4) (x : Int) (w : World) (h : 0 ≤ x) (h2 : x < 256) :
    Calls Tryz.prog 141 #[k.v, .int .u8 x] w fun e w' => e = .returned (.bool (k.hasI x)) ∧ Below w.heap.size w w' := by
  have hw := k.get (x/64).toNat (by omega)
  go_enter Tryz.func141, Tryz.ntmps141
  go_wp2
  go_ret
  exact ⟨rfl, (Below.refl _ _).alloc (Nat.le_refl _) _⟩
end Go.Proofs.YtejbififfceamaaGreatDoor
namespace Go.Proofs.YtejbififfceamaaGreatDoor
set_option linter.unusedSimpArgs false
set_option linter.unusedVariables false
set_option maxRecDepth 100000
open Go.RowKit
set_option maxHeartbeats 400000 in
theorem with_any (k : C4) (x : Int) (w : World) (h : 0 ≤ x) (h2 : x < 256) :
    Calls Tryz.prog 128 #[k.v, .int .u8 x] w fun e w' => e = .returned (k.add x).v ∧ Below w.heap.size w w' := by
  have hw := k.get (x/64).toNat (by omega)
  have hs := k.set (x/64).toNat (by omega)
  go_enter Tryz.func128, Tryz.ntmps128
  go_wp2
  refine bodyPost_ret (v := (k.add x).v) (by simp [results, Tryz.results128, go_sem]; exact ⟨rfl, rfl, rfl, rfl⟩) rfl ⟨rfl, ?_⟩
  exact ((Below.refl _ _).alloc (Nat.le_refl _) _).alloc (by simp) _
end Go.Proofs.YtejbififfceamaaGreatDoor
namespace Go.Proofs.YtejbififfceamaaGreatDoor
set_option linter.unusedSimpArgs false
set_option linter.unusedVariables false
set_option maxRecDepth 100000
open Go.RowKit

theorem not1_any (x y : Int) (w : World) :
    Calls Tryz.prog 143 #[.int .u64 x, .int .u64 y] w fun e w' => e = .returned (.int .u64 (not64 x)) ∧ w' = w := by
  have hs : ¬ IntKind.u64.signed = true := by decide
  go_enter Tryz.func143, Tryz.ntmps143
  go_wp2
  all_goals first | (exfalso; exact hs ‹_›) | skip
  all_goals (go_ret; exact ⟨rfl, rfl⟩)
set_option maxHeartbeats 1000000 in
theorem join_any (g : Nat) (F : Int → Int → Int) (hg : ∀ (p q : Int) (w : World), Calls Tryz.prog g #[.int .u64 p, .int .u64 q] w fun e w' => e = .returned (.int .u64 (F p q)) ∧ w' = w)
    (he : ∀ args w, (callFunc g args).run Tryz.prog w = .ok (.enter g args) w) (x y : C4) (w : World) :
    Calls Tryz.prog 142 #[x.v, y.v, .func (.func g) #[] #[]] w fun e w' => e = .returned (jn F x y 4).v ∧ Below w.heap.size w w' := by
  have HG := (show Hid _ from hg)
  clear hg
  go_enter Tryz.func142, Tryz.ntmps142
  go_wp2
  go_loopw [9] (fun i wr => ∃ k : Nat, k ≤ 4 ∧ i = .int .i64 k ∧ Below w.heap.size w wr ∧ Hb wr w.heap.size x ∧ Hb wr (w.heap.size + 1) y ∧ Hb wr (w.heap.size + 1 + 1) z4 ∧ Hb wr (w.heap.size + 1 + 1 + 1) (jn F x y k)) (fun i _ => 4 - (intOf i).toNat)
  case atStart =>
    refine ⟨0, by omega, rfl, ?_, ?_, ?_, ?_, ?_⟩
    · exact ((((Below.refl _ _).alloc (Nat.le_refl _) _).alloc (by simp) _).alloc (by simp; omega) _).alloc (by simp; omega) _
    · exact (((Hb.new _ x _ rfl).alloc _).alloc _).alloc _
    · exact ((Hb.new _ y _ (by simp)).alloc _).alloc _
    · exact (Hb.new _ z4 _ (by simp)).alloc _
    · exact Hb.new _ (jn F x y 0) _ (by simp)
  case round =>
    obtain ⟨k, hk, rfl, hB, hX, hY, hZ, hJ⟩ := hrel
    by_cases hlt : k < 4
    · have cx := hX.cell k hlt
      have cy := hY.cell k hlt
      have cj := hJ.cell k hlt
      have fj := hJ.frozen k
      have i0 : (0 : Int) ≤ (k : Int) := by omega
      have i1 : (k : Int) < 4 := by omega
      have sx := fun v => (hX.other ⟨w.heap.size + 1 + 1 + 1, k, none⟩ v (by simp only; omega)).cell k hlt
      have sy := fun v => (hY.other ⟨w.heap.size + 1 + 1 + 1, k, none⟩ v (by simp only; omega)).cell k hlt
      go_wp2_with fail
      go_region_held3 (fun w' => w'.cell? ⟨w.heap.size, k, none⟩ = some (.int .u64 (x.w k)) ∧ w'.cell? ⟨w.heap.size + 1, k, none⟩ = some (.int .u64 (y.w k))) (go_keep)
        (first | (refine (HG.out _ _ _).mono ?_; rintro e w' ⟨rfl, rfl⟩))
      all_goals go_wp2
      refine ⟨⟨k + 1, by omega, by go_num, ?_, ?_, ?_, ?_, ?_⟩, by simp [intOf]; omega⟩
      · exact (hB.setCell (by simp; omega) _).drew
      · exact (hX.other _ _ (by simp only; omega)).drew
      · exact (hY.other _ _ (by simp only; omega)).drew
      · exact (hZ.other _ _ (by simp only; omega)).drew
      · rw [← jn_put F x y k hlt]
        exact (hJ.store k hlt _).drew
    · have hk4 : k = 4 := by omega
      subst hk4
      have c0 := hJ.c0
      have c1 := hJ.c1
      have c2 := hJ.c2
      have c3 := hJ.c3
      have d0 := hZ.c0
      have d1 := hZ.c1
      have d2 := hZ.c2
      have d3 := hZ.c3
      have f0 := hZ.frozen 0
      have f1 := hZ.frozen 1
      have f2 := hZ.frozen 2
      have f3 := hZ.frozen 3
      go_wp2
      have hq := hZ.put4 (jn F x y 4)
      refine bodyPost_ret (v := (jn F x y 4).v) (by simp [results, Tryz.results142, go_sem, hq.c0, hq.c1, hq.c2, hq.c3]) rfl ⟨rfl, ?_⟩
      exact (((hB.setCell (by simp; omega) _).setCell (by simp; omega) _).setCell (by simp; omega) _).setCell (by simp; omega) _

theorem enters_not1 : ∀ args w, (callFunc 143 args).run Tryz.prog w = .ok (.enter 143 args) w := fun _ _ => by kernel_rfl
end Go.Proofs.YtejbififfceamaaGreatDoor
namespace Go.Proofs.YtejbififfceamaaGreatDoor
set_option linter.unusedSimpArgs false
set_option linter.unusedVariables false
open Go.RowKit
theorem either1_any (x y : Int) (w : World) :
    Calls Tryz.prog 154 #[.int .u64 x, .int .u64 y] w fun e w' => e = .returned (.int .u64 (bits .or .u64 x y)) ∧ w' = w := by
  go_enter Tryz.func154, Tryz.ntmps154
  go_wp2
  go_ret
  exact ⟨rfl, rfl⟩
theorem enters_either1 : ∀ args w, (callFunc 154 args).run Tryz.prog w = .ok (.enter 154 args) w := fun _ _ => by kernel_rfl
set_option maxHeartbeats 400000 in
theorem either_any (x y : C4) (w : World) :
    Calls Tryz.prog 145 #[x.v, y.v] w fun e w' => e = .returned (x.or y).v ∧ Below w.heap.size w w' := by
  go_enter Tryz.func145, Tryz.ntmps145
  go_wp2_with fail
  refine (join_any 154 _ either1_any enters_either1 x y _).mono ?_
  rintro e w1 ⟨rfl, hb⟩
  have hB : Below w.heap.size w w1 := ((((Below.refl _ _).alloc (Nat.le_refl _) _).alloc (by simp) _).alloc (by simp; omega) _).trans (hb.mono (by simp; omega))
  have hZ : Hb w1 (w.heap.size + 1 + 1) z4 := (Hb.new _ z4 _ (by simp)).below hb (by simp)
  obtain ⟨d0, d1, d2, d3, f0, f1, f2, f3⟩ := hZ.all
  go_wp2
  have hq := hZ.put4 (x.or y)
  refine bodyPost_ret (v := (x.or y).v) (by have g0 := hq.c0; have g1 := hq.c1; have g2 := hq.c2; have g3 := hq.c3; simp [jn, C4.and, C4.or, C4.not] at g0 g1 g2 g3 ⊢; simp [results, Tryz.results145, go_sem, C4.and, C4.or, g0, g1, g2, g3]) rfl ⟨rfl, ?_⟩
  exact below_put4 hB (by omega) _
end Go.Proofs.YtejbififfceamaaGreatDoor
namespace Go.Proofs.YtejbififfceamaaGreatDoor
set_option linter.unusedSimpArgs false
set_option linter.unusedVariables false
set_option maxRecDepth 100000
open Go.RowKit

theorem grown_cells {w4 w5 : World} {r : Nat} {xs : List Value} (h : w4.grownBy w5 (some r)) {g : Nat} (hg : g < w4.heap.size) (hne : g ≠ r) (hc : ∀ (j : Nat) u, xs[j]? = some u → w4.cell? ⟨g, j, none⟩ = some u) : ∀ (j : Nat) u, xs[j]? = some u → w5.cell? ⟨g, j, none⟩ = some u := by
  intro j u hj
  rw [World.cell?_of_block (a := ⟨g, j, none⟩) (h.block g hg (by intro e; injection e with e; exact hne e))]
  exact hc j u hj
/-- append, of nodes of the call's own to nodes of the call's own. -/
theorem wpList_append_ns {ops : Array Oper} {rest : List Oper} {o : Oper} {a : Act} {Q : Exit → Act → World → Prop} {w : World} (hgd : o.guard = none) (s x : Operand)
    (ho : o.op = .call { callee := .builtin .append, args := #[s, x], argTypes := #[60, 60] })
    (B : Nat) (v : Value) (hs : a.eval s = v) (ns : List Nd) (hown : NsOwn w B v ns) (g2 m2 c2 : Nat) (ms : List Nd) (hx : a.eval x = .slice (some ⟨g2, 0, none⟩) m2 c2) (hm2 : m2 = ms.length)
    (hnews : ∀ j u, (nsCells ms)[j]? = some u → w.cell? ⟨g2, j, none⟩ = some u) (hm : 0 < ms.length) (hbytes : (ns.length + ms.length) * 40 ≤ 140737488355328) (hbase : B ≤ w.heap.size)
    (h : ∀ g cap w', NsOwn w' B (.slice (some ⟨g, 0, none⟩) (ns.length + ms.length) cap) (ns ++ ms) → w.grownBy w' v.ownBlock → B ≤ g → g < w'.heap.size → wpList Tryz.prog ops Q rest (a.put o.dst (.slice (some ⟨g, 0, none⟩) (ns.length + ms.length) cap)) w') : wpList Tryz.prog ops Q (o :: rest) a w := by
  subst hm2
  have hinfo : (Tryz.prog.info? 106).map (fun i => (i.zero, i.size, i.bytes)) = some (some (.agg #[.int .i64 0, .int .u64 0, .int .u64 0, .int .u64 0, .int .u64 0]), 5, 40) := by kernel_rfl
  obtain ⟨i0, hi, hz0, hz1, hz2⟩ := info_parts hinfo
  refine wpList_append_lies w hgd s x 60 ho B 106 i0 _ 5 40 Tryz.underlying60 hi hz0 hz1 hz2 rfl (by decide) v ns.length (nsCells ns) hs hown ⟨g2, 0, none⟩ ms.length c2 (nsCells ms) hx (nsCells_len ms) ?_ (nsCells_one ms) hm (by unfold maxLen; omega) hbytes hbase w.heap.size rfl ?_
  · intro j u hj
    have e : (⟨g2, 0, none⟩ : Addr).add j = ⟨g2, j, none⟩ := by
      rcases j with _ | j <;> simp [Addr.add]
    rw [e]
    exact hnews j u hj
  · intro g cap w' h1 h2 h3 h4
    have e : NsOwn w' B (.slice (some ⟨g, 0, none⟩) (ns.length + ms.length) cap) (ns ++ ms) := by
      unfold NsOwn
      rw [nsCells_append, List.length_append]
      exact h1
    have hg : B ≤ g := by
      rcases h3 with h3 | h3
      · rcases hown.2 with ⟨hv, _⟩ | ⟨g', cap', cur, hv, hb, _⟩
        · rw [hv] at h3; cases h3
        · rw [hv] at h3
          injection h3 with h3
          simp at h3
          omega
      · omega
    exact h g cap w' e h2 hg h4
theorem NsOwn.keptG {w w' : World} {B g : Nat} {v : Value} {ns : List Nd} (h : NsOwn w B v ns) (hg : w.grownBy w' (some g)) (hlt : g < B) : NsOwn w' B v ns := by
  refine World.ownsRow.kept h hg ?_
  rcases h.2 with ⟨hv, _⟩ | ⟨b, cap, cur, hv, hb, _⟩
  · rw [hv]; exact Or.inl rfl
  · rw [hv]
    refine Or.inr ?_
    intro e
    injection e with e
    simp only at e
    omega
end Go.Proofs.YtejbififfceamaaGreatDoor
namespace Go.Proofs.YtejbififfceamaaGreatDoor
set_option linter.unusedSimpArgs false
set_option linter.unusedVariables false
set_option maxRecDepth 100000
open Go.RowKit

/-- Block g holds a reader. -/
def Rdr (w : World) (g : Nat) (s : ByteArray) (a : Int) (v : Value) (st : Bool) : Prop := w.heap[g]? = some (.cells #[.string s, .int .i64 a, v, .bool st] 116 (0, 0))
theorem Rdr.all {w : World} {g : Nat} {s : ByteArray} {a : Int} {v : Value} {st : Bool} (h : Rdr w g s a v st) : w.cell? ⟨g, 0, none⟩ = some (.string s) ∧ w.cell? ⟨g, 1, none⟩ = some (.int .i64 a) ∧ w.cell? ⟨g, 2, none⟩ = some v ∧ w.cell? ⟨g, 3, none⟩ = some (.bool st) ∧ w.frozen? ⟨g, 1, none⟩ = false ∧ w.frozen? ⟨g, 2, none⟩ = false ∧ w.frozen? ⟨g, 3, none⟩ = false := by
  refine ⟨?_, ?_, ?_, ?_, Lib.frozen_of_heap h 1, Lib.frozen_of_heap h 2, Lib.frozen_of_heap h 3⟩ <;> (rw [Lib.cell_of_heap h]; rfl)
theorem Rdr.lt {w : World} {g : Nat} {s : ByteArray} {a : Int} {v : Value} {st : Bool} (h : Rdr w g s a v st) : g < w.heap.size := by
  rcases Nat.lt_or_ge g w.heap.size with h' | h'
  · exact h'
  · simp [Rdr, Array.getElem?_eq_none h'] at h
theorem Rdr.setPlace {w : World} {g : Nat} {s : ByteArray} {a : Int} {v : Value} {st : Bool} (h : Rdr w g s a v st) (z : Int) : Rdr (w.setCell ⟨g, 1, none⟩ (.int .i64 z)) g s z v st := by
  simp only [Rdr] at h ⊢
  simp [World.setCell, Array.getElem?_modify, h]
theorem Rdr.setNodes {w : World} {g : Nat} {s : ByteArray} {a : Int} {v : Value} {st : Bool} (h : Rdr w g s a v st) (u : Value) : Rdr (w.setCell ⟨g, 2, none⟩ u) g s a u st := by
  simp only [Rdr] at h ⊢
  simp [World.setCell, Array.getElem?_modify, h]
theorem Rdr.setStuck {w : World} {g : Nat} {s : ByteArray} {a : Int} {v : Value} {st : Bool} (h : Rdr w g s a v st) (z : Bool) : Rdr (w.setCell ⟨g, 3, none⟩ (.bool z)) g s a v z := by
  simp only [Rdr] at h ⊢
  simp [World.setCell, Array.getElem?_modify, h]
theorem Rdr.below {w w' : World} {g : Nat} {s : ByteArray} {a : Int} {v : Value} {st : Bool} (h : Rdr w g s a v st) (hb : Below w.heap.size w w') : Rdr w' g s a v st := (hb.block g h.lt).trans h
theorem Rdr.alloc {w : World} {g : Nat} {s : ByteArray} {a : Int} {v : Value} {st : Bool} (h : Rdr w g s a v st) (o : Obj) : Rdr (w.alloc o) g s a v st := (Below.heap_alloc w o g h.lt).trans h
theorem Rdr.ca {w : World} {g : Nat} {s : ByteArray} {a : Int} {v : Value} {st : Bool} (h : Rdr w g s a v st) : (∀ o, (w.alloc o).cell? ⟨g, 0, none⟩ = some (.string s)) ∧ (∀ o, (w.alloc o).cell? ⟨g, 1, none⟩ = some (.int .i64 a)) ∧ (∀ o, (w.alloc o).cell? ⟨g, 2, none⟩ = some v) ∧ (∀ o, (w.alloc o).cell? ⟨g, 3, none⟩ = some (.bool st)) ∧ (∀ o, (w.alloc o).frozen? ⟨g, 1, none⟩ = false) ∧ (∀ o, (w.alloc o).frozen? ⟨g, 2, none⟩ = false) ∧ (∀ o, (w.alloc o).frozen? ⟨g, 3, none⟩ = false) :=
  ⟨fun o => (h.alloc o).all.1, fun o => (h.alloc o).all.2.1, fun o => (h.alloc o).all.2.2.1, fun o => (h.alloc o).all.2.2.2.1, fun o => (h.alloc o).all.2.2.2.2.1, fun o => (h.alloc o).all.2.2.2.2.2.1, fun o => (h.alloc o).all.2.2.2.2.2.2⟩
theorem grown_cell (w : World) (g : Nat) (i : Nat) (v : Value) : w.grownBy (w.setCell ⟨g, i, none⟩ v) (some g) := Lib.grownBy_setB (World.grownBy.refl w _) i v
theorem grown_of_below {w w' : World} (hb : Below w.heap.size w w') (row : Option Nat) : w.grownBy w' row := ⟨hb.os, hb.tape, hb.output, hb.size, fun k hk _ => hb.block k hk⟩
theorem grown_trans {w w1 w2 : World} {row : Option Nat} (h1 : w.grownBy w1 row) (h2 : w1.grownBy w2 row) : w.grownBy w2 row :=
  ⟨h2.os.trans h1.os, h2.tape.trans h1.tape, h2.output.trans h1.output, Nat.le_trans h1.size h2.size, fun k hk hn => (h2.block k (Nat.lt_of_lt_of_le hk h1.size) hn).trans (h1.block k hk hn)⟩
theorem below_of_grown {w w' : World} {g B : Nat} (h : w.grownBy w' (some g)) (hB : B ≤ g) (hg : g ≤ w.heap.size) : Below B w w' :=
  ⟨h.os, h.tape, h.output, h.size, fun k hk => h.block k (by omega) (by intro e; injection e with e; omega)⟩
theorem str_len (s : ByteArray) : s.data.toList.length = s.size := Array.length_toList
theorem str_idx (s : ByteArray) (a : Nat) (c : UInt8) (h : s.data.toList[a]? = some c) (w : World) : (Instr.index 9 (.string s) (.int .i64 (a : Int))).run Tryz.prog w = .ok (.int .u8 (c.toNat : Int)) w := by
  have hl : a < s.data.toList.length := by
    rcases Nat.lt_or_ge a s.data.toList.length with h' | h'
    · exact h'
    · rw [List.getElem?_eq_none h'] at h; cases h
  have hs : a < s.size := by rw [← str_len]; exact hl
  rw [run_index_string w 9 s .i64 (a : Int) Tryz.underlying9, dif_pos ⟨by omega, by omega⟩]
  rw [List.getElem?_eq_getElem hl] at h
  have e : s[(a : Int).toNat]'(by simpa using hs) = c := by
    exact Option.some.inj h
  rw [e]
theorem dropc (L : List UInt8) (a : Nat) (c : UInt8) (r : List UInt8) (h : L.drop a = c :: r) : L[a]? = some c ∧ L.drop (a + 1) = r ∧ a < L.length := by
  have hl : a < L.length := by
    rcases Nat.lt_or_ge a L.length with h' | h'
    · exact h'
    · rw [List.drop_eq_nil_of_le h'] at h; cases h
  rw [List.drop_eq_getElem_cons hl] at h
  injection h with h1 h2
  exact ⟨by rw [List.getElem?_eq_getElem hl, h1], h2, hl⟩
theorem dropn (L : List UInt8) (a : Nat) (h : L.drop a = []) : L.length ≤ a := by
  rcases Nat.lt_or_ge a L.length with h' | h'
  · rw [List.drop_eq_getElem_cons h'] at h; cases h
  · exact h'
/-- The reader at g stands ahead of l in the text s, at the place a, with the nodes v. -/
structure PA (w : World) (g : Nat) (s : ByteArray) (a : Nat) (v : Value) (l : List UInt8) : Prop where
  rd : Rdr w g s a v false
  at' : s.data.toList.drop a = l
  le : a + l.length = s.size
  small : s.size ≤ 200
theorem PA.below {w w' : World} {g : Nat} {s : ByteArray} {a : Nat} {v : Value} {l : List UInt8} (h : PA w g s a v l) (hb : Below w.heap.size w w') : PA w' g s a v l := ⟨h.rd.below hb, h.at', h.le, h.small⟩
theorem PA.lt {w : World} {g : Nat} {s : ByteArray} {a : Nat} {v : Value} {l : List UInt8} (h : PA w g s a v l) : g < w.heap.size := h.rd.lt
theorem PA.next {w : World} {g : Nat} {s : ByteArray} {a : Nat} {v : Value} {c : UInt8} {r : List UInt8} (h : PA w g s a v (c :: r)) (z : Int) (hz : z = ((a + 1 : Nat) : Int)) : PA (w.setCell ⟨g, 1, none⟩ (.int .i64 z)) g s (a + 1) v r := by
  subst hz
  have := h.le
  exact ⟨h.rd.setPlace _, (dropc _ _ _ _ h.at').2.1, by simp at this; omega, h.small⟩
/-- A misfit is on its way up. -/
def Stk (w : World) (g : Nat) : Prop := ∃ s a v, Rdr w g s a v true
theorem Stk.below {w w' : World} {g : Nat} (h : Stk w g) (hb : Below w.heap.size w w') : Stk w' g := by
  obtain ⟨s, a, v, h⟩ := h
  exact ⟨s, a, v, h.below hb⟩
/-- What is panicked with. -/
def mis (z : Int) : List PanicEntry := [{ v := .iface 113 (.agg #[.int .i64 z]), recovered := false }]
end Go.Proofs.YtejbififfceamaaGreatDoor
namespace Go.Proofs.YtejbififfceamaaGreatDoor
set_option linter.unusedSimpArgs false
set_option linter.unusedVariables false
set_option maxRecDepth 100000
open Go.RowKit
theorem ret_bool {a b : Bool} (h : a = b) : Ending.returned (.bool a) = .returned (.bool b) := by rw [h]
set_option maxHeartbeats 1000000 in
theorem more_any (g : Nat) (s : ByteArray) (a : Nat) (v : Value) (l : List UInt8) (w : World) (h : PA w g s a v l) :
    Calls Tryz.prog 47 #[.pointer (some ⟨g, 0, none⟩)] w fun e w' => e = .returned (.bool (decide (l ≠ []))) ∧ Below w.heap.size w w' := by
  obtain ⟨c0, c1, c2, c3, f1, f2, f3⟩ := h.rd.all
  have H : Hid (decide (a < s.size) = decide (l ≠ [])) := by
    show _ = _
    have := h.le
    cases l with
    | nil => simp at this ⊢; omega
    | cons c r => simp at this ⊢; omega
  clear h
  go_enter Tryz.func47, Tryz.ntmps47
  go_wp2_with fail
  go_quiet (fail)
  go_wp2
  go_ret
  exact ⟨ret_bool H.out, below_drewN' w nq⟩
set_option maxHeartbeats 1000000 in
theorem misfitAt_any (g : Nat) (s : ByteArray) (a : Int) (v : Value) (st : Bool) (z : Int) (w : World) (h : Rdr w g s a v st) :
    Calls Tryz.prog 48 #[.pointer (some ⟨g, 0, none⟩), .int .i64 z] w fun e w' => e = .returned (.agg #[.int .i64 z]) ∧ Stk w' g ∧ w.grownBy w' (some g) := by
  obtain ⟨c0, c1, c2, c3, f1, f2, f3⟩ := h.ca
  have hg := h.lt
  have H := hid h
  clear h
  have hne : ¬ g = w.heap.size := by omega
  have hne2 : ¬ w.heap.size = g := by omega
  go_enter Tryz.func48, Tryz.ntmps48
  go_wp2
  refine bodyPost_ret (v := .agg #[.int .i64 z]) (by simp [results, Tryz.results48, go_sem]) rfl ⟨rfl, ?_⟩
  exact ⟨⟨s, a, v, (H.out.setStuck true).alloc _⟩, grown_trans (grown_cell _ _ _ _) (grown_of_below ((Below.refl _ _).alloc (Nat.le_refl _) _) _)⟩
theorem more_nil (g : Nat) (s : ByteArray) (a : Nat) (v : Value) (w : World) (h : PA w g s a v []) :
    Calls Tryz.prog 47 #[.pointer (some ⟨g, 0, none⟩)] w fun e w' => e = .returned (.bool false) ∧ Below w.heap.size w w' := (more_any g s a v _ w h).mono fun _ _ x => ⟨x.1.trans (ret_bool (by simp)), x.2⟩
theorem more_cons (g : Nat) (s : ByteArray) (a : Nat) (v : Value) (c : UInt8) (r : List UInt8) (w : World) (h : PA w g s a v (c :: r)) :
    Calls Tryz.prog 47 #[.pointer (some ⟨g, 0, none⟩)] w fun e w' => e = .returned (.bool true) ∧ Below w.heap.size w w' := (more_any g s a v _ w h).mono fun _ _ x => ⟨x.1.trans (ret_bool (by simp)), x.2⟩
set_option maxHeartbeats 1000000 in
theorem rsees_any (g : Nat) (s : ByteArray) (a : Nat) (v : Value) (l : List UInt8) (b : UInt8) (z : Int) (hz : z = (b.toNat : Int)) (w : World) (h : PA w g s a v l) :
    Calls Tryz.prog 94 #[.pointer (some ⟨g, 0, none⟩), .int .u8 z] w fun e w' => e = .returned (.bool (decide (l.head? = some b))) ∧ Below w.heap.size w w' := by
  subst hz
  obtain ⟨c0, c1, c2, c3, f1, f2, f3⟩ := h.rd.all
  have d0 := cell_regrown c0
  have d1 := cell_regrown c1
  clear c0 c1 c2 c3 f1 f2 f3
  cases l with
  | nil =>
    have HM := hid fun d os => more_nil g s a v _ (h.below (below_regrown w d os))
    clear h
    go_enter Tryz.func94, Tryz.ntmps94
    go_wp2_with fail
    refine wp_region_quiet_below (by kernel_rfl) (by kernel_rfl) ?_
    repeat (go_big_quiet_step (first
      | (go_at_call 47; refine Calls.regrown_of (v := .bool false) ?_; exact HM.out _ _)))
    refine wpQuiet_nil ?_
    intro _ hw'
    obtain ⟨⟨dq, osq⟩, hw''⟩ := hw'
    have hb := below_regrown w dq osq
    subst hw''
    go_wp2
    go_ret
    exact ⟨rfl, hb⟩
  | cons c r =>
    obtain ⟨h1, _, h3⟩ := dropc _ _ _ _ h.at'
    have hi := str_idx s a c h1
    have HM := hid fun d os => more_cons g s a v c r _ (h.below (below_regrown w d os))
    clear h h1 h3
    by_cases hc : c = b
    · subst hc
      have e : ((c.toNat : Int) == (c.toNat : Int)) = true := by simp
      have HX : Hid (decide ((c :: r).head? = some c) = true) := by show _ = _; simp
      rw [HX.out]
      go_enter Tryz.func94, Tryz.ntmps94
      go_wp2_with fail
      refine wp_region_quiet_below (by kernel_rfl) (by kernel_rfl) ?_
      repeat (go_big_quiet_step (first
        | (go_at_call 47; refine Calls.regrown_of (v := .bool true) ?_; exact HM.out _ _)))
      refine wpQuiet_nil ?_
      intro _ hw'
      obtain ⟨⟨dq, osq⟩, hw''⟩ := hw'
      have hb := below_regrown w dq osq
      subst hw''
      go_wp2
      go_ret
      exact ⟨rfl, hb⟩
    · have e : ((c.toNat : Int) == (b.toNat : Int)) = false := by
        simp
        intro h
        exact hc (UInt8.toNat_inj.1 (by omega))
      have HX : Hid (decide ((c :: r).head? = some b) = false) := by show _ = _; simp [hc]
      rw [HX.out]
      go_enter Tryz.func94, Tryz.ntmps94
      go_wp2_with fail
      refine wp_region_quiet_below (by kernel_rfl) (by kernel_rfl) ?_
      repeat (go_big_quiet_step (first
        | (go_at_call 47; refine Calls.regrown_of (v := .bool true) ?_; exact HM.out _ _)))
      refine wpQuiet_nil ?_
      intro _ hw'
      obtain ⟨⟨dq, osq⟩, hw''⟩ := hw'
      have hb := below_regrown w dq osq
      subst hw''
      go_wp2
      go_ret
      exact ⟨rfl, hb⟩
set_option maxHeartbeats 1000000 in
theorem skip_no (g : Nat) (s : ByteArray) (a : Nat) (v : Value) (l : List UInt8) (b : UInt8) (z : Int) (hz : z = (b.toNat : Int)) (w : World) (h : PA w g s a v l) (hl : l.head? ≠ some b) :
    Calls Tryz.prog 68 #[.pointer (some ⟨g, 0, none⟩), .int .u8 z] w fun e w' => e = .returned (.bool false) ∧ Below w.heap.size w w' := by
  subst hz
  have HM := hid (rsees_any g s a v l b _ rfl w h)
  have HX : Hid (decide (l.head? = some b) = false) := by show _ = _; simp [hl]
  clear h hl
  go_enter Tryz.func68, Tryz.ntmps68
  go_wp2_with fail
  refine Calls.mono HM.out ?_
  rintro e w1 ⟨rfl, hb⟩
  rw [HX.out]
  go_wp2
  go_ret
  exact ⟨rfl, hb⟩
set_option maxHeartbeats 1000000 in
theorem skip_yes (g : Nat) (s : ByteArray) (a : Nat) (v : Value) (r : List UInt8) (b : UInt8) (z : Int) (hz : z = (b.toNat : Int)) (w : World) (h : PA w g s a v (b :: r)) :
    Calls Tryz.prog 68 #[.pointer (some ⟨g, 0, none⟩), .int .u8 z] w fun e w' => e = .returned (.bool true) ∧ PA w' g s (a + 1) v r ∧ w.grownBy w' (some g) := by
  subst hz
  have HM := hid (rsees_any g s a v _ b _ rfl w h)
  have HX : Hid (decide ((b :: r).head? = some b) = true) := by show _ = _; simp
  have HP := hid h
  clear h
  go_enter Tryz.func68, Tryz.ntmps68
  go_wp2_with fail
  refine Calls.mono HM.out ?_
  rintro e w1 ⟨rfl, hb⟩
  rw [HX.out]
  have hp := HP.out.below hb
  obtain ⟨c0, c1, c2, c3, f1, f2, f3⟩ := hp.rd.all
  have HP1 := hid hp
  clear hp
  have hadd : IntKind.i64.wrap ((a : Int) + 1) = ((a + 1 : Nat) : Int) := by
    have := HP.out.le
    have := HP.out.small
    rw [IntKind.wrap_i64]
    omega
  go_wp2
  go_ret
  exact ⟨rfl, HP1.out.next _ (by omega), grown_trans (grown_of_below hb _) (grown_cell _ _ _ _)⟩
set_option maxHeartbeats 1000000 in
theorem take_some (g : Nat) (s : ByteArray) (a : Nat) (v : Value) (c : UInt8) (r : List UInt8) (w : World) (h : PA w g s a v (c :: r)) :
    Calls Tryz.prog 147 #[.pointer (some ⟨g, 0, none⟩)] w fun e w' => e = .returned (.int .u8 (c.toNat : Int)) ∧ PA w' g s (a + 1) v r ∧ w.grownBy w' (some g) := by
  have HM := hid (more_cons g s a v c r w h)
  have HP := hid h
  have hi := str_idx s a c (dropc _ _ _ _ h.at').1
  clear h
  go_enter Tryz.func147, Tryz.ntmps147
  go_wp2_with fail
  refine Calls.mono HM.out ?_
  rintro e w1 ⟨rfl, hb⟩
  have hp := HP.out.below hb
  obtain ⟨c0, c1, c2, c3, f1, f2, f3⟩ := hp.rd.all
  have HP1 := hid hp
  have hadd : IntKind.i64.wrap ((a : Int) + 1) = ((a + 1 : Nat) : Int) := by
    have := HP.out.le
    have := HP.out.small
    rw [IntKind.wrap_i64]
    omega
  clear hp
  go_wp2
  have hp2 := HP1.out.next ((a : Int) + 1) (by omega)
  have hg2 := grown_cell w1 g 1 (.int .i64 ((a : Int) + 1))
  generalize w1.setCell ⟨g, 1, none⟩ (.int .i64 ((a : Int) + 1)) = w2 at *
  clear c0 c1 c2 c3 f1 f2 f3
  obtain ⟨c0, c1, c2, c3, f1, f2, f3⟩ := hp2.rd.all
  rw [show ((a + 1 : Nat) : Int) = (a : Int) + 1 from by omega] at c1
  have HP2 := hid hp2
  have hsub : IntKind.i64.wrap (a : Int) = (a : Int) := by
    have := HP.out.le
    have := HP.out.small
    rw [IntKind.wrap_i64]
    omega
  have hsub2 : (a : Int) + 1 - 1 = (a : Int) := by omega
  clear hp2
  go_quiet (fail)
  go_wp2
  go_ret
  exact ⟨rfl, HP2.out.below (below_drewN' w2 nq), grown_trans (grown_of_below hb _) (grown_trans hg2 (grown_of_below (below_drewN' w2 nq) _))⟩
set_option maxHeartbeats 1000000 in
theorem take_none (g : Nat) (s : ByteArray) (a : Nat) (v : Value) (w : World) (h : PA w g s a v []) :
    Calls Tryz.prog 147 #[.pointer (some ⟨g, 0, none⟩)] w fun e w' => e = .panicked (mis s.size) ∧ Stk w' g ∧ w.grownBy w' (some g) := by
  have HM := hid (more_nil g s a v w h)
  have HP := hid h
  have HA : Hid ((a : Int) = s.size) := by
    have := h.le
    simp at this
    show _ = _
    omega
  clear h
  go_enter Tryz.func147, Tryz.ntmps147
  go_wp2_with fail
  refine Calls.mono HM.out ?_
  rintro e w1 ⟨rfl, hb⟩
  have hp := HP.out.below hb
  obtain ⟨c0, c1, c2, c3, f1, f2, f3⟩ := hp.rd.all
  have HQ := hid (misfitAt_any g s a v false a w1 hp.rd)
  clear hp
  go_wp2_with fail
  refine Calls.mono HQ.out ?_
  rintro e w2 ⟨rfl, hs, hg⟩
  go_wp2
  refine ⟨rfl, ?_, hs, grown_trans (grown_of_below hb _) hg⟩
  rw [HA.out]
  rfl
set_option maxHeartbeats 1000000 in
theorem close_stuck (g : Nat) (z : Int) (u : FrameMode) (w : World) (h : Stk w g) :
    CallsD Tryz.prog 144 #[.pointer (some ⟨g, 0, none⟩), .int .u8 z] u w fun e u' w' => u' = u ∧ (e = .returned (.tuple #[]) ∧ Below w.heap.size w w') := by
  obtain ⟨s, a, v, hr⟩ := h
  obtain ⟨c0, c1, c2, c3, f1, f2, f3⟩ := hr.all
  clear hr
  go_enter_d Tryz.func144, Tryz.ntmps144
  go_wp2_with fail
  go_end0
  exact ⟨rfl, Below.refl _ _⟩
set_option maxHeartbeats 1000000 in
theorem close_yes (g : Nat) (s : ByteArray) (a : Nat) (v : Value) (r : List UInt8) (b : UInt8) (u : FrameMode) (w : World) (h : PA w g s a v (b :: r)) :
    CallsD Tryz.prog 144 #[.pointer (some ⟨g, 0, none⟩), .int .u8 (b.toNat : Int)] u w fun e u' w' => u' = u ∧ (e = .returned (.tuple #[]) ∧ PA w' g s (a + 1) v r ∧ w.grownBy w' (some g)) := by
  obtain ⟨c0, c1, c2, c3, f1, f2, f3⟩ := h.rd.all
  have HS := hid (skip_yes g s a v r b _ rfl w h)
  clear h
  go_enter_d Tryz.func144, Tryz.ntmps144
  go_wp2_with fail
  refine Calls.mono HS.out ?_
  rintro e w1 ⟨rfl, hp, hg⟩
  go_wp2
  go_end0
  exact ⟨rfl, hp, hg⟩
set_option maxHeartbeats 1000000 in
theorem close_no (g : Nat) (s : ByteArray) (a : Nat) (v : Value) (l : List UInt8) (b : UInt8) (u : FrameMode) (w : World) (h : PA w g s a v l) (hl : l.head? ≠ some b) :
    CallsD Tryz.prog 144 #[.pointer (some ⟨g, 0, none⟩), .int .u8 (b.toNat : Int)] u w fun e u' w' => u' = u ∧ (e = .panicked (mis ((s.size : Int) - (l.length : Int))) ∧ Stk w' g ∧ w.grownBy w' (some g)) := by
  obtain ⟨c0, c1, c2, c3, f1, f2, f3⟩ := h.rd.all
  have HS := hid (skip_no g s a v l b _ rfl w h hl)
  have HP := hid h
  have HA : Hid ((a : Int) = (s.size : Int) - (l.length : Int)) := by
    have := h.le
    show _ = _
    omega
  clear h hl
  go_enter_d Tryz.func144, Tryz.ntmps144
  go_wp2_with fail
  refine Calls.mono HS.out ?_
  rintro e w1 ⟨rfl, hb⟩
  have hp := HP.out.below hb
  clear c0 c1 c2 c3 f1 f2 f3
  obtain ⟨c0, c1, c2, c3, f1, f2, f3⟩ := hp.rd.all
  have HQ := hid (misfitAt_any g s a v false a w1 hp.rd)
  clear hp
  go_wp2_with fail
  refine Calls.mono HQ.out ?_
  rintro e w2 ⟨rfl, hs, hg⟩
  go_wp2
  refine ⟨rfl, ?_, hs, grown_trans (grown_of_below hb _) hg⟩
  rw [HA.out]
  rfl
end Go.Proofs.YtejbififfceamaaGreatDoor
namespace Go.Proofs.YtejbififfceamaaGreatDoor
set_option linter.unusedSimpArgs false
set_option linter.unusedVariables false
open Go.Shelf Go.RowKit

def strRen : Go.Shelf.Ren := ⟨fun | 169 => 163 | n => n, fun | 70 => 251 | 9 => 9 | 0 => 0 | 72 => 253 | 37 => 147 | 127 => 259 | 3 => 3 | 5 => 5 | n => n, fun | n => n⟩
theorem strLays : Go.Proofs.Lays.n169 Tryz.prog strRen := {
  mixed := by kernel_rfl
  f169 := Tryz.func163.trans (congrArg some (by kernel_rfl))
  t0 := Tryz.underlying0
  a0 := Tryz.isAgg0
  z0 := Tryz.sizeOf0
  v0 := Tryz.zeroValue0
  t3 := Tryz.underlying3
  a3 := Tryz.isAgg3
  z3 := Tryz.sizeOf3
  v3 := Tryz.zeroValue3
  t9 := Tryz.underlying9
  a9 := Tryz.isAgg9
  z9 := Tryz.sizeOf9
  v9 := Tryz.zeroValue9
  t37 := Tryz.underlying147
  a37 := Tryz.isAgg147
  z37 := Tryz.sizeOf147
  v37 := Tryz.zeroValue147
  t70 := Tryz.underlying251
  a70 := Tryz.isAgg251
  z70 := Tryz.sizeOf251
  v70 := Tryz.zeroValue251
  t72 := Tryz.underlying253
  a72 := Tryz.isAgg253
  z72 := Tryz.sizeOf253
  v72 := Tryz.zeroValue253
  t127 := Tryz.underlying259
  a127 := Tryz.isAgg259
  z127 := Tryz.sizeOf259
  v127 := Tryz.zeroValue259 }
theorem strExtra : Builder.Extra Tryz.prog strRen := {
  sizeBuilder := by kernel_rfl
  liesBuilder := by kernel_rfl
  t5 := Tryz.underlying5
  a5 := Tryz.isAgg5
  z5 := Tryz.sizeOf5
  v5 := Tryz.zeroValue5
  infoByte := by kernel_rfl
  cellsByte := by kernel_rfl
  sizeByte := by kernel_rfl
  neB5 := by decide }
theorem string_any (B b : Nat) (l : List UInt8) (w : World) (h : Lib.IsBuilder 253 5 B b (Lib.byteCells l) w) (hBw : B ≤ w.heap.size) :
    Calls Tryz.prog 163 #[.pointer (some ⟨b, 0, none⟩)] w fun e w' => e = .returned (.string ⟨l.toArray⟩) ∧ Below B w w' := Any.Builder_String_any strLays strExtra B b l w h hBw

def ixRen : Go.Shelf.Ren := ⟨fun | 137 => 156 | 217 => 113 | 266 => 129 | n => n, fun | 9 => 9 | 5 => 5 | 3 => 3 | n => n, fun | n => n⟩
theorem ixLays : Go.Proofs.Lays.n137 Tryz.prog ixRen := {
  mixed := by kernel_rfl
  f137 := Tryz.func156.trans (congrArg some (by kernel_rfl))
  f217 := Tryz.func113.trans (congrArg some (by kernel_rfl))
  f266 := Tryz.func129.trans (congrArg some (by kernel_rfl))
  t3 := Tryz.underlying3
  a3 := Tryz.isAgg3
  z3 := Tryz.sizeOf3
  v3 := Tryz.zeroValue3
  t5 := Tryz.underlying5
  a5 := Tryz.isAgg5
  z5 := Tryz.sizeOf5
  v5 := Tryz.zeroValue5
  t9 := Tryz.underlying9
  a9 := Tryz.isAgg9
  z9 := Tryz.sizeOf9
  v9 := Tryz.zeroValue9 }
theorem indexByte_any (s : ByteArray) (c : Int) (w : World) :
    Calls Tryz.prog 156 #[.string s, .int .u8 c] w fun e w' => e = .returned (.int .i64 (Lib.indexByte s.data.toList c.toNat.toUInt8)) ∧ w' = w := Any.strings_IndexByte ixLays s c w

/-! strings.Builder's writing: copyCheck, WriteString -/
set_option maxHeartbeats 1000000 in
set_option maxRecDepth 100000 in
theorem copyCheck_used (b : Nat) (w : World) (h0 : w.cell? ⟨b, 0, none⟩ = some (.pointer (some ⟨b, 0, none⟩))) :
    Calls Tryz.prog 164 #[.pointer (some ⟨b, 0, none⟩)] w fun e w' => e = .returned (.tuple #[]) ∧ w' = w := by
  obtain ⟨j, hj, _⟩ := Option.map_eq_some_iff.1 strExtra.sizeBuilder
  go_enter Tryz.func164, Tryz.ntmps164
  go_wp2
  rw [Lib.run_neq_ptr_same w _ Tryz.underlying251 hj]
  go_wp2
  go_end0
  exact ⟨rfl, rfl⟩
set_option maxHeartbeats 1000000 in
set_option maxRecDepth 100000 in
theorem copyCheck_fresh (b : Nat) (w : World) (h0 : w.cell? ⟨b, 0, none⟩ = some (.pointer none)) (hsh : w.shape? b = some (253, 2)) (hfz : w.frozen? ⟨b, 0, none⟩ = false) :
    Calls Tryz.prog 164 #[.pointer (some ⟨b, 0, none⟩)] w fun e w' => e = .returned (.tuple #[]) ∧ w' = w.setCell ⟨b, 0, none⟩ (.pointer (some ⟨b, 0, none⟩)) := by
  obtain ⟨j, hj, hjs⟩ := Option.map_eq_some_iff.1 strExtra.sizeBuilder
  go_enter Tryz.func164, Tryz.ntmps164
  go_wp2
  rw [Lib.run_to_unsafe w ⟨b, 0, none⟩ Tryz.underlying251 Tryz.underlying133 hj (by rw [hjs]; decide) hsh (Nat.zero_lt_succ 1)]
  simp only [Result.andThen]
  rw [Oper.upon_value]
  go_wp2
  rw [run_callFunc_extern Tryz.func166 (by kernel_rfl) (by kernel_rfl) (by kernel_rfl) (e := Extern.AbiNoEscape.same) (by kernel_rfl)]
  rw [Lib.run_noEscape]
  simp only [Result.andThen]
  rw [Oper.upon_value]
  go_wp2
  rw [Lib.run_from_unsafe w ⟨b, 0, none⟩ Tryz.underlying133 Tryz.underlying251 hj hsh strExtra.liesBuilder]
  simp only [Result.andThen]
  rw [Oper.upon_value]
  go_wp2
  go_end0
  exact ⟨rfl, rfl⟩
theorem copyCheck_any (B b : Nat) (bs : List Value) (w : World) (h : Lib.IsBuilder 253 5 B b bs w) :
    Calls Tryz.prog 164 #[.pointer (some ⟨b, 0, none⟩)] w fun e w' => e = .returned (.tuple #[]) ∧ (Lib.BuilderAt 253 5 B b (.pointer (some ⟨b, 0, none⟩)) bs w' ∧ Below B w w') := by
  rcases h with h | h
  · refine (copyCheck_fresh b w h.cell0 h.shape h.frozen0).mono ?_
    rintro e w' ⟨rfl, rfl⟩
    exact ⟨rfl, h.used _, (Below.refl B w).setCell (p := ⟨b, 0, none⟩) h.1 _⟩
  · refine (copyCheck_used b w h.cell0).mono ?_
    rintro e w' ⟨rfl, rfl⟩
    exact ⟨rfl, h, Below.refl B _⟩
set_option maxHeartbeats 1000000 in
set_option maxRecDepth 100000 in
theorem writeString_any (B b : Nat) (bs : List Value) (s : ByteArray) (w : World) (h : Lib.IsBuilder 253 5 B b bs w) (hlen : bs.length + s.size ≤ 140737488355328) (hBw : B ≤ w.heap.size) :
    Calls Tryz.prog 161 #[.pointer (some ⟨b, 0, none⟩), .string s] w fun e w' => e = .returned (.tuple #[.int .i64 s.size, .nilIface]) ∧ (Lib.BuilderAt 253 5 B b (.pointer (some ⟨b, 0, none⟩)) (bs ++ Lib.strCells s) w' ∧ Below B w w') := by
  obtain ⟨i0, hi, hz0, hz1, hz2⟩ := info_parts strExtra.infoByte
  go_enter Tryz.func161, Tryz.ntmps161
  go_wp2_with (go_at_call 164; refine (copyCheck_any B b bs _ h).mono ?_)
  rintro e w1 ⟨rfl, h1, hb1⟩
  obtain ⟨hB, v, hbk, hown, hne⟩ := h1
  have c0 : w1.cell? ⟨b, 0, none⟩ = some (.pointer (some ⟨b, 0, none⟩)) := by rw [Lib.cell_of_heap hbk]; rfl
  have c1 : w1.cell? ⟨b, 1, none⟩ = some v := by rw [Lib.cell_of_heap hbk]; rfl
  go_wp2_with (at_builtin; refine Lib.wpList_append_own_string _ rfl _ _ 147 9 rfl B 5 i0 Tryz.underlying147 Tryz.underlying9 hi hz0 hz1 hz2 _ _ _ rfl hown s rfl ?c3 ?c4 ?c5 ?_)
  case c3 => unfold maxLen; omega
  case c4 => omega
  case c5 => have := hb1.size; omega
  intro v' w2 hown' hgrow _
  have hlt : b < w1.heap.size := by
    rcases Nat.lt_or_ge b w1.heap.size with h' | h'
    · exact h'
    · simp [Array.getElem?_eq_none h'] at hbk
  have hb2 : w2.heap[b]? = some (.cells #[.pointer (some ⟨b, 0, none⟩), v] 253 (0, 0)) := by
    rw [hgrow.block b hlt (fun e => hne e.symm)]
    exact hbk
  have d0 : w2.cell? ⟨b, 0, none⟩ = some (.pointer (some ⟨b, 0, none⟩)) := by rw [Lib.cell_of_heap hb2]; rfl
  have d1 : w2.cell? ⟨b, 1, none⟩ = some v := by rw [Lib.cell_of_heap hb2]; rfl
  have f1 : w2.frozen? ⟨b, 1, none⟩ = false := Lib.frozen_of_heap hb2 1
  obtain ⟨ao, n', cap, rfl⟩ : ∃ ao n' cap, v' = .slice ao n' cap := by
    rcases hown'.2 with ⟨hv, _⟩ | ⟨g, cap, cur, hv, _⟩
    · exact ⟨_, _, _, hv⟩
    · exact ⟨_, _, _, hv⟩
  go_wp2
  go_ret2
  refine ⟨rfl, ?_, ?_⟩
  · exact Lib.BuilderAt.put (T := 253) (e := 5) hB hb2 (bs' := bs ++ Lib.strCells s) (by simpa [Lib.strCells_length] using hown') strExtra.neB5
  · exact (hb1.grown hgrow (by have := hb1.size; omega) (fun k hk => (hown.lt k hk).1)).setCell (p := ⟨b, 1, none⟩) hB _
end Go.Proofs.YtejbififfceamaaGreatDoor

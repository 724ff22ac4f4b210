/- The landed writer of package syn: a Builder inside a writer: copyCheck, WriteString, WriteByte, Len. The landed writer: String; needsBrackets. The landed writer: needsBrackets. What each call of package class does, function by function, over the loaded program: first part: bits, join, Both, Either, Not, Has, with, Of, Many. What each call of package class does: second part: Not, Many, Of. What each call of package class does: third part: byteText, runText, runEnd, runs. What each call of package class does: fourth part: runEnd, runs. -/
import Derived.Test.YtmdfdlljeggbbaaGreatDoorY14
import Derived.Test.YtmdfdlljeggbbaaGreatDoorY03
import Derived.Test.YtmdfdlljeggbbaaGreatDoorY01
namespace Go.Proofs.YtmdfdlljeggbbaaGreatDoor
set_option linter.unusedSimpArgs false
set_option linter.unusedVariables false
set_option maxRecDepth 100000
open Go.RowKit
/-- Block g holds a writer with the text l and the nodes nv; rows of its own lie from B on. -/
def Wrt (w : World) (B g : Nat) (nv : Value) (l : List UInt8) : Prop := ∃ p v, w.heap[g]? = some (.cells #[p, v, nv] 52 (0, 0)) ∧ (p = .pointer none ∨ p = .pointer (some ⟨g, 0, none⟩)) ∧ w.ownsRow B 5 1 v l.length (Lib.byteCells l) ∧ g < B ∧ (l = [] → v = .slice none 0 0)
theorem Wrt.lt {w : World} {B g : Nat} {nv : Value} {l : List UInt8} (h : Wrt w B g nv l) : g < w.heap.size := by
  obtain ⟨p, v, h, _⟩ := h
  rcases Nat.lt_or_ge g w.heap.size with h' | h'
  · exact h'
  · rw [Array.getElem?_eq_none h'] at h; cases h
theorem Wrt.below {w w' : World} {B g : Nat} {nv : Value} {l : List UInt8} (h : Wrt w B g nv l) (hb : Below w.heap.size w w') : Wrt w' B g nv l := by
  have hlt := h.lt
  obtain ⟨p, v, h1, hp, hO, hg⟩ := h
  refine ⟨p, v, (hb.block g hlt).trans h1, hp, ?_, hg⟩
  refine World.ownsRow.kept (row := none) hO ⟨hb.os, hb.tape, hb.output, hb.size, fun k hk _ => hb.block k hk⟩ ?_
  cases hv : v.ownBlock with
  | none => exact Or.inl rfl
  | some x => exact Or.inr (by simp)
theorem lies_writer : liesAt Tryz.prog Tryz.prog.depth 52 (3 / Tryz.prog.cellsOf 52) 0 50 1 = true := by kernel_rfl
set_option maxHeartbeats 1000000 in
theorem wcheck_fresh (b : Nat) (w : World) (h0 : w.cell? ⟨b, 0, none⟩ = some (.pointer none)) (hsh : w.shape? b = some (52, 3)) (hfz : w.frozen? ⟨b, 0, none⟩ = false) :
    Calls Tryz.prog 44 #[.pointer (some ⟨b, 0, none⟩)] w fun e w' => e = .returned (.tuple #[]) ∧ w' = w.setCell ⟨b, 0, none⟩ (.pointer (some ⟨b, 0, none⟩)) := by
  obtain ⟨j, hj, hjs⟩ := Option.map_eq_some_iff.1 strExtra.sizeBuilder
  go_enter Tryz.func44, Tryz.ntmps44
  go_wp2
  rw [Lib.run_to_unsafe w ⟨b, 0, none⟩ Tryz.underlying47 Tryz.underlying90 hj (by rw [hjs]; decide) hsh (Nat.zero_lt_succ 2)]
  simp only [Result.andThen]
  rw [Oper.upon_value]
  go_wp2
  rw [run_callFunc_extern Tryz.func60 (by kernel_rfl) (by kernel_rfl) (by kernel_rfl) (e := Extern.AbiNoEscape.same) (by kernel_rfl)]
  rw [Lib.run_noEscape]
  simp only [Result.andThen]
  rw [Oper.upon_value]
  go_wp2
  rw [Lib.run_from_unsafe w ⟨b, 0, none⟩ Tryz.underlying90 Tryz.underlying47 hj hsh lies_writer]
  simp only [Result.andThen]
  rw [Oper.upon_value]
  go_wp2
  go_end0
  exact ⟨rfl, rfl⟩
/-- copyCheck: behind it the writer knows itself. -/
theorem wcheck_any (B g : Nat) (nv : Value) (l : List UInt8) (w : World) (h : Wrt w B g nv l) :
    Calls Tryz.prog 44 #[.pointer (some ⟨g, 0, none⟩)] w fun e w' => e = .returned (.tuple #[]) ∧ w.grownBy w' (some g) ∧ ∃ v, w'.heap[g]? = some (.cells #[.pointer (some ⟨g, 0, none⟩), v, nv] 52 (0, 0)) ∧ w'.ownsRow B 5 1 v l.length (Lib.byteCells l) ∧ g < B ∧ (l = [] → v = .slice none 0 0) := by
  obtain ⟨p, v, h1, hp, hO, hg⟩ := h
  have c0 : w.cell? ⟨g, 0, none⟩ = some p := by rw [Lib.cell_of_heap h1]; rfl
  rcases hp with rfl | rfl
  · refine (wcheck_fresh g w c0 (by simp [World.shape?, h1]) (Lib.frozen_of_heap h1 0)).mono ?_
    rintro e w' ⟨rfl, rfl⟩
    have hgr := grown_cell w g 0 (.pointer (some ⟨g, 0, none⟩))
    refine ⟨rfl, hgr, v, ?_, ?_, hg⟩
    · simp [World.setCell, Array.getElem?_modify, h1]
    · refine World.ownsRow.kept hO hgr ?_
      rcases hO.2 with ⟨hv, _⟩ | ⟨b, cap, cur, hv, hb, _⟩
      · rw [hv]; exact Or.inl rfl
      · rw [hv]
        refine Or.inr ?_
        intro e
        injection e with e
        simp only at e
        omega
  · refine (copyCheck_used g w c0).mono ?_
    rintro e w' ⟨rfl, rfl⟩
    exact ⟨rfl, World.grownBy.refl _ _, v, h1, hO, hg⟩
set_option maxHeartbeats 1000000 in
theorem wWriteString (B g : Nat) (nv : Value) (l t : List UInt8) (w : World) (h : Wrt w B g nv l) (hlen : l.length + t.length ≤ 140737488355328) (hBw : B ≤ w.heap.size) (hne : l ++ t ≠ []) :
    Calls Tryz.prog 30 #[.pointer (some ⟨g, 0, none⟩), .string ⟨t.toArray⟩] w fun e w' => e = .returned (.tuple #[.int .i64 (t.length : Int), .nilIface]) ∧ Wrt w' B g nv (l ++ t) ∧ Below g w w' := by
  obtain ⟨i0, hi, hz0, hz1, hz2⟩ := info_parts strExtra.infoByte
  have HC := hid (wcheck_any B g nv l w h)
  have hlt := h.lt
  clear h
  go_enter Tryz.func30, Tryz.ntmps30
  go_wp2_with fail
  refine Calls.mono HC.out ?_
  rintro e w1 ⟨rfl, hg1, v, hbk, hown, hgB, _⟩
  have c0 : w1.cell? ⟨g, 0, none⟩ = some (.pointer (some ⟨g, 0, none⟩)) := by rw [Lib.cell_of_heap hbk]; rfl
  have c1 : w1.cell? ⟨g, 1, none⟩ = some v := by rw [Lib.cell_of_heap hbk]; rfl
  have HG1 := hid hg1
  go_wp2_with (at_builtin; refine Lib.wpList_append_own_string _ rfl _ _ 48 9 rfl B 5 i0 Tryz.underlying48 Tryz.underlying9 hi hz0 hz1 hz2 _ _ _ rfl hown ⟨t.toArray⟩ rfl ?c3 ?c4 ?c5 ?_)
  case c3 => simp [ByteArray.size]; unfold maxLen; omega
  case c4 => simp [ByteArray.size]; omega
  case c5 => have := hg1.size; omega
  intro v' w2 hown' hgrow _
  have hgl : g < w1.heap.size := Nat.lt_of_lt_of_le hlt HG1.out.size
  have hvg : v.ownBlock ≠ some g := by
    rcases hown.2 with ⟨hv, _⟩ | ⟨b, cap, cur, hv, hb, _⟩
    · rw [hv]; simp [Value.ownBlock]
    · rw [hv]
      intro e
      injection e with e
      simp only at e
      omega
  have hb2 : w2.heap[g]? = some (.cells #[.pointer (some ⟨g, 0, none⟩), v, nv] 52 (0, 0)) := by
    rw [hgrow.block g hgl (fun e => hvg e.symm)]
    exact hbk
  have d0 : w2.cell? ⟨g, 0, none⟩ = some (.pointer (some ⟨g, 0, none⟩)) := by rw [Lib.cell_of_heap hb2]; rfl
  have d1 : w2.cell? ⟨g, 1, none⟩ = some v := by rw [Lib.cell_of_heap hb2]; rfl
  have f1 : w2.frozen? ⟨g, 1, none⟩ = false := Lib.frozen_of_heap hb2 1
  obtain ⟨ao, n', cap, rfl⟩ : ∃ ao n' cap, v' = .slice ao n' cap := by
    rcases hown'.2 with ⟨hv, _⟩ | ⟨g', cap, cur, hv, _⟩
    · exact ⟨_, _, _, hv⟩
    · exact ⟨_, _, _, hv⟩
  have HB : Hid (Below g w w2) := by
    refine (below_of_grown HG1.out (Nat.le_refl _) (Nat.le_of_lt hlt)).trans ⟨hgrow.os, hgrow.tape, hgrow.output, hgrow.size, fun k hk => hgrow.block k (by omega) ?_⟩
    intro e
    rcases hown.2 with ⟨hv, _⟩ | ⟨b, cap, cur, hv, hb, _⟩
    · rw [hv] at e; cases e
    · rw [hv] at e
      injection e with e
      simp only at e
      omega
  have HO : Hid (Wrt (w2.setCell ⟨g, 1, none⟩ (.slice ao n' cap)) B g nv (l ++ t)) := by
    refine ⟨.pointer (some ⟨g, 0, none⟩), .slice ao n' cap, ?_, Or.inr rfl, ?_, hgB, fun e => absurd e hne⟩
    · simp [World.setCell, Array.getElem?_modify, hb2]
    · have hO2 : w2.ownsRow B 5 1 (.slice ao n' cap) (l ++ t).length (Lib.byteCells (l ++ t)) := by
        simpa [Lib.byteCells, Lib.strCells, ByteArray.size] using hown'
      refine World.ownsRow.kept hO2 (grown_cell w2 g 1 _) ?_
      rcases hO2.2 with ⟨hv, _⟩ | ⟨b, cap', cur, hv, hb, _⟩
      · rw [hv]; exact Or.inl rfl
      · rw [hv]
        refine Or.inr ?_
        intro e
        injection e with e
        simp only at e
        omega
  clear hown hown' hgrow hbk hb2
  go_wp2
  go_ret2
  exact ⟨by simp [ByteArray.size], HO.out, HB.out.setCell (Nat.le_refl _) _⟩
set_option maxHeartbeats 1000000 in
theorem wWriteByte (B g : Nat) (nv : Value) (l : List UInt8) (c : UInt8) (w : World) (h : Wrt w B g nv l) (hlen : l.length + 1 ≤ 140737488355328) (hBw : B ≤ w.heap.size) :
    Calls Tryz.prog 29 #[.pointer (some ⟨g, 0, none⟩), .int .u8 (c.toNat : Int)] w fun e w' => e = .returned .nilIface ∧ Wrt w' B g nv (l ++ [c]) ∧ Below g w w' := by
  obtain ⟨i0, hi, hz0, hz1, hz2⟩ := info_parts strExtra.infoByte
  have HC := hid (wcheck_any B g nv l w h)
  have hlt := h.lt
  clear h
  go_enter Tryz.func29, Tryz.ntmps29
  go_wp2_with fail
  refine Calls.mono HC.out ?_
  rintro e w1 ⟨rfl, hg1, v, hbk, hown, hgB, _⟩
  have c0 : w1.cell? ⟨g, 0, none⟩ = some (.pointer (some ⟨g, 0, none⟩)) := by rw [Lib.cell_of_heap hbk]; rfl
  have c1 : w1.cell? ⟨g, 1, none⟩ = some v := by rw [Lib.cell_of_heap hbk]; rfl
  have HG1 := hid hg1
  have hownA : (w1.alloc (.cells #[.int .u8 (c.toNat : Int)] 5)).ownsRow B 5 1 v l.length (Lib.byteCells l) := by
    have hb : Below w1.heap.size w1 (w1.alloc (.cells #[.int .u8 (c.toNat : Int)] 5)) := (Below.refl _ _).alloc (Nat.le_refl _) _
    refine World.ownsRow.kept (row := none) hown ⟨hb.os, hb.tape, hb.output, hb.size, fun k hk _ => hb.block k hk⟩ ?_
    cases hv : v.ownBlock with
    | none => exact Or.inl rfl
    | some x => exact Or.inr (by simp)
  have hnews : ∀ j u, (Lib.byteCells [c])[j]? = some u → (w1.alloc (.cells #[.int .u8 (c.toNat : Int)] 5)).cell? ((⟨w1.heap.size, 0, none⟩ : Addr).add j) = some u := by
    intro j u hj
    rw [Addr.add_lit, Nat.zero_add, World.cell?_alloc_at (w := w1) _ _ w1.heap.size j rfl]
    simpa [Lib.byteCells] using hj
  have HNW := hid hnews
  have HOA := hid hownA
  clear hnews hownA
  go_wp2_with (at_builtin; refine wpList_append_lies _ rfl _ _ 48 rfl B 5 i0 _ 1 1 Tryz.underlying48 hi hz0 hz1 hz2 rfl (by decide) v l.length (Lib.byteCells l) rfl HOA.out ⟨w1.heap.size, 0, none⟩ 1 1 (Lib.byteCells [c]) rfl rfl HNW.out (by simp [Lib.byteCells, Value.oneCell']) (by omega) (by unfold maxLen; omega) (by omega) (by have := HG1.out.size; simp; omega) _ rfl ?_)
  intro g3 cap3 w2 hown' hgrow hor hl3
  have hgl : g < (w1.alloc (.cells #[.int .u8 (c.toNat : Int)] 5)).heap.size := by
    have := HG1.out.size
    simp
    omega
  have hvg : v.ownBlock ≠ some g := by
    rcases hown.2 with ⟨hv, _⟩ | ⟨b, cap, cur, hv, hb, _⟩
    · rw [hv]; simp [Value.ownBlock]
    · rw [hv]
      intro e
      injection e with e
      simp only at e
      omega
  have hb2 : w2.heap[g]? = some (.cells #[.pointer (some ⟨g, 0, none⟩), v, nv] 52 (0, 0)) := by
    rw [hgrow.block g hgl (fun e => hvg e.symm)]
    exact (Below.heap_alloc w1 _ g (Nat.lt_of_lt_of_le hlt HG1.out.size)).trans hbk
  have d0 : w2.cell? ⟨g, 0, none⟩ = some (.pointer (some ⟨g, 0, none⟩)) := by rw [Lib.cell_of_heap hb2]; rfl
  have d1 : w2.cell? ⟨g, 1, none⟩ = some v := by rw [Lib.cell_of_heap hb2]; rfl
  have f1 : w2.frozen? ⟨g, 1, none⟩ = false := Lib.frozen_of_heap hb2 1
  have HB : Hid (Below g w w2) := by
    refine ((below_of_grown HG1.out (Nat.le_refl _) (Nat.le_of_lt hlt)).alloc (by have := HG1.out.size; omega) (.cells #[.int .u8 (c.toNat : Int)] 5)).trans ⟨hgrow.os, hgrow.tape, hgrow.output, hgrow.size, fun k hk => hgrow.block k (by omega) ?_⟩
    intro e
    rcases hown.2 with ⟨hv, _⟩ | ⟨b, cap, cur, hv, hb, _⟩
    · rw [hv] at e; cases e
    · rw [hv] at e
      injection e with e
      simp only at e
      omega
  have HO : Hid (Wrt (w2.setCell ⟨g, 1, none⟩ (.slice (some ⟨g3, 0, none⟩) (l.length + 1) cap3)) B g nv (l ++ [c])) := by
    refine ⟨.pointer (some ⟨g, 0, none⟩), .slice (some ⟨g3, 0, none⟩) (l.length + 1) cap3, ?_, Or.inr rfl, ?_, hgB, fun e => absurd e (by simp)⟩
    · simp [World.setCell, Array.getElem?_modify, hb2]
    · have hO2 : w2.ownsRow B 5 1 (.slice (some ⟨g3, 0, none⟩) (l.length + 1) cap3) (l ++ [c]).length (Lib.byteCells (l ++ [c])) := by
        simpa [Lib.byteCells] using hown'
      refine World.ownsRow.kept hO2 (grown_cell w2 g 1 _) ?_
      rcases hO2.2 with ⟨hv, _⟩ | ⟨b, cap', cur, hv, hb, _⟩
      · rw [hv]; exact Or.inl rfl
      · rw [hv]
        refine Or.inr ?_
        intro e
        injection e with e
        simp only at e
        omega
  clear hown hown' hgrow hbk hb2 hor hl3 HOA HNW
  go_wp2
  go_ret
  exact ⟨rfl, HO.out, HB.out.setCell (Nat.le_refl _) _⟩
set_option maxHeartbeats 1000000 in
theorem wLen (B g : Nat) (nv : Value) (l : List UInt8) (w : World) (h : Wrt w B g nv l) :
    Calls Tryz.prog 17 #[.pointer (some ⟨g, 0, none⟩)] w fun e w' => e = .returned (.int .i64 (l.length : Int)) ∧ w' = w := by
  obtain ⟨p, v, h1, hp, hO, hg, _⟩ := h
  have c1 : w.cell? ⟨g, 1, none⟩ = some v := by rw [Lib.cell_of_heap h1]; rfl
  obtain ⟨ao, cap, rfl⟩ : ∃ ao cap, v = .slice ao l.length cap := by
    rcases hO.2 with ⟨hv, h0⟩ | ⟨b, cap, cur, hv, _⟩
    · exact ⟨none, 0, by rw [hv, h0]⟩
    · exact ⟨_, cap, hv⟩
  clear h1 hO hp
  go_enter Tryz.func17, Tryz.ntmps17
  go_wp2
  go_ret
  exact ⟨rfl, rfl⟩
end Go.Proofs.YtmdfdlljeggbbaaGreatDoor
namespace Go.Proofs.YtmdfdlljeggbbaaGreatDoor
set_option linter.unusedSimpArgs false
set_option linter.unusedVariables false
set_option maxRecDepth 100000
open Go.RowKit
set_option maxHeartbeats 2000000 in
theorem wString (B g : Nat) (nv : Value) (l : List UInt8) (w : World) (h : Wrt w B g nv l) :
    Calls Tryz.prog 18 #[.pointer (some ⟨g, 0, none⟩)] w fun e w' => e = .returned (.string ⟨l.toArray⟩) ∧ Below B w w' := by
  obtain ⟨p, v, h1, hp, hO, hg, hnil⟩ := h
  have mixed : Tryz.prog.follows .mixedOrders = true := by kernel_rfl
  by_cases h0 : l = []
  · subst h0
    obtain rfl := hnil rfl
    have c1 : w.drew.cell? ⟨g, 1, none⟩ = some (.slice none 0 0) := by
      have : w.drew.heap[g]? = some (.cells #[p, .slice none 0 0, nv] 52 (0, 0)) := h1
      rw [Lib.cell_of_heap this]; rfl
    have hSD : (Builtin.unsafeSliceData_ #[48] 75 #[.slice none 0 0]).run Tryz.prog w.drew = .ok (.pointer none) w.drew := rfl
    have hUS := fun (W : World) (q : Option Addr) => Lib.run_unsafeString_none (P := Tryz.prog) W 75 3 9 q
    clear hO hp h1
    go_enter Tryz.func18, Tryz.ntmps18
    go_wp2
    go_region_o
    all_goals (go_wp2; go_ret; exact ⟨rfl, Below.drew (Below.refl B w)⟩)
  · have hl0 : l.length ≠ 0 := by simpa using h0
    obtain ⟨g2, cap, cur, rfl, hbg, hg2, hnc, hcm, hcs, htake⟩ : ∃ g2 cap cur, v = .slice (some ⟨g2, 0, none⟩) l.length cap ∧ B ≤ g2 ∧ w.heap[g2]? = some (.cells cur 5 (0, 0)) ∧ l.length ≤ cap ∧ cap ≤ maxLen ∧ cur.size = cap * 1 ∧ cur.toList.take (l.length * 1) = Lib.byteCells l := by
      rcases hO.2 with ⟨_, hz⟩ | ⟨g2, cap, cur, hv, r⟩
      · exact absurd hz hl0
      · exact ⟨g2, cap, cur, hv, r⟩
    have c1 : w.drew.cell? ⟨g, 1, none⟩ = some (.slice (some ⟨g2, 0, none⟩) l.length cap) := by
      have : w.drew.heap[g]? = some (.cells #[p, .slice (some ⟨g2, 0, none⟩) l.length cap, nv] 52 (0, 0)) := h1
      rw [Lib.cell_of_heap this]; rfl
    have hSD : (Builtin.unsafeSliceData_ #[48] 75 #[.slice (some ⟨g2, 0, none⟩) l.length cap]).run Tryz.prog w.drew = .ok (.pointer (some ⟨g2, 0, none⟩)) w.drew :=
      Lib.run_unsafeSliceData_row _ _ _ _ _ _ (by omega)
    have hUS : (Builtin.unsafeString_ #[75, 3] 9 #[.pointer (some ⟨g2, 0, none⟩), .int .i64 l.length]).run Tryz.prog w.drew = .ok (.string ⟨l.toArray⟩) (w.drew.freeze ⟨g2, 0, none⟩ l.length) := by
      refine Lib.run_unsafeString_row w.drew 75 3 9 5 Tryz.underlying75 strExtra.cellsByte g2 cur.size (by have hg' : w.drew.heap[g2]? = some (.cells cur 5 (0, 0)) := hg2; simp [World.shape?, hg']) l h0 (by omega) (by unfold maxLen at hcm; omega) ?_
      intro j x hx
      have := hO.cells (g := g2) rfl j (.int .u8 x.toNat) (by simp [Lib.byteCells, hx])
      exact this
    clear hO hp h1 hg2 htake hcs
    go_enter Tryz.func18, Tryz.ntmps18
    go_wp2
    go_region_o
    all_goals (go_wp2; go_ret; exact ⟨rfl, Lib.below_freeze (Below.drew (Below.refl B w)) (p := ⟨g2, 0, none⟩) hbg _⟩)
end Go.Proofs.YtmdfdlljeggbbaaGreatDoor
namespace Go.Proofs.YtmdfdlljeggbbaaGreatDoor
set_option linter.unusedSimpArgs false
set_option linter.unusedVariables false
set_option maxRecDepth 100000
open Go.RowKit
theorem Wrt.nodes {w : World} {B g : Nat} {nv : Value} {l : List UInt8} (h : Wrt w B g nv l) : w.cell? ⟨g, 2, none⟩ = some nv := by
  obtain ⟨p, v, h1, _⟩ := h
  rw [Lib.cell_of_heap h1]; rfl
theorem lt_of_at {ns : List Nd} {i : Nat} {n : Nd} (hn : ns[i]? = some n) : i < ns.length := by
  rcases Nat.lt_or_ge i ns.length with h' | h'
  · exact h'
  · rw [List.getElem?_eq_none h'] at hn; cases hn
set_option maxHeartbeats 4000000 in
theorem needs_any (g b off cap : Nat) (ns : List Nd) (hl : ns.length ≤ 60) (w : World) (hc : w.cell? ⟨g, 2, none⟩ = some (.slice (some ⟨b, off, none⟩) ns.length cap)) (hN : NsAt w b off ns) (i j : Nat) (n m : Nd) (hn : ns[i]? = some n) (hm : ns[j]? = some m)
    (hp : n.op = 3 ∨ n.op = 4 ∨ n.op = 5 ∨ n.op = 6 ∨ n.op = 7) :
    Calls Tryz.prog 49 #[.pointer (some ⟨g, 0, none⟩), .int .i64 i, .int .i64 j] w fun e w' => e = .returned (.bool (brk n.op m.op (decide (i + 1 < j)))) ∧ w' = w := by
  have hil := lt_of_at hn
  have hjl := lt_of_at hm
  obtain ⟨c0, _⟩ := hN i n hn
  obtain ⟨d0, _⟩ := hN j m hm
  have i0 : (0 : Int) ≤ (i : Int) := by omega
  have i1 : (i : Int) < (ns.length : Int) := by omega
  have j0 : (0 : Int) ≤ (j : Int) := by omega
  have j1 : (j : Int) < (ns.length : Int) := by omega
  clear hn hm hN
  have hx : (decide (i + 1 < j)) = true ∨ (decide (i + 1 < j)) = false := by cases (decide (i + 1 < j)) <;> simp
  have fin : ∀ x : Bool, decide (i + 1 < j) = x → (decide ((i : Int) + 1 < (j : Int))) = x := by
    intro x hx
    rw [← hx]
    exact decide_eq_decide.2 (by omega)
  rcases hx with hx | hx
  all_goals
    have q := fin _ hx
    rw [hx]
    clear fin hx
    by_cases h2 : m.op = 2
    · rw [h2] at d0 ⊢
      clear h2
      rcases hp with hp | hp | hp | hp | hp
      all_goals
        rw [hp] at c0 ⊢
        clear hp
        go_enter Tryz.func49, Tryz.ntmps49
        go_wp2
        go_ret
        exact ⟨rfl, rfl⟩
    by_cases h3 : m.op = 3
    · rw [h3] at d0 ⊢
      clear h2 h3
      rcases hp with hp | hp | hp | hp | hp
      all_goals
        rw [hp] at c0 ⊢
        clear hp
        go_enter Tryz.func49, Tryz.ntmps49
        go_wp2
        go_ret
        exact ⟨rfl, rfl⟩
    by_cases h4 : m.op = 4
    · rw [h4] at d0 ⊢
      clear h2 h3 h4
      rcases hp with hp | hp | hp | hp | hp
      all_goals
        rw [hp] at c0 ⊢
        clear hp
        go_enter Tryz.func49, Tryz.ntmps49
        go_wp2
        go_ret
        exact ⟨rfl, rfl⟩
    have HF : Hid (∀ x, brk n.op m.op x = false) := by intro x; unfold brk; rw [if_neg h2, if_neg h4, if_neg h3]
    have p2 : (m.op == 2) = false := by simp [h2]
    have p3 : (m.op == 3) = false := by simp [h3]
    have p4 : (m.op == 4) = false := by simp [h4]
    clear h2 h3 h4 hp
    rw [HF.out]
    go_enter Tryz.func49, Tryz.ntmps49
    go_wp2
    go_ret
    exact ⟨rfl, rfl⟩
end Go.Proofs.YtmdfdlljeggbbaaGreatDoor
namespace Go.Proofs.YtmdfdlljeggbbaaGreatDoor
set_option linter.unusedSimpArgs false
set_option linter.unusedVariables false
set_option maxRecDepth 100000
open Go.RowKit

theorem either1_any (x y : Int) (w : World) :
    Calls Tryz.prog 95 #[.int .u64 x, .int .u64 y] w fun e w' => e = .returned (.int .u64 (bits .or .u64 x y)) ∧ w' = w := by
  go_enter Tryz.func95, Tryz.ntmps95
  go_wp2
  go_ret
  exact ⟨rfl, rfl⟩
theorem not1_any (x y : Int) (w : World) :
    Calls Tryz.prog 62 #[.int .u64 x, .int .u64 y] w fun e w' => e = .returned (.int .u64 (not64 x)) ∧ w' = w := by
  have hs : ¬ IntKind.u64.signed = true := by decide
  go_enter Tryz.func62, Tryz.ntmps62
  go_wp2
  all_goals first | (exfalso; exact hs ‹_›) | skip
  all_goals (go_ret; exact ⟨rfl, rfl⟩)
set_option maxHeartbeats 400000 in
theorem ones_any (x : Int) (w : World) :
    Calls Tryz.prog 64 #[.int .u64 x] w fun e w' => e = .returned (.int .i64 (ones x)) ∧ w' = w := by
  go_enter Tryz.func64, Tryz.ntmps64
  go_wp2
  go_ret
  exact ⟨rfl, rfl⟩
set_option maxHeartbeats 400000 in
theorem has_any (k : C4) (x : Int) (w : World) (h : 0 ≤ x) (h2 : x < 256) :
    Calls Tryz.prog 76 #[k.v, .int .u8 x] w fun e w' => e = .returned (.bool (k.hasI x)) ∧ Below w.heap.size w w' := by
  have hw := k.get (x/64).toNat (by omega)
  go_enter Tryz.func76, Tryz.ntmps76
  go_wp2
  go_ret
  exact ⟨rfl, (Below.refl _ _).alloc (Nat.le_refl _) _⟩
set_option maxHeartbeats 400000 in
theorem with_any (k : C4) (x : Int) (w : World) (h : 0 ≤ x) (h2 : x < 256) :
    Calls Tryz.prog 63 #[k.v, .int .u8 x] w fun e w' => e = .returned (k.add x).v ∧ Below w.heap.size w w' := by
  have hw := k.get (x/64).toNat (by omega)
  have hs := k.set (x/64).toNat (by omega)
  go_enter Tryz.func63, Tryz.ntmps63
  go_wp2
  refine bodyPost_ret (v := (k.add x).v) (by simp [results, Tryz.results63, go_sem]; exact ⟨rfl, rfl, rfl, rfl⟩) rfl ⟨rfl, ?_⟩
  exact ((Below.refl _ _).alloc (Nat.le_refl _) _).alloc (by simp) _

set_option maxHeartbeats 1000000 in
theorem join_any (g : Nat) (F : Int → Int → Int) (hg : ∀ (p q : Int) (w : World), Calls Tryz.prog g #[.int .u64 p, .int .u64 q] w fun e w' => e = .returned (.int .u64 (F p q)) ∧ w' = w)
    (he : ∀ args w, (callFunc g args).run Tryz.prog w = .ok (.enter g args) w) (x y : C4) (w : World) :
    Calls Tryz.prog 61 #[x.v, y.v, .func (.func g) #[] #[]] w fun e w' => e = .returned (jn F x y 4).v ∧ Below w.heap.size w w' := by
  have HG := (show Hid _ from hg)
  clear hg
  go_enter Tryz.func61, Tryz.ntmps61
  go_wp2
  go_loopw [9] (fun i wr => ∃ k : Nat, k ≤ 4 ∧ i = .int .i64 k ∧ Below w.heap.size w wr ∧ Hb wr w.heap.size x ∧ Hb wr (w.heap.size + 1) y ∧ Hb wr (w.heap.size + 1 + 1) z4 ∧ Hb wr (w.heap.size + 1 + 1 + 1) (jn F x y k)) (fun i _ => 4 - (intOf i).toNat)
  case atStart =>
    refine ⟨0, by omega, rfl, ?_, ?_, ?_, ?_, ?_⟩
    · exact ((((Below.refl _ _).alloc (Nat.le_refl _) _).alloc (by simp) _).alloc (by simp; omega) _).alloc (by simp; omega) _
    · exact (((Hb.new _ x _ rfl).alloc _).alloc _).alloc _
    · exact ((Hb.new _ y _ (by simp)).alloc _).alloc _
    · exact (Hb.new _ z4 _ (by simp)).alloc _
    · exact Hb.new _ (jn F x y 0) _ (by simp)
  case round =>
    obtain ⟨k, hk, rfl, hB, hX, hY, hZ, hJ⟩ := hrel
    by_cases hlt : k < 4
    · have cx := hX.cell k hlt
      have cy := hY.cell k hlt
      have cj := hJ.cell k hlt
      have fj := hJ.frozen k
      have i0 : (0 : Int) ≤ (k : Int) := by omega
      have i1 : (k : Int) < 4 := by omega
      have sx := fun v => (hX.other ⟨w.heap.size + 1 + 1 + 1, k, none⟩ v (by simp only; omega)).cell k hlt
      have sy := fun v => (hY.other ⟨w.heap.size + 1 + 1 + 1, k, none⟩ v (by simp only; omega)).cell k hlt
      go_wp2_with fail
      go_region_held3 (fun w' => w'.cell? ⟨w.heap.size, k, none⟩ = some (.int .u64 (x.w k)) ∧ w'.cell? ⟨w.heap.size + 1, k, none⟩ = some (.int .u64 (y.w k))) (go_keep)
        (first | (refine (HG.out _ _ _).mono ?_; rintro e w' ⟨rfl, rfl⟩))
      all_goals go_wp2
      refine ⟨⟨k + 1, by omega, by go_num, ?_, ?_, ?_, ?_, ?_⟩, by simp [intOf]; omega⟩
      · exact (hB.setCell (by simp; omega) _).drew
      · exact (hX.other _ _ (by simp only; omega)).drew
      · exact (hY.other _ _ (by simp only; omega)).drew
      · exact (hZ.other _ _ (by simp only; omega)).drew
      · rw [← jn_put F x y k hlt]
        exact (hJ.store k hlt _).drew
    · have hk4 : k = 4 := by omega
      subst hk4
      have c0 := hJ.c0
      have c1 := hJ.c1
      have c2 := hJ.c2
      have c3 := hJ.c3
      have d0 := hZ.c0
      have d1 := hZ.c1
      have d2 := hZ.c2
      have d3 := hZ.c3
      have f0 := hZ.frozen 0
      have f1 := hZ.frozen 1
      have f2 := hZ.frozen 2
      have f3 := hZ.frozen 3
      go_wp2
      have hq := hZ.put4 (jn F x y 4)
      refine bodyPost_ret (v := (jn F x y 4).v) (by simp [results, Tryz.results61, go_sem, hq.c0, hq.c1, hq.c2, hq.c3]) rfl ⟨rfl, ?_⟩
      exact (((hB.setCell (by simp; omega) _).setCell (by simp; omega) _).setCell (by simp; omega) _).setCell (by simp; omega) _

theorem enters_either1 : ∀ args w, (callFunc 95 args).run Tryz.prog w = .ok (.enter 95 args) w := fun _ _ => by kernel_rfl
theorem enters_not1 : ∀ args w, (callFunc 62 args).run Tryz.prog w = .ok (.enter 62 args) w := fun _ _ => by kernel_rfl
set_option maxHeartbeats 400000 in
theorem either_any (x y : C4) (w : World) :
    Calls Tryz.prog 89 #[x.v, y.v] w fun e w' => e = .returned (x.or y).v ∧ Below w.heap.size w w' := by
  go_enter Tryz.func89, Tryz.ntmps89
  go_wp2_with fail
  refine (join_any 95 _ either1_any enters_either1 x y _).mono ?_
  rintro e w1 ⟨rfl, hb⟩
  have hB : Below w.heap.size w w1 := ((((Below.refl _ _).alloc (Nat.le_refl _) _).alloc (by simp) _).alloc (by simp; omega) _).trans (hb.mono (by simp; omega))
  have hZ : Hb w1 (w.heap.size + 1 + 1) z4 := (Hb.new _ z4 _ (by simp)).below hb (by simp)
  obtain ⟨d0, d1, d2, d3, f0, f1, f2, f3⟩ := hZ.all
  go_wp2
  have hq := hZ.put4 (x.or y)
  refine bodyPost_ret (v := (x.or y).v) (by have g0 := hq.c0; have g1 := hq.c1; have g2 := hq.c2; have g3 := hq.c3; simp [jn, C4.and, C4.or, C4.not] at g0 g1 g2 g3 ⊢; simp [results, Tryz.results89, go_sem, C4.and, C4.or, g0, g1, g2, g3]) rfl ⟨rfl, ?_⟩
  exact below_put4 hB (by omega) _
end Go.Proofs.YtmdfdlljeggbbaaGreatDoor
namespace Go.Proofs.YtmdfdlljeggbbaaGreatDoor
set_option linter.unusedSimpArgs false
set_option linter.unusedVariables false
set_option maxRecDepth 100000
open Go.RowKit

set_option maxHeartbeats 400000 in
theorem not_any (x : C4) (w : World) :
    Calls Tryz.prog 45 #[x.v] w fun e w' => e = .returned (x.not).v ∧ Below w.heap.size w w' := by
  go_enter Tryz.func45, Tryz.ntmps45
  go_wp2_with fail
  refine (join_any 62 (fun p _ => not64 p) not1_any enters_not1 x x _).mono ?_
  rintro e w1 ⟨rfl, hb⟩
  have hB : Below w.heap.size w w1 := (((Below.refl _ _).alloc (Nat.le_refl _) _).alloc (by simp) _).trans (hb.mono (by simp; omega))
  have hZ : Hb w1 (w.heap.size + 1) z4 := (Hb.new _ z4 _ (by simp)).below hb (by simp)
  obtain ⟨d0, d1, d2, d3, f0, f1, f2, f3⟩ := hZ.all
  go_wp2
  have hq := hZ.put4 (x.not)
  refine bodyPost_ret (v := (x.not).v) (by have g0 := hq.c0; have g1 := hq.c1; have g2 := hq.c2; have g3 := hq.c3; simp [jn, C4.not] at g0 g1 g2 g3 ⊢; simp [results, Tryz.results45, go_sem, C4.not, g0, g1, g2, g3]) rfl ⟨rfl, ?_⟩
  exact below_put4 hB (by omega) _

theorem index4_0 (k : C4) (w : World) : (Instr.index 39 k.v (.int .i64 0)).run Tryz.prog w = .ok (.int .u64 k.a) w := by kernel_rfl
theorem index4_1 (k : C4) (w : World) : (Instr.index 39 k.v (.int .i64 1)).run Tryz.prog w = .ok (.int .u64 k.b) w := by kernel_rfl
theorem index4_2 (k : C4) (w : World) : (Instr.index 39 k.v (.int .i64 2)).run Tryz.prog w = .ok (.int .u64 k.c) w := by kernel_rfl
theorem index4_3 (k : C4) (w : World) : (Instr.index 39 k.v (.int .i64 3)).run Tryz.prog w = .ok (.int .u64 k.d) w := by kernel_rfl
theorem index4 (k : C4) (i : Nat) (h : i < 4) (w : World) : (Instr.index 39 k.v (.int .i64 i)).run Tryz.prog w = .ok (.int .u64 (k.w i)) w := by
  match i, h with
  | 0, _ => exact index4_0 k w
  | 1, _ => exact index4_1 k w
  | 2, _ => exact index4_2 k w
  | 3, _ => exact index4_3 k w

set_option maxHeartbeats 400000 in
theorem many_any (k : C4) (w : World) :
    Calls Tryz.prog 47 #[k.v] w fun e w' => e = .returned (.int .i64 (k.many 4)) ∧ Below w.heap.size w w' := by
  go_enter Tryz.func47, Tryz.ntmps47
  go_wp2
  go_loop [3, 7] (fun n i => ∃ j : Nat, j ≤ 4 ∧ i = .int .i64 j ∧ n = .int .i64 (k.many j)) (fun _ i => 4 - (intOf i).toNat)
  case atStart => exact ⟨0, by omega, rfl, rfl⟩
  case round =>
    obtain ⟨j, hj, rfl, rfl⟩ := hrel
    by_cases hlt : j < 4
    · have hi := index4 k j hlt
      go_wp2_with (first | (go_at_call 64; refine (ones_any _ _).mono ?_; rintro e w' ⟨rfl, rfl⟩))
      go_round
      case rel => exact ⟨j + 1, by omega, by go_num, rfl⟩
      case measure => simp [intOf]; omega
    · have hj4 : j = 4 := by omega
      subst hj4
      go_wp2
      go_ret
      exact ⟨rfl, (Below.refl _ _).alloc (Nat.le_refl _) _⟩

set_option maxHeartbeats 1000000 in
theorem of_any (s : ByteArray) (w : World) (hs : s.size ≤ maxLen) :
    Calls Tryz.prog 46 #[.string s] w fun e w' => e = .returned (C4.ofL s.data.toList).v ∧ Below w.heap.size w w' := by
  unfold maxLen at hs
  go_enter Tryz.func46, Tryz.ntmps46
  go_wp2
  go_loopw [7] (fun i wr => ∃ k : Nat, k ≤ s.size ∧ i = .int .i64 k ∧ Below w.heap.size w wr ∧ Hb wr w.heap.size z4 ∧ Hb wr (w.heap.size + 1) (C4.ofL (s.data.toList.take k))) (fun i _ => s.size - (intOf i).toNat)
  case atStart =>
    refine ⟨0, by omega, rfl, ?_, ?_, ?_⟩
    · exact ((Below.refl _ _).alloc (Nat.le_refl _) _).alloc (by simp) _
    · exact (Hb.new _ z4 _ rfl).alloc _
    · exact Hb.new _ z4 _ (by simp)
  case round =>
    obtain ⟨k, hk, rfl, hB, hZ, hC⟩ := hrel
    by_cases hlt : k < s.size
    · obtain ⟨c0, c1, c2, c3, e0, e1, e2, e3⟩ := hC.all
      have i0 : (0 : Int) ≤ (k : Int) := by omega
      have i1 : (k : Int) < (s.size : Int) := by omega
      have hg : s.data.toList[k]? = some s[k] := by
        rw [List.getElem?_eq_getElem (by simpa using hlt)]; rfl
      have hts : s.data.toList.take (k + 1) = s.data.toList.take k ++ [s[k]] := by
        rw [List.take_succ_eq_append_getElem (by simpa using hlt)]; rfl
      have HT : Hid (C4.ofL (s.data.toList.take (k + 1)) = (C4.ofL (s.data.toList.take k)).add (s[k].toNat : Int)) := by rw [hts, C4.ofL_snoc]; exact rfl
      clear hts hg
      have hlb : (s[k].toNat : Int) < 256 := by have := s[k].toNat_lt; omega
      have hl0 : (0 : Int) ≤ (s[k].toNat : Int) := by omega
      go_wp2_with fail
      go_region_with (first | (go_at_call 63; refine (with_any (C4.ofL (s.data.toList.take k)) _ _ hl0 hlb).mono ?_; rintro e w' ⟨rfl, hb⟩; have hC1 := Hb.below hC.drew hb hC.lt; obtain ⟨g0, g1, g2, g3, q0, q1, q2, q3⟩ := hC1.all))
      all_goals
        go_wp2
        refine ⟨⟨k + 1, by omega, by go_num, ?_, ?_, ?_⟩, by simp [intOf]; omega⟩
        · exact below_put4 (hB.drew.trans (hb.mono hB.size)) (by omega) _
        · exact Hb.other4 (Hb.below hZ.drew hb hZ.lt) _ (by omega)
        · rw [HT.out]; exact hC1.put4 _
    · have hk4 : k = s.size := by omega
      subst hk4
      have ht : s.data.toList.take s.size = s.data.toList := List.take_of_length_le (by simp)
      rw [ht] at hC
      clear ht
      obtain ⟨c0, c1, c2, c3, e0, e1, e2, e3⟩ := hC.all
      obtain ⟨d0, d1, d2, d3, f0, f1, f2, f3⟩ := hZ.all
      go_wp2
      have hq := hZ.put4 (C4.ofL s.data.toList)
      refine bodyPost_ret (v := (C4.ofL s.data.toList).v) (by simp [results, Tryz.results46, go_sem, hq.c0, hq.c1, hq.c2, hq.c3]) rfl ⟨rfl, ?_⟩
      exact below_put4 hB (by omega) _
end Go.Proofs.YtmdfdlljeggbbaaGreatDoor
namespace Go.Proofs.YtmdfdlljeggbbaaGreatDoor
set_option linter.unusedSimpArgs false
set_option linter.unusedVariables false
set_option maxRecDepth 100000
open Go.RowKit

set_option maxHeartbeats 400000 in
theorem byteText_hex (x : Int) (w : World) (h : 0 ≤ x) (h2 : x < 256) (h3 : x < 32 ∨ 126 < x) :
    Calls Tryz.prog 77 #[.int .u8 x] w fun e w' => e = .returned (.string ⟨(bt x.toNat).toArray⟩) ∧ Below w.heap.size w w' := by
  obtain ⟨n, rfl⟩ := Int.eq_ofNat_of_zero_le h
  have q1 : (0:Int) ≤ (n : Int) / 16 := by omega
  have q2 : (n : Int) / 16 < 16 := by omega
  have q3 : (0:Int) ≤ (n : Int) % 16 := by omega
  have q4 : (n : Int) % 16 < 16 := by omega
  have hb := bt_hex n (by omega) (by omega)
  have HB := (show Hid _ from hb)
  clear hb
  rcases h3 with h3 | h3
  · go_enter Tryz.func77, Tryz.ntmps77
    go_wp2
    go_quiet (fail)
    go_wp2
    go_ret
    exact ⟨ret_str HB.out, below_drewN' _ _⟩
  · have h4 : ¬ (n : Int) < 32 := by omega
    go_enter Tryz.func77, Tryz.ntmps77
    go_wp2
    go_quiet (fail)
    go_wp2
    go_ret
    exact ⟨ret_str HB.out, below_drewN' _ _⟩

set_option maxHeartbeats 400000 in
theorem byteText_plain (x : Int) (w : World) (h : 32 ≤ x) (h2 : x ≤ 126) :
    Calls Tryz.prog 77 #[.int .u8 x] w fun e w' => e = .returned (.string ⟨(bt x.toNat).toArray⟩) ∧ Below w.heap.size w w' := by
  obtain ⟨n, rfl⟩ := Int.eq_ofNat_of_zero_le (show 0 ≤ x by omega)
  have h4 : ¬ (n : Int) < 32 := by omega
  have h5 : ¬ 126 < (n : Int) := by omega
  have hu := enc_ascii n (by omega)
  by_cases hm : (0 : Int) ≤ Lib.indexByte [92, 46, 91, 93, 40, 41, 124, 42, 43, 63, 94, 36, 45] (UInt8.ofNat n)
  · have hb := signs_in n (by omega) hm (by omega) (by omega)
    have HB := (show Hid _ from hb)
    clear hb
    go_enter Tryz.func77, Tryz.ntmps77
    go_wp2_with (go_at_call 82; refine (indexByte_any _ _ _).mono ?_; rintro e w' ⟨rfl, rfl⟩)
    go_ret
    refine ⟨ret_str ?_, Below.refl _ _⟩
    rw [Int.toNat_natCast, HB.out]
    rfl
  · have hb := signs_out n (by omega) hm (by omega) (by omega)
    have HB := (show Hid _ from hb)
    have hm2 : decide ((0 : Int) ≤ Lib.indexByte [92, 46, 91, 93, 40, 41, 124, 42, 43, 63, 94, 36, 45] (UInt8.ofNat n)) = false := by simpa using hm
    clear hb hm
    go_enter Tryz.func77, Tryz.ntmps77
    go_wp2_with fail
    refine (indexByte_any _ _ _).mono ?_
    rintro e w' ⟨rfl, rfl⟩
    go_wp2
    go_ret
    refine ⟨ret_str ?_, Below.refl _ _⟩
    rw [Int.toNat_natCast, HB.out]
theorem byteText_any (x : Int) (w : World) (h : 0 ≤ x) (h2 : x < 256) :
    Calls Tryz.prog 77 #[.int .u8 x] w fun e w' => e = .returned (.string ⟨(bt x.toNat).toArray⟩) ∧ Below w.heap.size w w' := by
  by_cases h3 : x < 32 ∨ 126 < x
  · exact byteText_hex x w h h2 h3
  · exact byteText_plain x w (by omega) (by omega)

set_option maxHeartbeats 400000 in
theorem runText_any (i j : Int) (w : World) (h : 0 ≤ i) (h1 : i ≤ j) (h2 : j < 256) :
    Calls Tryz.prog 66 #[.int .i64 i, .int .i64 j] w fun e w' => e = .returned (.string ⟨(rt i.toNat j.toNat).toArray⟩) ∧ Below w.heap.size w w' := by
  have hl1 : (⟨(bt i.toNat).toArray⟩ : ByteArray).size ≤ 4 := by rw [size_str]; exact bt_len _
  have hl2 : (⟨(bt j.toNat).toArray⟩ : ByteArray).size ≤ 4 := by rw [size_str]; exact bt_len _
  have hl3 : (bt i.toNat).length ≤ 4 := bt_len _
  have hl4 : (bt j.toNat).length ≤ 4 := bt_len _
  by_cases e0 : j = i
  · subst e0
    have e1 : (j - j == 0) = true := by simp
    go_enter Tryz.func66, Tryz.ntmps66
    go_wp2_with fail
    refine (byteText_any _ _ (by omega) (by omega)).mono ?_
    rintro e w1 ⟨rfl, hb⟩
    go_wp2
    go_ret
    exact ⟨ret_str (by simp [rt]), hb⟩
  · have e1 : (j - i == 0) = false := by simp; omega
    by_cases e2 : j = i + 1
    · have e3 : (j - i == 1) = true := by simp; omega
      have E2 := (show Hid _ from e2)
      clear e2
      go_enter Tryz.func66, Tryz.ntmps66
      go_wp2_with fail
      refine (byteText_any _ _ (by omega) (by omega)).mono ?_
      rintro e w1 ⟨rfl, hb⟩
      go_wp2_with fail
      refine (byteText_any _ _ (by omega) (by omega)).mono ?_
      rintro e w2 ⟨rfl, hb2⟩
      go_wp2
      go_ret
      refine ⟨ret_str ?_, hb.trans (hb2.mono hb.size)⟩
      have := E2.out
      rw [cat_str, rt, if_neg (by omega), if_pos (by omega)]
    · have e3 : (j - i == 1) = false := by simp; omega
      go_enter Tryz.func66, Tryz.ntmps66
      go_wp2_with fail
      refine (byteText_any _ _ (by omega) (by omega)).mono ?_
      rintro e w1 ⟨rfl, hb⟩
      go_wp2_with fail
      refine (byteText_any _ _ (by omega) (by omega)).mono ?_
      rintro e w2 ⟨rfl, hb2⟩
      go_wp2
      go_ret
      refine ⟨ret_str ?_, hb.trans (hb2.mono hb.size)⟩
      rw [rt, if_neg (by omega), if_neg (by omega)]
      have e5 : ({ data := #[45] } : ByteArray) = ⟨([45] : List UInt8).toArray⟩ := rfl
      rw [e5, cat_str, cat_str]
      simp
end Go.Proofs.YtmdfdlljeggbbaaGreatDoor
namespace Go.Proofs.YtmdfdlljeggbbaaGreatDoor
set_option linter.unusedSimpArgs false
set_option linter.unusedVariables false
set_option maxRecDepth 100000
open Go.RowKit

set_option maxHeartbeats 400000 in
theorem runEnd_any (k : C4) (i : Int) (w : World) (h0 : 0 ≤ i) (h1 : i ≤ 256) :
    Calls Tryz.prog 65 #[k.v, .int .i64 i] w fun e w' => e = .returned (.int .i64 (rEnd k.p (256 - i.toNat) i.toNat)) ∧ Below w.heap.size w w' := by
  obtain ⟨n, rfl⟩ := Int.eq_ofNat_of_zero_le h0
  rw [Int.toNat_natCast]
  go_enter Tryz.func65, Tryz.ntmps65
  go_wp2
  go_loopw [1] (fun v wr => ∃ j : Nat, j ≤ 256 ∧ v = .int .i64 j ∧ Hid (rEnd k.p (256 - j) j = rEnd k.p (256 - n) n) ∧ Below w.heap.size w wr ∧ Hb wr w.heap.size k) (fun v _ => 256 - (intOf v).toNat)
  case atStart => exact ⟨n, by omega, rfl, rfl, (Below.refl _ _).alloc (Nat.le_refl _) _, Hb.new _ k _ rfl⟩
  case round =>
    obtain ⟨j, hj, rfl, HE, hB, hK⟩ := hrel
    obtain ⟨c0, c1, c2, c3, e0, e1, e2, e3⟩ := hK.all
    by_cases hlt : j < 256
    · have i1 : (j : Int) < 256 := by omega
      by_cases hp : k.hasI j = true
      · go_wp2_with (first | (go_at_call 76; refine (has_any k _ _ (by omega) (by omega)).mono ?_; rintro e w' ⟨rfl, hb⟩))
        refine ⟨⟨j + 1, by omega, by go_num, ?_, ?_, ?_⟩, by simp [intOf]; omega⟩
        · show _ = _
          rw [← HE.out, rEnd_yes k.p j hlt hp]
        · exact hB.trans (hb.mono hB.size)
        · exact hK.below hb hK.lt
      · have hp2 : k.hasI j = false := by simpa using hp
        clear hp
        go_wp2_with (first | (go_at_call 76; refine (has_any k _ _ (by omega) (by omega)).mono ?_; rintro e w' ⟨rfl, hb⟩))
        go_ret
        exact ⟨ret_int (by rw [← HE.out, rEnd_no k.p j hlt hp2]), hB.trans (hb.mono hB.size)⟩
    · have hj2 : j = 256 := by omega
      subst hj2
      go_wp2
      go_ret
      exact ⟨ret_int (by rw [← HE.out]; rfl), hB⟩

/-- A builder is what it was, where nothing that was there has turned. -/
theorem isBuilder_below {T e : TypeId} {B b : Nat} {bs : List Value} {w w' : World} (h : Lib.IsBuilder T e B b bs w) (hb : Below w.heap.size w w') : Lib.IsBuilder T e B b bs w' := by
  have key : ∀ p, Lib.BuilderAt T e B b p bs w → Lib.BuilderAt T e B b p bs w' := by
    intro p h
    have hlt := h.lt
    obtain ⟨hB, v, hbk, hown, hne⟩ := h
    refine ⟨hB, v, (hb.block b hlt).trans hbk, ?_, hne⟩
    refine hown.kept (row := none) ⟨hb.os, hb.tape, hb.output, hb.size, fun k hk _ => hb.block k hk⟩ ?_
    cases hv : v.ownBlock with
    | none => exact Or.inl rfl
    | some x => exact Or.inr (by simp)
  rcases h with h | h
  · exact Or.inl (key _ h)
  · exact Or.inr (key _ h)
theorem runEnd_ex (k : C4) (i : Nat) (w : World) (h : i ≤ 256) :
    Calls Tryz.prog 65 #[k.v, .int .i64 i] w fun e w' => ∃ en : Nat, e = .returned (.int .i64 en) ∧ Hid (rEnd k.p (256 - i) i = en) ∧ i ≤ en ∧ en ≤ 256 ∧ Below w.heap.size w w' := by
  refine (runEnd_any k i w (by omega) (by omega)).mono ?_
  rintro e w' ⟨rfl, hb⟩
  have hle := rEnd_le k.p (256 - i) i
  exact ⟨rEnd k.p (256 - i) i, rfl, Eq.refl _, by omega, by omega, hb⟩
theorem runText_n (i en : Nat) (w : World) (h : i < en) (h2 : en ≤ 256) :
    Calls Tryz.prog 66 #[.int .i64 i, .int .i64 ((en : Int) - 1)] w fun e w' => e = .returned (.string ⟨(rt i (en - 1)).toArray⟩) ∧ Below w.heap.size w w' := by
  refine (runText_any i ((en : Int) - 1) w (by omega) (by omega) (by omega)).mono ?_
  rintro e w' ⟨rfl, hb⟩
  have ht : ((en : Int) - 1).toNat = en - 1 := by omega
  rw [ht]
  exact ⟨rfl, hb⟩
theorem writeString_l (B b : Nat) (acc l : List UInt8) (w : World) (h : Lib.IsBuilder 50 5 B b (Lib.byteCells acc) w) (hlen : acc.length + l.length ≤ 140737488355328) (hBw : B ≤ w.heap.size) :
    Calls Tryz.prog 30 #[.pointer (some ⟨b, 0, none⟩), .string ⟨l.toArray⟩] w fun e w' => (∃ v, e = .returned v) ∧ Lib.IsBuilder 50 5 B b (Lib.byteCells (acc ++ l)) w' ∧ Below B w w' := by
  refine (writeString_any B b _ ⟨l.toArray⟩ w h (by rw [Lib.byteCells_length, size_str]; exact hlen) hBw).mono ?_
  rintro e w' ⟨rfl, h1, hb⟩
  refine ⟨⟨_, rfl⟩, Or.inr ?_, hb⟩
  rw [Lib.byteCells_append]
  exact h1
theorem runsL_step (p : Nat → Bool) (f i en : Nat) (acc R : List UInt8) (hi : i < 256) (hE : rEnd p (256 - i) i = en) (h : acc ++ runsL p (f + 1) i = R) :
    (if i < en then acc ++ rt i (en - 1) else acc) ++ runsL p f (en + 1) = R := by
  rw [runsL, if_pos hi, hE] at h
  rw [← h]
  split <;> simp
theorem runsL_end (p : Nat → Bool) (f i : Nat) (acc R : List UInt8) (hi : ¬ i < 256) (h : acc ++ runsL p f i = R) : acc = R := by
  rw [← h]
  cases f <;> simp [runsL, hi]

set_option maxHeartbeats 1000000 in
theorem runs_any (k : C4) (w : World) :
    Calls Tryz.prog 48 #[k.v] w fun e w' => e = .returned (.string ⟨(runsL k.p 256 0).toArray⟩) ∧ Below w.heap.size w w' := by
  go_enter Tryz.func48, Tryz.ntmps48
  go_wp2
  go_loopw [4, 5] (fun v _ wr => ∃ (i f : Nat) (acc : List UInt8), i ≤ 257 ∧ 256 ≤ f + i ∧ v = .int .i64 i ∧ acc.length ≤ 9 * i ∧ Hid (acc ++ runsL k.p f i = runsL k.p 256 0) ∧ Below w.heap.size w wr ∧ Hb wr w.heap.size k ∧ Lib.IsBuilder 50 5 (w.heap.size + 1) (w.heap.size + 1) (Lib.byteCells acc) wr) (fun v _ _ => 257 - (intOf v).toNat)
  case atStart =>
    refine ⟨0, 256, [], by omega, by omega, rfl, by simp, List.nil_append _, ?_, ?_, ?_⟩
    · exact ((Below.refl _ _).alloc (Nat.le_refl _) _).alloc (by simp) _
    · exact (Hb.new _ k _ rfl).alloc _
    · have := Lib.fresh_isBuilder 50 5 (w.alloc (.cells k.cells 39))
      simp only [World.size_alloc] at this
      exact this
  case round =>
    obtain ⟨i, f, acc, hi, hf, rfl, hl, HE, hB, hK, hS⟩ := hrel
    obtain ⟨c0, c1, c2, c3, e0, e1, e2, e3⟩ := hK.all
    have hz := hK.lt
    by_cases hlt : i < 256
    · have i1 : (i : Int) < 256 := by omega
      obtain ⟨f, rfl⟩ : ∃ g, f = g + 1 := ⟨f - 1, by omega⟩
      go_wp2_with fail
      refine (runEnd_ex k i _ (by omega)).mono ?_
      rintro e w1 ⟨en, rfl, HG, hle, hen, hb⟩
      have hS1 := isBuilder_below hS hb
      have hK1 := hK.below hb hz
      have hB1 := hB.trans (hb.mono hB.size)
      have HR : Hid _ := runsL_step k.p f i en acc _ hlt HG.out HE.out
      by_cases hgt : i < en
      · have g1 : (i : Int) < (en : Int) := by omega
        go_wp2_with fail
        refine (runText_n i en _ (by omega) (by omega)).mono ?_
        rintro e w2 ⟨rfl, hb2⟩
        have hS2 := isBuilder_below hS1 hb2
        have hK2 := hK1.below hb2 hK1.lt
        have hB2 := hB1.trans (hb2.mono hB1.size)
        have hlr := rt_len i (en - 1)
        go_wp2_with fail
        refine (writeString_l (w.heap.size + 1) (w.heap.size + 1) acc (rt i (en - 1)) _ hS2 (by omega) (by have := hK2.lt; omega)).mono ?_
        rintro e w3 ⟨⟨v3, rfl⟩, hS3, hb3⟩
        go_wp2
        refine ⟨⟨en + 1, f, acc ++ rt i (en - 1), by omega, by omega, by go_num, by simp; omega, ?_, ?_, ?_, ?_⟩, by simp [intOf]; omega⟩
        · have := HR.out
          rw [if_pos hgt] at this
          exact this
        · exact hB2.trans (hb3.mono (by omega))
        · exact hK2.below hb3 (by omega)
        · exact hS3
      · have g1 : ¬ (i : Int) < (en : Int) := by omega
        go_wp2
        refine ⟨⟨en + 1, f, acc, by omega, by omega, by go_num, by omega, ?_, ?_, ?_, ?_⟩, by simp [intOf]; omega⟩
        · have := HR.out
          rw [if_neg hgt] at this
          exact this
        · exact hB1
        · exact hK1
        · exact hS1
    · have i1 : ¬ (i : Int) < 256 := by omega
      have HA : Hid _ := runsL_end k.p f i acc _ hlt HE.out
      go_wp2_with fail
      refine (string_any (w.heap.size + 1) (w.heap.size + 1) acc _ hS (by omega)).mono ?_
      rintro e w1 ⟨rfl, hb⟩
      go_wp2
      go_ret
      exact ⟨by rw [HA.out]; rfl, hB.trans (hb.mono (by omega))⟩
end Go.Proofs.YtmdfdlljeggbbaaGreatDoor

/- Package find: the first span that a finder finds. errors.Is at the errors of package api. make of a row of bools. What the document's own functions answer: joined. What the document's own functions answer: Reach at a node without parts. -/
import Derived.Test.YtphcncgdodhlbaaDoorY20
import Derived.Test.YtphcncgdodhlbaaDoorY02
import Derived.WalkKit
import Derived.LaidEql
import Derived.WalkSpells
import Derived.WalkLawsBesides
import Derived.Deep.QuietTactic
import Derived.BigQuiet
import Derived.Stop.Asserts
import Derived.Test.YtphcncgdodhlbaaDoorY09
import Derived.OwnWalk
import Derived.KernelRfl
import Derived.Test.YtphcncgdodhlbaaDoorY04
import Derived.Laws.CopyRow
import Derived.Deep.RegionHeld3
import Derived.BigRegion
namespace Go.Proofs.YtphcncgdodhlbaaDoor
set_option linter.unusedSimpArgs false
set_option linter.unusedVariables false
set_option maxRecDepth 100000
open Go.RowKit
theorem two_set (w : World) (b : Nat) (x y u v : Value) (h0 : w.cell? ⟨b, 0, none⟩ = some u) (h1 : w.cell? ⟨b, 1, none⟩ = some v) :
    ((w.setCell ⟨b, 0, none⟩ x).setCell ⟨b, 1, none⟩ y).cell? ⟨b, 0, none⟩ = some x ∧ ((w.setCell ⟨b, 0, none⟩ x).setCell ⟨b, 1, none⟩ y).cell? ⟨b, 1, none⟩ = some y := by
  have e1 : (w.setCell ⟨b, 0, none⟩ x).cell? ⟨b, 1, none⟩ = some v := by
    rw [World.cell?_setCell_other _ _ _ _ (by simp)]
    exact h1
  refine ⟨?_, World.cell?_setCell_same _ _ _ e1⟩
  rw [World.cell?_setCell_other _ _ _ _ (by simp)]
  exact World.cell?_setCell_same _ _ _ h0
theorem two_grown (w : World) (b : Nat) (x y : Value) : w.grownBy ((w.setCell ⟨b, 0, none⟩ x).setCell ⟨b, 1, none⟩ y) (some b) := (growF_cell w ⟨b, 0, none⟩ x).trans (growF_cell _ ⟨b, 1, none⟩ y)
set_option maxHeartbeats 1000000 in
theorem first_bad (c : Ax) (s : ByteArray) (i : Int) (w : World) (hs : s.size ≤ maxLen) (hp : ¬ plE s.size i = 0) :
    Calls Tryd.prog 20 #[.agg #[c.u], .string s, .int .i64 i] w fun e w' => e = .returned (.tuple #[spV (0, 0), errV (plE s.size i)]) ∧ Below w.heap.size w w' := by
  have HC : Hid (∀ w', _) := fun w' => along_bad c s i w' hs hp
  rw [show errV (plE s.size i) = .iface 23 (.int .i64 (plE s.size i)) by unfold errV; rw [if_neg hp]] at HC ⊢
  clear hs hp
  go_enter Tryd.func20, Tryd.ntmps20
  go_wp2_with fail
  refine wp_loop_rounds 1 ?_
  rw [rounds_succ]
  go_wp2_with fail
  refine Calls.mono (HC.out _) ?_
  rintro e w1 ⟨rfl, hb⟩
  have B1 : Hid (Below w.heap.size w w1) := hid ((((Below.refl _ _).alloc (Nat.le_refl _) _).alloc (by simp) _).trans (hb.mono (by simp; omega)))
  have ho : w1.heap[w.heap.size + 1]? = some (.cells #[.int .i64 0, .int .i64 0] 28 (0, 0)) := (hb.block (w.heap.size + 1) (by simp)).trans (by
    have := World.alloc_heap_new (w.alloc (.cells #[c.u] 56)) (.cells #[.int .i64 0, .int .i64 0] 28)
    rwa [World.size_alloc] at this)
  have d0 := Lib.cell_of_heap ho 0
  have d1 := Lib.cell_of_heap ho 1
  have f0 := Lib.frozen_of_heap ho 0
  have f1 := Lib.frozen_of_heap ho 1
  simp only [List.getElem?_toArray, List.getElem?_cons_zero, List.getElem?_cons_succ] at d0 d1
  clear hb ho HC
  have R := two_set w1 (w.heap.size + 1) (.int .i64 0) (.int .i64 0) _ _ d0 d1
  have BX : Hid (Below w.heap.size w ((w1.setCell ⟨w.heap.size + 1, 0, none⟩ (.int .i64 0)).setCell ⟨w.heap.size + 1, 1, none⟩ (.int .i64 0))) := (B1.out.setCell (p := ⟨w.heap.size + 1, 0, none⟩) (by simp) _).setCell (p := ⟨w.heap.size + 1, 1, none⟩) (by simp) _
  obtain ⟨r0, r1⟩ := R
  go_wp2
  refine bodyPost_ret (v := .tuple #[.agg #[.int .i64 0, .int .i64 0], .iface 23 (.int .i64 (plE s.size i))]) (by simp [results, Tryd.results20, go_sem, *]) rfl ⟨rfl, BX.out⟩
/-- Between two rounds of a search: from a on the same is found. -/
structure FfI (c : Ax) (t : Rx) (s : ByteArray) (r : Option (Nat × Nat)) (w : World) (a : Nat) (wr : World) : Prop where
  au : AuN c wr
  fin : wr.heap[w.heap.size]? = some (.cells #[c.u] 56 (0, 0))
  out : wr.heap[w.heap.size + 1]? = some (.cells #[.int .i64 0, .int .i64 0] 28 (0, 0))
  kc : ∀ k o, w.heap[k]? = some o → o.isCells = true → k ≠ c.ab → wr.heap[k]? = some o
  b : Below c.B w wr
  fnd : FndR s.data.toList t a r
set_option maxHeartbeats 4000000 in
theorem first_ok (c : Ax) (hc : c.Good) (t : Rx) (ht : t.Ok) (hss : c.ss = t.prog) (ho : ∀ n ∈ t.flat, 1 ≤ n.op ∧ n.op ≤ 9) (s : ByteArray) (hs : s.size ≤ 400) (i : Nat) (hi : i ≤ s.size) (r : Option (Nat × Nat)) (hr : FndR s.data.toList t i r) (w : World) (hT : Tab w) (h : AuN c w) :
    Calls Tryd.prog 20 #[.agg #[c.u], .string s, .int .i64 (i : Int)] w fun e w' => e = .returned (.tuple #[spV (fndX r), errV (fndE r)]) ∧ AuN c w' ∧ Kd c.ab w w' ∧ Below c.B w w' := by
  have hlen : s.data.toList.length = s.size := by simp
  have hsz := h.size
  have HC : Hid (∀ (a : Nat) (l : List Nat) w', AuN c w' → Tab w' → a ≤ s.size → EndsR s.data.toList t a l → Calls Tryd.prog 34 #[c.u, .string s, .int .i64 (a : Int)] w' fun e w'' => e = .returned (.tuple #[.int .i64 (lastI l), .nilIface]) ∧ AuN c w'' ∧ Below c.B w' w'' ∧ Kd c.ab w' w'') := fun a l w' ⟨g, m, K, Mb, k, hA⟩ hT' ha hl => (along_any c hc g m K Mb k w' hA hT' s hs a ha l (by rw [hss]; exact (run_ends t ht ho s.data.toList a (by omega) l).2 hl)).mono fun e w'' ⟨h1, h2, h3, h4⟩ => ⟨h1, h2, h3, h4.kd⟩
  have HTB : Hid (∀ w', Below c.B w w' → Tab w') := fun w' hb j hj => (hb.cell (p := ⟨1, j, none⟩) hc.tab).trans (hT j hj)
  have H0 : Hid (FfI c t s r w i ((w.alloc (.cells #[c.u] 56)).alloc (.cells #[.int .i64 0, .int .i64 0] 28))) := by
    have hb1 : Below w.heap.size w ((w.alloc (.cells #[c.u] 56)).alloc (.cells #[.int .i64 0, .int .i64 0] 28)) := ((Below.refl _ _).alloc (Nat.le_refl _) _).alloc (by simp) _
    exact ⟨h.below hb1, (Below.heap_alloc _ _ _ (by simp)).trans (World.alloc_heap_new w _), by
      have := World.alloc_heap_new (w.alloc (.cells #[c.u] 56)) (.cells #[.int .i64 0, .int .i64 0] 28)
      rwa [World.size_alloc] at this, fun k o hk _ _ => (hb1.block k (heap_lt hk)).trans hk, hb1.mono (by omega), hr⟩
  clear hc hss h hr hT
  go_enter Tryd.func20, Tryd.ntmps20
  go_wp2_with fail
  go_loopw [8] (fun v wr => ∃ a : Nat, a ≤ s.size ∧ v = .int .i64 (a : Int) ∧ Hid (FfI c t s r w a wr)) (fun v _ => s.size + 1 - (intOf v).toNat)
  case atStart => exact ⟨i, hi, rfl, H0⟩
  case round =>
    clear H0
    obtain ⟨a, ha, rfl, HA⟩ := hrel
    obtain ⟨l, hl⟩ := ends_total s.data.toList t a
    have CL := hid (HC.out a l wr HA.out.au (HTB.out _ HA.out.b) ha hl)
    have c0 := Lib.cell_of_heap HA.out.fin 0
    simp only [List.getElem?_toArray, List.getElem?_cons_zero, List.getElem?_cons_succ] at c0
    go_wp2_with fail
    refine Calls.mono CL.out ?_
    rintro e w1 ⟨rfl, hA1, hb1, hk1⟩
    have hab := HA.out.au.size
    have ho : w1.heap[w.heap.size + 1]? = some (.cells #[.int .i64 0, .int .i64 0] 28 (0, 0)) := hk1.same _ _ HA.out.out rfl (by omega)
    have hfin := hk1.same _ _ HA.out.fin rfl (by omega)
    have H1 : Hid (FndR s.data.toList t (a + 1) r → FfI c t s r w (a + 1) w1) := fun hf => ⟨hA1, hfin, ho, fun k o hk hc hn => hk1.same k o (HA.out.kc k o hk hc hn) hc hn, HA.out.b.trans hb1, hf⟩
    have HP : Hid (∀ w', w1.grownBy w' (some (w.heap.size + 1)) → AuN c w' ∧ Kd c.ab w w' ∧ Below c.B w w') := fun w' hg => by
      refine ⟨hA1.box ho (by decide) (by decide) (by omega) hg, ⟨?_, fun k o hk hc hn => ?_⟩, ?_⟩
      · have := HA.out.b.size
        have := hb1.size
        have := hg.size
        omega
      · exact (hg.block k (heap_lt (hk1.same k o (HA.out.kc k o hk hc hn) hc hn)) (by have := heap_lt hk; intro e; injection e with e; omega)).trans (hk1.same k o (HA.out.kc k o hk hc hn) hc hn)
      · exact (HA.out.b.trans hb1).trans ⟨hg.os, hg.tape, hg.output, hg.size, fun k hk => hg.block k (by have := hA1.size; omega) (by intro e; injection e with e; omega)⟩
    have d0 := Lib.cell_of_heap ho 0
    have d1 := Lib.cell_of_heap ho 1
    have f0 := Lib.frozen_of_heap ho 0
    have f1 := Lib.frozen_of_heap ho 1
    simp only [List.getElem?_toArray, List.getElem?_cons_zero, List.getElem?_cons_succ] at d0 d1
    have HFR := hid HA.out.fnd
    clear HA CL hA1 hb1 hk1 hab ho hfin c0 HC HTB
    cases hb : l.getLast? with
    | some b =>
      have er : r = some (a, b) := HFR.out.uniq (FndR.here hl hb)
      have el : lastI l = (b : Int) := by unfold lastI; rw [hb]
      rw [el]
      have g0 : (b : Int) ≥ 0 := by omega
      subst er
      obtain ⟨r0, r1⟩ := two_set w1 (w.heap.size + 1) (.int .i64 (a : Int)) (.int .i64 (b : Int)) _ _ d0 d1
      have HX := hid (HP.out _ (two_grown w1 (w.heap.size + 1) (.int .i64 (a : Int)) (.int .i64 (b : Int))))
      clear HFR hl hb el HP H1
      go_wp2
      exact bodyPost_ret (v := .tuple #[.agg #[.int .i64 (a : Int), .int .i64 (b : Int)], .nilIface]) (by simp [results, Tryd.results20, go_sem, *]) rfl ⟨rfl, HX.out.1, HX.out.2.1, HX.out.2.2⟩
    | none =>
      have e0 : l = [] := List.getLast?_eq_none_iff.1 hb
      subst e0
      have hno := hl.none
      have HF1 : Hid (FndR s.data.toList t (a + 1) r) := HFR.out.unstep hno
      have H2 := hid (H1.out HF1.out)
      rw [show lastI [] = -1 from rfl]
      clear HFR hl hb hno H1
      by_cases hae : a = s.size
      · have er : r = none := HF1.out.uniq (FndR.out (by omega))
        subst er
        have he : ((a : Int) == (s.size : Int)) = true := by rw [hae]; simp
        obtain ⟨r0, r1⟩ := two_set w1 (w.heap.size + 1) (.int .i64 0) (.int .i64 0) _ _ d0 d1
        have HX := hid (HP.out _ (two_grown w1 (w.heap.size + 1) (.int .i64 0) (.int .i64 0)))
        clear hae HF1 H2 HP
        go_wp2
        exact bodyPost_ret (v := .tuple #[.agg #[.int .i64 0, .int .i64 0], .iface 23 (.int .i64 4)]) (by simp [results, Tryd.results20, go_sem, *]) rfl ⟨rfl, HX.out.1, HX.out.2.1, HX.out.2.2⟩
      · have he : ((a : Int) == (s.size : Int)) = false := by rw [beq_eq_false_iff_ne]; omega
        have hal : a + 1 ≤ s.size := by omega
        have hw1 : IntKind.i64.wrap ((a : Int) + 1) = (a : Int) + 1 := by rw [IntKind.wrap_i64]; omega
        clear hae HF1 HP d0 d1 f0 f1
        go_wp2
        exact ⟨⟨a + 1, hal, by go_num, H2⟩, by simp [intOf]; omega⟩
end Go.Proofs.YtphcncgdodhlbaaDoor
namespace Go.Proofs.YtphcncgdodhlbaaDoor
set_option linter.unusedSimpArgs false
set_option linter.unusedVariables false
open Go.RowKit Go.Extern.Stop Go.Stop Go.Extern

theorem x_comparable (w : World) : (callFunc 116 #[.agg #[hnd 23]]).run Tryd.prog w = .ok (.value (.bool true)) w := by kernel_rfl
theorem m_comparable (t : Nat) (w : World) : (method 312 159 (.agg #[hnd t]) "Comparable").run Tryd.prog w = .ok (116, .agg #[hnd t]) w := by kernel_rfl
theorem no_is (v : Value) (xT : TypeId) (w : World) : (Instr.typeAssert (.iface 23 v) xT 171 true).run Tryd.prog w = .ok (.tuple #[.nilIface, .bool false]) w := run_typeAssert_lacksB Tryd.underlying171 (by kernel_rfl) (by kernel_rfl) v xT w
theorem no_unwrap (v : Value) (xT : TypeId) (w : World) : (Instr.typeAssert (.iface 23 v) xT 166 true).run Tryd.prog w = .ok (.tuple #[.nilIface, .bool false]) w := run_typeAssert_lacksB Tryd.underlying166 (by kernel_rfl) (by kernel_rfl) v xT w
theorem no_unwraps (v : Value) (xT : TypeId) (w : World) : (Instr.typeAssert (.iface 23 v) xT 168 true).run Tryd.prog w = .ok (.tuple #[.nilIface, .bool false]) w := run_typeAssert_lacksB Tryd.underlying168 (by kernel_rfl) (by kernel_rfl) v xT w
theorem eq_same (w : World) : (binOp .eql 32 (.iface 23 (.int .i64 4)) (.iface 23 (.int .i64 4))).run Tryd.prog w = .ok (.bool true) w := by kernel_rfl
theorem eq_full (w : World) : (binOp .eql 32 (.iface 23 (.int .i64 3)) (.iface 23 (.int .i64 4))).run Tryd.prog w = .ok (.bool false) w := by kernel_rfl
set_option maxHeartbeats 1000000 in
set_option maxRecDepth 100000 in
theorem is_same (w : World) : Calls Tryd.prog 36 #[.iface 23 (.int .i64 4), .iface 23 (.int .i64 4)] w fun e w' => e = .returned (.bool true) ∧ w' = w := by
  have x1 := x_typeOf
  have x2 := x_comparable
  have m1 := m_comparable
  have q1 := eq_same
  go_enter Tryd.func36, Tryd.ntmps36
  go_wp2
  refine wp_loop_rounds 1 ?_
  rw [rounds_succ]
  go_wp2
  go_ret
  exact ⟨rfl, rfl⟩
set_option maxHeartbeats 1000000 in
set_option maxRecDepth 100000 in
theorem is_full (w : World) : Calls Tryd.prog 36 #[.iface 23 (.int .i64 3), .iface 23 (.int .i64 4)] w fun e w' => e = .returned (.bool false) ∧ w' = w := by
  have x1 := x_typeOf
  have x2 := x_comparable
  have m1 := m_comparable
  have q1 := eq_full
  have n1 := no_is
  have n2 := no_unwrap
  have n3 := no_unwraps
  go_enter Tryd.func36, Tryd.ntmps36
  go_wp2
  refine wp_loop_rounds 1 ?_
  rw [rounds_succ]
  go_wp2
  go_ret
  exact ⟨rfl, rfl⟩
theorem is_nil (w : World) : Calls Tryd.prog 36 #[.nilIface, .iface 23 (.int .i64 4)] w fun e w' => e = .returned (.bool false) ∧ w' = w := by
  have hn := run_eql_iface_nil_left (P := Tryd.prog) w 23 (.int .i64 4) Tryd.underlying32
  go_enter Tryd.func36, Tryd.ntmps36
  go_wp2
  go_ret
  exact ⟨rfl, rfl⟩
/-- Whether an error is ErrNone, where it is none, ErrFull or ErrNone. -/
theorem is_any (n : Int) (h : n = 0 ∨ n = 3 ∨ n = 4) (w : World) : Calls Tryd.prog 36 #[errV n, .iface 23 (.int .i64 4)] w fun e w' => e = .returned (.bool (n == 4)) ∧ w' = w := by
  rcases h with rfl | rfl | rfl
  · exact is_nil w
  · exact is_full w
  · exact is_same w
end Go.Proofs.YtphcncgdodhlbaaDoor
namespace Go.Proofs.YtphcncgdodhlbaaDoor
set_option linter.unusedSimpArgs false
set_option linter.unusedVariables false
set_option maxRecDepth 100000
open Go.RowKit
set_option maxHeartbeats 4000000 in
theorem made_bools (n : Nat) : madeCells #[Value.bool false] (n * 1) = Array.replicate n (Value.bool false) := by
  apply Array.ext
  · simp [madeCells]
  · intro i h1 h2
    simp [madeCells, Nat.mod_one]
theorem mkB (N : Nat) (hN : N ≤ 1000000) (u : World) : (Instr.makeSlice 74 (.int .i64 ((N : Int) + 1)) (.int .i64 ((N : Int) + 1))).run Tryd.prog u = .ok (.slice (some ⟨u.heap.size, 0, none⟩) (N + 1) (N + 1)) (u.alloc (.cells (rowB N fun _ => false) 4)) := by
  have hinfo : (Tryd.prog.info? 4).map (fun i => (i.zero, i.size, i.bytes)) = some (some (.bool false), 1, 1) := by kernel_rfl
  obtain ⟨i0, hi, hz0, hz1, hz2⟩ := info_parts hinfo
  have h := run_make (P := Tryd.prog) u 74 4 i0 (.bool false) Tryd.underlying74 hi hz0 .i64 .i64 ((N : Int) + 1) ((N : Int) + 1) (by omega) (Int.le_refl _) (by rw [hz2]; omega) (by omega)
  have e : ((N : Int) + 1).toNat = N + 1 := by omega
  rw [e, hz1, show (Value.bool false).cells = #[Value.bool false] from rfl, made_bools, rowB_new] at h
  exact h
theorem BsRow.new' (w : World) (N : Nat) (A : Nat → Bool) : BsRow (w.alloc (.cells (rowB N A) 4)) w.heap.size N A := by
  show (w.heap.push _)[w.heap.size]? = _
  simp
end Go.Proofs.YtphcncgdodhlbaaDoor
namespace Go.Proofs.YtphcncgdodhlbaaDoor
set_option linter.unusedSimpArgs false
set_option linter.unusedVariables false
set_option maxRecDepth 100000
open Go.RowKit
set_option maxHeartbeats 4000000 in
theorem joined_any (N : Nat) (hN : N ≤ 1000000) (A B : Nat → Bool) (v u : Value) (w : World) (hA : BsIn w v N A) (hB : BsIn w u N B) :
    Calls Tryd.prog 42 #[v, u] w fun e w' => ∃ x, e = .returned x ∧ Below w.heap.size w w' ∧ BsIn w' x N fun i => A i || B i := by
  obtain ⟨b1, o1, c1, rfl, l1, hA⟩ := hA
  obtain ⟨b2, o2, c2, rfl, l2, hB⟩ := hB
  have hmk := mkB N hN
  obtain ⟨g, hg⟩ : ∃ g, g = w.heap.size := ⟨_, rfl⟩
  have HNew : Hid (BsRow (w.alloc (.cells (rowB N fun _ => false) 4)) g N fun _ => false) := hg ▸ BsRow.new' w N _
  go_enter Tryd.func42, Tryd.ntmps42
  go_wp2
  rw [← hg]
  have HG := hid hg
  clear hg
  go_loopw [6] (fun v wr => ∃ (i : Nat) (C : Nat → Bool), i ≤ N + 1 ∧ v = .int .i64 i ∧ BsRow wr g N C ∧ Hid (∀ j, C j = (decide (j < i) && (A j || B j))) ∧ Below w.heap.size w wr) (fun v _ => N + 1 - (intOf v).toNat)
  case atStart => exact ⟨0, fun _ => false, by omega, rfl, HNew.out, fun j => by simp, (Below.refl _ _).alloc (Nat.le_refl _) _⟩
  case round =>
    obtain ⟨i, C, hi, rfl, hR, HC, hb⟩ := hrel
    by_cases hil : i < N + 1
    · have a0 := (hA.below hb l1) i (by omega)
      have d0 := (hB.below hb l2) i (by omega)
      have f0 := hR.free i
      have g0 := hR.at i (by omega)
      rw [Nat.zero_add] at g0
      have i0 : (0 : Int) ≤ (i : Int) := by omega
      have i1 : (i : Int) < (N : Int) + 1 := by omega
      cases hx : A i <;> cases hy : B i
      all_goals
        rw [hx] at a0
        rw [hy] at d0
        have HR := hid (hR.set i (A i || B i))
        rw [hx, hy] at HR
        have HC2 : Hid (∀ j, upd C i (A i || B i) j = (decide (j < i + 1) && (A j || B j))) := by
          intro j
          unfold upd
          split
          · rename_i e; subst e; simp
          · rename_i e; rw [HC.out j]; congr 1; exact decide_eq_decide.2 (by omega)
        rw [hx, hy] at HC2
        have HB := hid (hb.setCell (p := ⟨g, i, none⟩) (by simp [HG.out]) (.bool (A i || B i)))
        rw [hx, hy] at HB
        clear hx hy hb hR
        go_wp2
        exact ⟨⟨i + 1, _, by omega, by go_num, HR.out, HC2, HB.out⟩, by simp [intOf]; omega⟩
    · go_wp2
      go_ret
      refine ⟨_, rfl, hb, (hR.congr fun j hj => ?_).isIn _⟩
      rw [HC.out j, decide_eq_true (by omega), Bool.true_and]
end Go.Proofs.YtphcncgdodhlbaaDoor
namespace Go.Proofs.YtphcncgdodhlbaaDoor
set_option linter.unusedSimpArgs false
set_option linter.unusedVariables false
set_option maxRecDepth 100000
open Go.RowKit
/-- B is all that t fits from the places of A. -/
def Img (s : List UInt8) (t : Rx) (A B : Nat → Bool) : Prop := ∀ j, j ≤ s.length → (B j = true ↔ ∃ i, i ≤ s.length ∧ A i = true ∧ Fit s t i j)
/-- What comes out: all that t fits from the places of A. -/
def RchP (w : World) (s : ByteArray) (t : Rx) (A : Nat → Bool) (e : Ending) (w' : World) : Prop := ∃ u B, e = .returned u ∧ Below w.heap.size w w' ∧ BsIn w' u s.size B ∧ Img s.data.toList t A B
/-- Reach at node i answers what t fits. -/
def RchOk (ns : List Nd) (b off cap i : Nat) (s : ByteArray) (t : Rx) : Prop := ∀ (A : Nat → Bool) (v : Value) (w : World), b < w.heap.size → NsAt w b off ns → BsIn w v s.size A →
  Calls Tryd.prog 31 #[.slice (some ⟨b, off, none⟩) ns.length cap, .int .i64 i, .string s, v] w (RchP w s t A)
theorem at_lt {ns : List Nd} {i : Nat} {n : Nd} (hn : ns[i]? = some n) : i < ns.length := by
  rcases Nat.lt_or_ge i ns.length with h' | h'
  · exact h'
  · rw [List.getElem?_eq_none h'] at hn; cases hn
theorem img_empty (s : List UInt8) (n : Nd) (hop : n.op = 2) (A : Nat → Bool) : Img s (.leaf n) A A := by
  intro j hj
  have hF : ∀ i, Fit s (.leaf n) i j ↔ i = j ∧ i ≤ s.length := fun i => by unfold Fit; rw [hop]; simp
  constructor
  · intro h; exact ⟨j, hj, h, (hF j).2 ⟨rfl, hj⟩⟩
  · rintro ⟨i, _, h, hf⟩
    obtain ⟨rfl, _⟩ := (hF i).1 hf
    exact h
theorem img_begin (s : List UInt8) (n : Nd) (hop : n.op = 8) (A : Nat → Bool) : Img s (.leaf n) A (upd (fun _ => false) 0 (A 0)) := by
  intro j hj
  have hF : ∀ i, Fit s (.leaf n) i j ↔ i = 0 ∧ j = 0 := fun i => by unfold Fit; rw [hop]; simp
  unfold upd
  constructor
  · intro h
    split at h
    · rename_i e; exact ⟨0, by omega, h, (hF 0).2 ⟨rfl, e⟩⟩
    · cases h
  · rintro ⟨i, _, h, hf⟩
    obtain ⟨rfl, rfl⟩ := (hF i).1 hf
    rw [if_pos rfl]; exact h
theorem img_end (s : List UInt8) (n : Nd) (hop : n.op = 9) (A : Nat → Bool) : Img s (.leaf n) A (upd (fun _ => false) s.length (A s.length)) := by
  intro j hj
  have hF : ∀ i, Fit s (.leaf n) i j ↔ i = s.length ∧ j = s.length := fun i => by unfold Fit; rw [hop]; simp
  unfold upd
  constructor
  · intro h
    split at h
    · rename_i e; exact ⟨s.length, by omega, h, (hF _).2 ⟨rfl, e⟩⟩
    · cases h
  · rintro ⟨i, _, h, hf⟩
    obtain ⟨rfl, rfl⟩ := (hF i).1 hf
    rw [if_pos rfl]; exact h
/-- What a byte of a class leads to. -/
def byteB (s : List UInt8) (n : Nd) (A : Nat → Bool) (m : Nat) : Nat → Bool := fun j => match j with
  | 0 => false
  | j + 1 => decide (j < m) && (A j && (match s[j]? with | some c => n.c.has c.toNat | none => false))
theorem img_byte (s : List UInt8) (n : Nd) (hop : n.op = 1) (A : Nat → Bool) : Img s (.leaf n) A (byteB s n A s.length) := by
  intro j hj
  have hF : ∀ i, Fit s (.leaf n) i j ↔ ∃ c, s[i]? = some c ∧ n.c.has c.toNat = true ∧ j = i + 1 := fun i => by unfold Fit; rw [hop]; simp
  cases j with
  | zero =>
    constructor
    · intro h; cases h
    · rintro ⟨i, _, _, hf⟩
      obtain ⟨c, _, _, h⟩ := (hF i).1 hf
      omega
  | succ j =>
    have hjl : j < s.length := by omega
    constructor
    · intro h
      simp only [byteB, List.getElem?_eq_getElem hjl, Bool.and_eq_true] at h
      exact ⟨j, by omega, h.2.1, (hF j).2 ⟨s[j], List.getElem?_eq_getElem hjl, h.2.2, rfl⟩⟩
    · rintro ⟨i, _, h, hf⟩
      obtain ⟨c, h1, h2, h3⟩ := (hF i).1 hf
      obtain rfl : i = j := by omega
      simp only [byteB, h1, h, h2, hjl, decide_true, Bool.and_true, Bool.true_and]
theorem new_one (w : World) (o : Obj) : Below w.heap.size w (w.alloc o) := (Below.refl _ _).alloc (Nat.le_refl _) _
set_option maxHeartbeats 4000000 in
theorem reach_begin (ns : List Nd) (b off cap i : Nat) (hl : ns.length ≤ 60) (n : Nd) (hn : ns[i]? = some n) (hop : n.op = 8) (s : ByteArray) (hs : s.size ≤ 1000000) : RchOk ns b off cap i s (.leaf n) := by
  intro A v w hlt hN hA
  have hil := at_lt hn
  obtain ⟨c0, c1, c2, c3, c4⟩ := (hN.below (new_one w (.cells (rowB s.size fun _ => false) 4)) hlt) i n hn
  have HI := hid (img_begin s.data.toList n hop A)
  try rw [sl] at HI
  rw [hop] at c0
  obtain ⟨b1, o1, d1, rfl, l1, hA⟩ := hA
  have a0 : ∀ o, ((w.alloc (.cells (rowB s.size fun _ => false) 4)).alloc o).cell? ⟨b1, o1 + 0, none⟩ = some (.bool (A 0)) := fun o => (hA.below ((new_one w _).trans ((new_one _ o).mono (by simp))) l1) 0 (by omega)
  simp only [Nat.add_zero] at a0
  have HR := fun o => (BsRow.new' w s.size fun _ => false).below (new_one _ o)
  have f0 : ∀ o, ((w.alloc (.cells (rowB s.size fun _ => false) 4)).alloc o).frozen? ⟨w.heap.size, 0, none⟩ = false := fun o => (HR o).free 0
  have g0 : ∀ o, ((w.alloc (.cells (rowB s.size fun _ => false) 4)).alloc o).cell? ⟨w.heap.size, 0, none⟩ = some (.bool false) := fun o => by
    have := (HR o).at 0 (by omega)
    rw [Nat.zero_add] at this
    exact this
  have hmk := mkB s.size hs
  have i0 : (0 : Int) ≤ (i : Int) := by omega
  have i1 : (i : Int) < (ns.length : Int) := by omega
  clear hn hN hA hop HR
  go_enter Tryd.func31, Tryd.ntmps31
  go_wp2
  go_ret
  refine ⟨_, upd (fun _ => false) 0 (A 0), rfl, (new_one w _).trans ((new_one _ _).mono (by simp)), ?_, HI.out⟩
  rw [rowB_set]
  exact ((BsRow.new' w s.size _).below (new_one _ _)).isIn _
set_option maxHeartbeats 4000000 in
theorem reach_end (ns : List Nd) (b off cap i : Nat) (hl : ns.length ≤ 60) (n : Nd) (hn : ns[i]? = some n) (hop : n.op = 9) (s : ByteArray) (hs : s.size ≤ 1000000) : RchOk ns b off cap i s (.leaf n) := by
  intro A v w hlt hN hA
  have hil := at_lt hn
  obtain ⟨c0, c1, c2, c3, c4⟩ := (hN.below (new_one w (.cells (rowB s.size fun _ => false) 4)) hlt) i n hn
  have HI := hid (img_end s.data.toList n hop A)
  try rw [sl] at HI
  rw [hop] at c0
  obtain ⟨b1, o1, d1, rfl, l1, hA⟩ := hA
  have a0 : ∀ o, ((w.alloc (.cells (rowB s.size fun _ => false) 4)).alloc o).cell? ⟨b1, o1 + s.size, none⟩ = some (.bool (A s.size)) := fun o => (hA.below ((new_one w _).trans ((new_one _ o).mono (by simp))) l1) s.size (by omega)
  skip
  have HR := fun o => (BsRow.new' w s.size fun _ => false).below (new_one _ o)
  have f0 : ∀ o, ((w.alloc (.cells (rowB s.size fun _ => false) 4)).alloc o).frozen? ⟨w.heap.size, s.size, none⟩ = false := fun o => (HR o).free s.size
  have g0 : ∀ o, ((w.alloc (.cells (rowB s.size fun _ => false) 4)).alloc o).cell? ⟨w.heap.size, s.size, none⟩ = some (.bool false) := fun o => by
    have := (HR o).at s.size (by omega)
    rw [Nat.zero_add] at this
    exact this
  have hmk := mkB s.size hs
  have i0 : (0 : Int) ≤ (i : Int) := by omega
  have i1 : (i : Int) < (ns.length : Int) := by omega
  clear hn hN hA hop HR
  go_enter Tryd.func31, Tryd.ntmps31
  go_wp2
  go_ret
  refine ⟨_, upd (fun _ => false) s.size (A s.size), rfl, (new_one w _).trans ((new_one _ _).mono (by simp)), ?_, HI.out⟩
  rw [rowB_set]
  exact ((BsRow.new' w s.size _).below (new_one _ _)).isIn _
theorem below_setRow {B : Nat} {w w1 : World} (h : Below B w w1) {g : Nat} (hg : B ≤ g) (c : Array Value) : Below B w (w1.setRow g c) := by
  refine ⟨h.os, h.tape, h.output, by simpa [World.setRow] using h.size, fun k hk => ?_⟩
  rw [← h.block k hk]
  simp [World.setRow, Array.getElem?_modify, show ¬ g = k by omega]
theorem rowB_list (N : Nat) (A : Nat → Bool) (C : Array Value) (h : C.size = N + 1) : (C.toList.take 0 ++ ((List.range (N + 1)).map fun i => Value.bool (A i)) ++ C.toList.drop (0 + ((List.range (N + 1)).map fun i => Value.bool (A i)).length)).toArray = rowB N A := by
  rw [List.drop_eq_nil_of_le (by simp; omega)]
  simp [rowB]
set_option maxHeartbeats 4000000 in
theorem reach_empty (ns : List Nd) (b off cap i : Nat) (hl : ns.length ≤ 60) (n : Nd) (hn : ns[i]? = some n) (hop : n.op = 2) (s : ByteArray) (hs : s.size ≤ 1000000) : RchOk ns b off cap i s (.leaf n) := by
  intro A v w hlt hN hA
  have hil := at_lt hn
  obtain ⟨c0, c1, c2, c3, c4⟩ := (hN.below ((Below.refl w.heap.size w).alloc (Nat.le_refl _) (.cells (rowB s.size fun _ => false) 4)) hlt) i n hn
  have HI := hid (img_empty s.data.toList n hop A)
  rw [hop] at c0
  obtain ⟨b1, o1, d1, rfl, l1, hA⟩ := hA
  have HR := fun o => (BsRow.new' w s.size fun _ => false).below (new_one _ o)
  have hmk := mkB s.size hs
  have hcp : ∀ o, (Builtin.copy_ #[74, 74] 3 #[.slice (some ⟨w.heap.size, 0, none⟩) (s.size + 1) (s.size + 1), .slice (some ⟨b1, o1, none⟩) (s.size + 1) d1]).run Tryd.prog ((w.alloc (.cells (rowB s.size fun _ => false) 4)).alloc o) = .ok (goInt (s.size + 1)) (((w.alloc (.cells (rowB s.size fun _ => false) 4)).alloc o).setRow w.heap.size (rowB s.size A)) := by
    intro o
    have h := run_copy_row (P := Tryd.prog) ((w.alloc (.cells (rowB s.size fun _ => false) 4)).alloc o) 74 74 3 4 w.heap.size 0 (s.size + 1) (s.size + 1) ⟨b1, o1, none⟩ (s.size + 1) d1 (rowB s.size fun _ => false) 4 ((List.range (s.size + 1)).map fun i => Value.bool (A i)) Tryd.underlying74 (by kernel_rfl) (HR o) (by simp) (by
      intro j u hj
      have hjl : j < s.size + 1 := by
        rcases Nat.lt_or_ge j (s.size + 1) with h' | h'
        · exact h'
        · rw [List.getElem?_eq_none (by simpa using h')] at hj; cases hj
      simp [List.getElem?_range hjl] at hj
      subst hj
      rw [Addr.add_lit]
      exact (hA.below ((new_one w _).trans ((new_one _ o).mono (by simp))) l1) j (by omega)) (by simp [rowB]) (by simp [Value.oneCell'])
    rw [rowB_list s.size A _ (by simp [rowB])] at h
    simpa using h
  have i0 : (0 : Int) ≤ (i : Int) := by omega
  have i1 : (i : Int) < (ns.length : Int) := by omega
  have HR' := hid HR
  clear hn hN hA hop HR
  go_enter Tryd.func31, Tryd.ntmps31
  go_wp2
  go_ret
  exact ⟨_, A, rfl, below_setRow ((new_one w _).trans ((new_one _ _).mono (by simp))) (Nat.le_refl _) _, BsRow.isIn (setRow_heap _ _ _ _ _ _ (HR'.out _)) _, HI.out⟩
theorem heap_new (w : World) (o : Obj) : (w.alloc o).heap[w.heap.size]? = some o := by
  show (w.heap.push _)[w.heap.size]? = _
  simp
theorem BsRow.congr' {w : World} {b g N : Nat} {A B : Nat → Bool} (h : BsRow w b N A) (hg : g = b) (he : ∀ i, i ≤ N → A i = B i) : BsRow w g N B := hg ▸ h.congr he
/-- How it stands while the bytes are gone through. -/
structure ByR (w : World) (g b1 o1 : Nat) (s : ByteArray) (n : Nd) (A : Nat → Bool) (k : Nat) (wr : World) : Prop where
  row : BsRow wr g s.size (byteB s.data.toList n A k)
  nd : wr.heap[g + 1]? = some (.cells #[.int .i64 1, .int .u64 n.c.a, .int .u64 n.c.b, .int .u64 n.c.c, .int .u64 n.c.d] 44 (0, 0))
  frm : BsAt wr b1 o1 s.size A
  b : Below w.heap.size w wr
  lt : b1 < g
  gw : g = w.heap.size
theorem ByR.low {w : World} {g b1 o1 : Nat} {s : ByteArray} {n : Nd} {A : Nat → Bool} {k : Nat} {wr w3 : World} (h : ByR w g b1 o1 s n A k wr) (hb : Below wr.heap.size wr w3) : ByR w g b1 o1 s n A k w3 := by
  have h1 := h.row.lt
  have h2 := h.lt
  have h3 : g + 1 < wr.heap.size := by
    rcases Nat.lt_or_ge (g + 1) wr.heap.size with h' | h'
    · exact h'
    · have := h.nd; rw [Array.getElem?_eq_none h'] at this; cases this
  exact ⟨h.row.below hb, (hb.block _ h3).trans h.nd, h.frm.below hb (by omega), h.b.trans (hb.mono h.b.size), h.lt, h.gw⟩
theorem ByR.sup {w : World} {g b1 o1 : Nat} {s : ByteArray} {n : Nd} {A : Nat → Bool} {k : Nat} {wr : World} (h : ByR w g b1 o1 s n A k wr) (i : Nat) (v : Value) : (wr.setCell ⟨g, i, none⟩ v).heap[g + 1]? = some (.cells #[.int .i64 1, .int .u64 n.c.a, .int .u64 n.c.b, .int .u64 n.c.c, .int .u64 n.c.d] 44 (0, 0)) ∧ BsAt (wr.setCell ⟨g, i, none⟩ v) b1 o1 s.size A := by
  have hl := h.lt
  have hb : Below g wr (wr.setCell ⟨g, i, none⟩ v) := (Below.refl g wr).setCell (p := ⟨g, i, none⟩) (Nat.le_refl _) v
  refine ⟨?_, h.frm.below hb hl⟩
  rw [← h.nd]
  simp [World.setCell, Array.getElem?_modify]
theorem byteB_step (s : List UInt8) (n : Nd) (A : Nat → Bool) (k : Nat) (c : UInt8) (hc : s[k]? = some c) (j : Nat) : upd (byteB s n A k) (k + 1) (A k && n.c.has c.toNat) j = byteB s n A (k + 1) j := by
  unfold upd
  cases j with
  | zero => rw [if_neg (by omega)]; rfl
  | succ j =>
    by_cases e : j = k
    · subst e
      simp [byteB, hc]
    · rw [if_neg (by omega)]
      simp only [byteB]
      congr 1
      exact decide_eq_decide.2 (by omega)
theorem ByR.step {w : World} {g b1 o1 : Nat} {s : ByteArray} {n : Nd} {A : Nat → Bool} {k : Nat} {wr : World} (h : ByR w g b1 o1 s n A k wr) (c : UInt8) (hc : s.data.toList[k]? = some c) (x : Bool) (hx : x = (A k && n.c.has c.toNat)) : ByR w g b1 o1 s n A (k + 1) (wr.setCell ⟨g, k + 1, none⟩ (.bool x)) := by
  subst hx
  have hq := h.sup (k + 1) (.bool (A k && n.c.has c.toNat))
  exact ⟨(h.row.set (k + 1) _).congr fun i hi => byteB_step _ n A k c hc i, hq.1, hq.2, h.b.setCell (p := ⟨g, k + 1, none⟩) (by rw [h.gw]; exact Nat.le_refl _) _, h.lt, h.gw⟩
/-- The cells that one round reads. -/
def ByC (w : World) (g b1 o1 k : Nat) (x : Bool) (n : Nd) : Prop := w.cell? ⟨b1, o1 + k, none⟩ = some (.bool x) ∧ w.cell? ⟨g + 1, 1, none⟩ = some (.int .u64 n.c.a) ∧ w.cell? ⟨g + 1, 2, none⟩ = some (.int .u64 n.c.b) ∧ w.cell? ⟨g + 1, 3, none⟩ = some (.int .u64 n.c.c) ∧ w.cell? ⟨g + 1, 4, none⟩ = some (.int .u64 n.c.d)
theorem byC_of {w : World} {g b1 o1 N k : Nat} {n : Nd} {A : Nat → Bool} (h1 : w.heap[g + 1]? = some (.cells #[.int .i64 1, .int .u64 n.c.a, .int .u64 n.c.b, .int .u64 n.c.c, .int .u64 n.c.d] 44 (0, 0))) (h2 : BsAt w b1 o1 N A) (hk : k ≤ N) : ByC w g b1 o1 k (A k) n := by
  refine ⟨h2 k hk, ?_, ?_, ?_, ?_⟩ <;> (rw [Lib.cell_of_heap h1]; rfl)
theorem ByR.all {w : World} {g b1 o1 : Nat} {s : ByteArray} {n : Nd} {A : Nat → Bool} {k : Nat} {wr : World} (h : ByR w g b1 o1 s n A k wr) (hk : k < s.size) : ByC wr g b1 o1 k (A k) n ∧ (∀ v, ByC (wr.setCell ⟨g, k + 1, none⟩ v) g b1 o1 k (A k) n) ∧ wr.cell? ⟨g, k + 1, none⟩ = some (.bool (byteB s.data.toList n A k (k + 1))) ∧ wr.frozen? ⟨g, k + 1, none⟩ = false := by
  refine ⟨byC_of h.nd h.frm (by omega), fun v => byC_of (h.sup (k + 1) v).1 (h.sup (k + 1) v).2 (by omega), ?_, h.row.free _⟩
  have := h.row.at (k + 1) (by omega)
  rw [Nat.zero_add] at this
  exact this
set_option maxHeartbeats 8000000 in
theorem reach_byte (ns : List Nd) (b off cap i : Nat) (hl : ns.length ≤ 60) (n : Nd) (hn : ns[i]? = some n) (hop : n.op = 1) (hok : n.c.ok) (s : ByteArray) (hs : s.size ≤ 1000000) : RchOk ns b off cap i s (.leaf n) := by
  intro A v w hlt hN hA
  have hil := at_lt hn
  obtain ⟨c0, c1, c2, c3, c4⟩ := (hN.below (new_one w (.cells (rowB s.size fun _ => false) 4)) hlt) i n hn
  have HI := hid (img_byte s.data.toList n hop A)
  rw [sl] at HI
  rw [hop] at c0
  obtain ⟨b1, o1, d1, rfl, l1, hA⟩ := hA
  have hmk := mkB s.size hs
  have i0 : (0 : Int) ≤ (i : Int) := by omega
  have i1 : (i : Int) < (ns.length : Int) := by omega
  obtain ⟨g, hg⟩ : ∃ g, g = w.heap.size := ⟨_, rfl⟩
  clear hn hN hop
  go_enter Tryd.func31, Tryd.ntmps31
  go_wp2
  rw [← hg]
  have HG := hid hg
  have HNew : Hid (ByR w g b1 o1 s n A 0 ((w.alloc (.cells (rowB s.size fun _ => false) 4)).alloc (.cells #[.int .i64 1, .int .u64 n.c.a, .int .u64 n.c.b, .int .u64 n.c.c, .int .u64 n.c.d] 44))) := by
    have hB := (new_one w (.cells (rowB s.size fun _ => false) 4)).trans ((new_one (w.alloc (.cells (rowB s.size fun _ => false) 4)) (.cells #[.int .i64 1, .int .u64 n.c.a, .int .u64 n.c.b, .int .u64 n.c.c, .int .u64 n.c.d] 44)).mono (by simp))
    refine ⟨((BsRow.new' w s.size fun _ => false).below (new_one _ _)).congr' hg ?_, ?_, hA.below hB l1, hB, by omega, hg⟩
    · intro j hj; cases j <;> simp [byteB]
    · rw [hg]
      have e : (w.alloc (.cells (rowB s.size fun _ => false) 4)).heap.size = w.heap.size + 1 := by simp
      rw [← e]
      exact heap_new _ _
  clear hA hmk hg c0 c1 c2 c3 c4
  have HW := hid hok
  clear hok
  go_loopw [11] (fun v wr => ∃ k : Nat, k ≤ s.size ∧ v = .int .i64 k ∧ ByR w g b1 o1 s n A k wr) (fun v _ => s.size - (intOf v).toNat)
  case atStart => exact ⟨0, by omega, rfl, HNew.out⟩
  case round =>
    clear HNew
    obtain ⟨k, hk, rfl, hR⟩ := hrel
    by_cases hkl : k < s.size
    · obtain ⟨c, hc⟩ : ∃ c, s.data.toList[k]? = some c := ⟨s.data.toList[k]'(by rw [sl]; exact hkl), List.getElem?_eq_getElem _⟩
      have hsi := str_idx' s k c hc
      have HCc := hid hc
      have k0 : (0 : Int) ≤ (k : Int) := by omega
      have k1 : (k : Int) < (s.size : Int) := by omega
      have k2 : (k : Int) + 1 < (s.size : Int) + 1 := by omega
      have k3 : (0 : Int) ≤ (k : Int) + 1 := by omega
      have k4 : (k : Int) < (s.size : Int) + 1 := by omega
      have k5 : IntKind.i64.wrap ((k : Int) + 1) = (k : Int) + 1 := by rw [IntKind.wrap_i64]; omega
      have HR := hid (hR.low (Below.drew (Below.refl _ wr)))
      have HIn := hid (in_any n.c HW.out c.toNat c.toNat_lt)
      have hcc : IntKind.i64.wrap (c.toNat : Int) = (c.toNat : Int) := by have := c.toNat_lt; rw [IntKind.wrap_i64]; omega
      obtain ⟨⟨q1, q2, q3, q4, q5⟩, hset, q6, q7⟩ := hR.all hkl
      have hs1 := fun v => (hset v).1
      have hs2 := fun v => (hset v).2.1
      have hs3 := fun v => (hset v).2.2.1
      have hs4 := fun v => (hset v).2.2.2.1
      have hs5 := fun v => (hset v).2.2.2.2
      have HRb := hid hR
      clear hc hR hset
      cases hx : A k
      · rw [hx] at q1
        simp only [hx] at hs1
        have HX := hid hx
        clear hx
        go_wp2_with fail
        go_big_region
        all_goals go_wp2
        all_goals exact ⟨⟨k + 1, by omega, by go_num, (HRb.out.step c HCc.out false (by rw [HX.out]; rfl)).low (Below.drew (Below.refl _ _))⟩, by simp [intOf]; omega⟩
      · rw [hx] at q1
        simp only [hx] at hs1
        have HX := hid hx
        have HK := hid (fun w3 hb3 => (HR.out.low hb3).all hkl (wr := w3))
        clear hx
        go_wp2_with fail
        go_region_with (first | (go_at_call 29; refine Calls.mono (HIn.out _) ?_; rintro e w3 ⟨rfl, hb3⟩; obtain ⟨⟨r1, r2, r3, r4, r5⟩, _, r6, r7⟩ := HK.out _ hb3))
        all_goals go_wp2
        all_goals exact ⟨⟨k + 1, by omega, by go_num, (HR.out.low hb3).step c HCc.out _ (by rw [HX.out, Bool.true_and])⟩, by simp [intOf]; omega⟩
    · obtain rfl : k = s.size := by omega
      have HR := hid hR
      clear hR
      go_wp2
      go_ret
      exact ⟨_, _, rfl, HR.out.b, HR.out.row.isIn _, HI.out⟩
end Go.Proofs.YtphcncgdodhlbaaDoor

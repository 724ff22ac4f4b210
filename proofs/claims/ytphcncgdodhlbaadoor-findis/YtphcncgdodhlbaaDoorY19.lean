/- Package find: the first span that a finder finds. errors.Is at the errors of package api. Package find: all spans, one behind the other; Find and All: what the document asks of it. Package find: All: what the document asks of it. Package find: Find and All: what the document asks of it. -/
import Derived.Test.YtphcncgdodhlbaaDoorY18
import Derived.Test.YtphcncgdodhlbaaDoorY02
import Derived.WalkKit
import Derived.LaidEql
import Derived.WalkSpells
import Derived.WalkLawsBesides
import Derived.Deep.QuietTactic
import Derived.BigQuiet
import Derived.Stop.Asserts
import Derived.Test.YtphcncgdodhlbaaDoorY07
import Derived.Test.YtphcncgdodhlbaaDoorY04
namespace Go.Proofs.YtphcncgdodhlbaaDoor
set_option linter.unusedSimpArgs false
set_option linter.unusedVariables false
set_option maxRecDepth 100000
open Go.RowKit
theorem two_set (w : World) (b : Nat) (x y u v : Value) (h0 : w.cell? ⟨b, 0, none⟩ = some u) (h1 : w.cell? ⟨b, 1, none⟩ = some v) :
    ((w.setCell ⟨b, 0, none⟩ x).setCell ⟨b, 1, none⟩ y).cell? ⟨b, 0, none⟩ = some x ∧ ((w.setCell ⟨b, 0, none⟩ x).setCell ⟨b, 1, none⟩ y).cell? ⟨b, 1, none⟩ = some y := by
  have e1 : (w.setCell ⟨b, 0, none⟩ x).cell? ⟨b, 1, none⟩ = some v := by
    rw [World.cell?_setCell_other _ _ _ _ (by simp)]
    exact h1
  refine ⟨?_, World.cell?_setCell_same _ _ _ e1⟩
  rw [World.cell?_setCell_other _ _ _ _ (by simp)]
  exact World.cell?_setCell_same _ _ _ h0
theorem two_grown (w : World) (b : Nat) (x y : Value) : w.grownBy ((w.setCell ⟨b, 0, none⟩ x).setCell ⟨b, 1, none⟩ y) (some b) := (growF_cell w ⟨b, 0, none⟩ x).trans (growF_cell _ ⟨b, 1, none⟩ y)
set_option maxHeartbeats 1000000 in
theorem first_bad (c : Ax) (s : ByteArray) (i : Int) (w : World) (hs : s.size ≤ maxLen) (hp : ¬ plE s.size i = 0) :
    Calls Tryd.prog 20 #[.agg #[c.u], .string s, .int .i64 i] w fun e w' => e = .returned (.tuple #[spV (0, 0), errV (plE s.size i)]) ∧ Below w.heap.size w w' := by
  have HC : Hid (∀ w', _) := fun w' => along_bad c s i w' hs hp
  rw [show errV (plE s.size i) = .iface 23 (.int .i64 (plE s.size i)) by unfold errV; rw [if_neg hp]] at HC ⊢
  clear hs hp
  go_enter Tryd.func20, Tryd.ntmps20
  go_wp2_with fail
  refine wp_loop_rounds 1 ?_
  rw [rounds_succ]
  go_wp2_with fail
  refine Calls.mono (HC.out _) ?_
  rintro e w1 ⟨rfl, hb⟩
  have B1 : Hid (Below w.heap.size w w1) := hid ((((Below.refl _ _).alloc (Nat.le_refl _) _).alloc (by simp) _).trans (hb.mono (by simp; omega)))
  have ho : w1.heap[w.heap.size + 1]? = some (.cells #[.int .i64 0, .int .i64 0] 28 (0, 0)) := (hb.block (w.heap.size + 1) (by simp)).trans (by
    have := World.alloc_heap_new (w.alloc (.cells #[c.u] 56)) (.cells #[.int .i64 0, .int .i64 0] 28)
    rwa [World.size_alloc] at this)
  have d0 := Lib.cell_of_heap ho 0
  have d1 := Lib.cell_of_heap ho 1
  have f0 := Lib.frozen_of_heap ho 0
  have f1 := Lib.frozen_of_heap ho 1
  simp only [List.getElem?_toArray, List.getElem?_cons_zero, List.getElem?_cons_succ] at d0 d1
  clear hb ho HC
  have R := two_set w1 (w.heap.size + 1) (.int .i64 0) (.int .i64 0) _ _ d0 d1
  have BX : Hid (Below w.heap.size w ((w1.setCell ⟨w.heap.size + 1, 0, none⟩ (.int .i64 0)).setCell ⟨w.heap.size + 1, 1, none⟩ (.int .i64 0))) := (B1.out.setCell (p := ⟨w.heap.size + 1, 0, none⟩) (by simp) _).setCell (p := ⟨w.heap.size + 1, 1, none⟩) (by simp) _
  obtain ⟨r0, r1⟩ := R
  go_wp2
  refine bodyPost_ret (v := .tuple #[.agg #[.int .i64 0, .int .i64 0], .iface 23 (.int .i64 (plE s.size i))]) (by simp [results, Tryd.results20, go_sem, *]) rfl ⟨rfl, BX.out⟩
/-- Between two rounds of a search: from a on the same is found. -/
structure FfI (c : Ax) (t : Rx) (s : ByteArray) (r : Option (Nat × Nat)) (w : World) (a : Nat) (wr : World) : Prop where
  au : AuN c wr
  fin : wr.heap[w.heap.size]? = some (.cells #[c.u] 56 (0, 0))
  out : wr.heap[w.heap.size + 1]? = some (.cells #[.int .i64 0, .int .i64 0] 28 (0, 0))
  kc : ∀ k o, w.heap[k]? = some o → o.isCells = true → k ≠ c.ab → wr.heap[k]? = some o
  b : Below c.B w wr
  fnd : FndR s.data.toList t a r
set_option maxHeartbeats 4000000 in
theorem first_ok (c : Ax) (hc : c.Good) (t : Rx) (ht : t.Ok) (hss : c.ss = t.prog) (ho : ∀ n ∈ t.flat, 1 ≤ n.op ∧ n.op ≤ 9) (s : ByteArray) (hs : s.size ≤ 400) (i : Nat) (hi : i ≤ s.size) (r : Option (Nat × Nat)) (hr : FndR s.data.toList t i r) (w : World) (hT : Tab w) (h : AuN c w) :
    Calls Tryd.prog 20 #[.agg #[c.u], .string s, .int .i64 (i : Int)] w fun e w' => e = .returned (.tuple #[spV (fndX r), errV (fndE r)]) ∧ AuN c w' ∧ Kd c.ab w w' ∧ Below c.B w w' := by
  have hlen : s.data.toList.length = s.size := by simp
  have hsz := h.size
  have HC : Hid (∀ (a : Nat) (l : List Nat) w', AuN c w' → Tab w' → a ≤ s.size → EndsR s.data.toList t a l → Calls Tryd.prog 34 #[c.u, .string s, .int .i64 (a : Int)] w' fun e w'' => e = .returned (.tuple #[.int .i64 (lastI l), .nilIface]) ∧ AuN c w'' ∧ Below c.B w' w'' ∧ Kd c.ab w' w'') := fun a l w' ⟨g, m, K, Mb, k, hA⟩ hT' ha hl => (along_any c hc g m K Mb k w' hA hT' s hs a ha l (by rw [hss]; exact (run_ends t ht ho s.data.toList a (by omega) l).2 hl)).mono fun e w'' ⟨h1, h2, h3, h4⟩ => ⟨h1, h2, h3, h4.kd⟩
  have HTB : Hid (∀ w', Below c.B w w' → Tab w') := fun w' hb j hj => (hb.cell (p := ⟨1, j, none⟩) hc.tab).trans (hT j hj)
  have H0 : Hid (FfI c t s r w i ((w.alloc (.cells #[c.u] 56)).alloc (.cells #[.int .i64 0, .int .i64 0] 28))) := by
    have hb1 : Below w.heap.size w ((w.alloc (.cells #[c.u] 56)).alloc (.cells #[.int .i64 0, .int .i64 0] 28)) := ((Below.refl _ _).alloc (Nat.le_refl _) _).alloc (by simp) _
    exact ⟨h.below hb1, (Below.heap_alloc _ _ _ (by simp)).trans (World.alloc_heap_new w _), by
      have := World.alloc_heap_new (w.alloc (.cells #[c.u] 56)) (.cells #[.int .i64 0, .int .i64 0] 28)
      rwa [World.size_alloc] at this, fun k o hk _ _ => (hb1.block k (heap_lt hk)).trans hk, hb1.mono (by omega), hr⟩
  clear hc hss h hr hT
  go_enter Tryd.func20, Tryd.ntmps20
  go_wp2_with fail
  go_loopw [8] (fun v wr => ∃ a : Nat, a ≤ s.size ∧ v = .int .i64 (a : Int) ∧ Hid (FfI c t s r w a wr)) (fun v _ => s.size + 1 - (intOf v).toNat)
  case atStart => exact ⟨i, hi, rfl, H0⟩
  case round =>
    clear H0
    obtain ⟨a, ha, rfl, HA⟩ := hrel
    obtain ⟨l, hl⟩ := ends_total s.data.toList t a
    have CL := hid (HC.out a l wr HA.out.au (HTB.out _ HA.out.b) ha hl)
    have c0 := Lib.cell_of_heap HA.out.fin 0
    simp only [List.getElem?_toArray, List.getElem?_cons_zero, List.getElem?_cons_succ] at c0
    go_wp2_with fail
    refine Calls.mono CL.out ?_
    rintro e w1 ⟨rfl, hA1, hb1, hk1⟩
    have hab := HA.out.au.size
    have ho : w1.heap[w.heap.size + 1]? = some (.cells #[.int .i64 0, .int .i64 0] 28 (0, 0)) := hk1.same _ _ HA.out.out rfl (by omega)
    have hfin := hk1.same _ _ HA.out.fin rfl (by omega)
    have H1 : Hid (FndR s.data.toList t (a + 1) r → FfI c t s r w (a + 1) w1) := fun hf => ⟨hA1, hfin, ho, fun k o hk hc hn => hk1.same k o (HA.out.kc k o hk hc hn) hc hn, HA.out.b.trans hb1, hf⟩
    have HP : Hid (∀ w', w1.grownBy w' (some (w.heap.size + 1)) → AuN c w' ∧ Kd c.ab w w' ∧ Below c.B w w') := fun w' hg => by
      refine ⟨hA1.box ho (by decide) (by decide) (by omega) hg, ⟨?_, fun k o hk hc hn => ?_⟩, ?_⟩
      · have := HA.out.b.size
        have := hb1.size
        have := hg.size
        omega
      · exact (hg.block k (heap_lt (hk1.same k o (HA.out.kc k o hk hc hn) hc hn)) (by have := heap_lt hk; intro e; injection e with e; omega)).trans (hk1.same k o (HA.out.kc k o hk hc hn) hc hn)
      · exact (HA.out.b.trans hb1).trans ⟨hg.os, hg.tape, hg.output, hg.size, fun k hk => hg.block k (by have := hA1.size; omega) (by intro e; injection e with e; omega)⟩
    have d0 := Lib.cell_of_heap ho 0
    have d1 := Lib.cell_of_heap ho 1
    have f0 := Lib.frozen_of_heap ho 0
    have f1 := Lib.frozen_of_heap ho 1
    simp only [List.getElem?_toArray, List.getElem?_cons_zero, List.getElem?_cons_succ] at d0 d1
    have HFR := hid HA.out.fnd
    clear HA CL hA1 hb1 hk1 hab ho hfin c0 HC HTB
    cases hb : l.getLast? with
    | some b =>
      have er : r = some (a, b) := HFR.out.uniq (FndR.here hl hb)
      have el : lastI l = (b : Int) := by unfold lastI; rw [hb]
      rw [el]
      have g0 : (b : Int) ≥ 0 := by omega
      subst er
      obtain ⟨r0, r1⟩ := two_set w1 (w.heap.size + 1) (.int .i64 (a : Int)) (.int .i64 (b : Int)) _ _ d0 d1
      have HX := hid (HP.out _ (two_grown w1 (w.heap.size + 1) (.int .i64 (a : Int)) (.int .i64 (b : Int))))
      clear HFR hl hb el HP H1
      go_wp2
      exact bodyPost_ret (v := .tuple #[.agg #[.int .i64 (a : Int), .int .i64 (b : Int)], .nilIface]) (by simp [results, Tryd.results20, go_sem, *]) rfl ⟨rfl, HX.out.1, HX.out.2.1, HX.out.2.2⟩
    | none =>
      have e0 : l = [] := List.getLast?_eq_none_iff.1 hb
      subst e0
      have hno := hl.none
      have HF1 : Hid (FndR s.data.toList t (a + 1) r) := HFR.out.unstep hno
      have H2 := hid (H1.out HF1.out)
      rw [show lastI [] = -1 from rfl]
      clear HFR hl hb hno H1
      by_cases hae : a = s.size
      · have er : r = none := HF1.out.uniq (FndR.out (by omega))
        subst er
        have he : ((a : Int) == (s.size : Int)) = true := by rw [hae]; simp
        obtain ⟨r0, r1⟩ := two_set w1 (w.heap.size + 1) (.int .i64 0) (.int .i64 0) _ _ d0 d1
        have HX := hid (HP.out _ (two_grown w1 (w.heap.size + 1) (.int .i64 0) (.int .i64 0)))
        clear hae HF1 H2 HP
        go_wp2
        exact bodyPost_ret (v := .tuple #[.agg #[.int .i64 0, .int .i64 0], .iface 23 (.int .i64 4)]) (by simp [results, Tryd.results20, go_sem, *]) rfl ⟨rfl, HX.out.1, HX.out.2.1, HX.out.2.2⟩
      · have he : ((a : Int) == (s.size : Int)) = false := by rw [beq_eq_false_iff_ne]; omega
        have hal : a + 1 ≤ s.size := by omega
        have hw1 : IntKind.i64.wrap ((a : Int) + 1) = (a : Int) + 1 := by rw [IntKind.wrap_i64]; omega
        clear hae HF1 HP d0 d1 f0 f1
        go_wp2
        exact ⟨⟨a + 1, hal, by go_num, H2⟩, by simp [intOf]; omega⟩
end Go.Proofs.YtphcncgdodhlbaaDoor
namespace Go.Proofs.YtphcncgdodhlbaaDoor
set_option linter.unusedSimpArgs false
set_option linter.unusedVariables false
open Go.RowKit Go.Extern.Stop Go.Stop Go.Extern

theorem x_comparable (w : World) : (callFunc 116 #[.agg #[hnd 23]]).run Tryd.prog w = .ok (.value (.bool true)) w := by kernel_rfl
theorem m_comparable (t : Nat) (w : World) : (method 312 159 (.agg #[hnd t]) "Comparable").run Tryd.prog w = .ok (116, .agg #[hnd t]) w := by kernel_rfl
theorem no_is (v : Value) (xT : TypeId) (w : World) : (Instr.typeAssert (.iface 23 v) xT 171 true).run Tryd.prog w = .ok (.tuple #[.nilIface, .bool false]) w := run_typeAssert_lacksB Tryd.underlying171 (by kernel_rfl) (by kernel_rfl) v xT w
theorem no_unwrap (v : Value) (xT : TypeId) (w : World) : (Instr.typeAssert (.iface 23 v) xT 166 true).run Tryd.prog w = .ok (.tuple #[.nilIface, .bool false]) w := run_typeAssert_lacksB Tryd.underlying166 (by kernel_rfl) (by kernel_rfl) v xT w
theorem no_unwraps (v : Value) (xT : TypeId) (w : World) : (Instr.typeAssert (.iface 23 v) xT 168 true).run Tryd.prog w = .ok (.tuple #[.nilIface, .bool false]) w := run_typeAssert_lacksB Tryd.underlying168 (by kernel_rfl) (by kernel_rfl) v xT w
theorem eq_same (w : World) : (binOp .eql 32 (.iface 23 (.int .i64 4)) (.iface 23 (.int .i64 4))).run Tryd.prog w = .ok (.bool true) w := by kernel_rfl
theorem eq_full (w : World) : (binOp .eql 32 (.iface 23 (.int .i64 3)) (.iface 23 (.int .i64 4))).run Tryd.prog w = .ok (.bool false) w := by kernel_rfl
set_option maxHeartbeats 1000000 in
set_option maxRecDepth 100000 in
theorem is_same (w : World) : Calls Tryd.prog 36 #[.iface 23 (.int .i64 4), .iface 23 (.int .i64 4)] w fun e w' => e = .returned (.bool true) ∧ w' = w := by
  have x1 := x_typeOf
  have x2 := x_comparable
  have m1 := m_comparable
  have q1 := eq_same
  go_enter Tryd.func36, Tryd.ntmps36
  go_wp2
  refine wp_loop_rounds 1 ?_
  rw [rounds_succ]
  go_wp2
  go_ret
  exact ⟨rfl, rfl⟩
set_option maxHeartbeats 1000000 in
set_option maxRecDepth 100000 in
theorem is_full (w : World) : Calls Tryd.prog 36 #[.iface 23 (.int .i64 3), .iface 23 (.int .i64 4)] w fun e w' => e = .returned (.bool false) ∧ w' = w := by
  have x1 := x_typeOf
  have x2 := x_comparable
  have m1 := m_comparable
  have q1 := eq_full
  have n1 := no_is
  have n2 := no_unwrap
  have n3 := no_unwraps
  go_enter Tryd.func36, Tryd.ntmps36
  go_wp2
  refine wp_loop_rounds 1 ?_
  rw [rounds_succ]
  go_wp2
  go_ret
  exact ⟨rfl, rfl⟩
theorem is_nil (w : World) : Calls Tryd.prog 36 #[.nilIface, .iface 23 (.int .i64 4)] w fun e w' => e = .returned (.bool false) ∧ w' = w := by
  have hn := run_eql_iface_nil_left (P := Tryd.prog) w 23 (.int .i64 4) Tryd.underlying32
  go_enter Tryd.func36, Tryd.ntmps36
  go_wp2
  go_ret
  exact ⟨rfl, rfl⟩
/-- Whether an error is ErrNone, where it is none, ErrFull or ErrNone. -/
theorem is_any (n : Int) (h : n = 0 ∨ n = 3 ∨ n = 4) (w : World) : Calls Tryd.prog 36 #[errV n, .iface 23 (.int .i64 4)] w fun e w' => e = .returned (.bool (n == 4)) ∧ w' = w := by
  rcases h with rfl | rfl | rfl
  · exact is_nil w
  · exact is_full w
  · exact is_same w
end Go.Proofs.YtphcncgdodhlbaaDoor
namespace Go.Proofs.YtphcncgdodhlbaaDoor
set_option linter.unusedSimpArgs false
set_option linter.unusedVariables false
set_option maxRecDepth 100000
open Go.RowKit
theorem growF_at {w w' : World} {b : Nat} (h : w.grownBy w' (some b)) {B : Nat} (hB : B ≤ b) (hs : B ≤ w.heap.size) : Below B w w' :=
  ⟨h.os, h.tape, h.output, h.size, fun k hk => h.block k (by omega) (by intro e; injection e with e; omega)⟩
set_option maxHeartbeats 1000000 in
theorem fbehind_any (x : Nat × Nat) (h1 : x.1 ≤ 400) (h2 : x.2 ≤ 400) (w : World) :
    Calls Tryd.prog 37 #[spV x] w fun e w' => e = .returned (.int .i64 (nextAt x : Int)) ∧ Below w.heap.size w w' := by
  obtain ⟨a, b⟩ := x
  have hb0 := (Below.refl w.heap.size w).alloc (Nat.le_refl _) (.cells #[.int .i64 (a : Int), .int .i64 (b : Int)] 28)
  simp only at h1 h2
  by_cases hab : (a : Int) = (b : Int)
  · have e1 : nextAt (a, b) = b + 1 := by simp [nextAt]; omega
    have hw : IntKind.i64.wrap ((b : Int) + 1) = (b : Int) + 1 := by rw [IntKind.wrap_i64]; omega
    have g1 : ((a : Int) == (b : Int)) = true := by rw [beq_iff_eq]; exact hab
    rw [e1, show ((b + 1 : Nat) : Int) = (b : Int) + 1 by omega]
    have HAB := hid hab
    clear hab e1
    go_enter Tryd.func37, Tryd.ntmps37
    go_wp2
    go_ret
    exact ⟨rfl, hb0⟩
  · have e1 : nextAt (a, b) = b := by simp [nextAt]; omega
    have g1 : ((a : Int) == (b : Int)) = false := by rw [beq_eq_false_iff_ne]; exact hab
    rw [e1]
    clear hab e1
    go_enter Tryd.func37, Tryd.ntmps37
    go_wp2
    go_ret
    exact ⟨rfl, hb0⟩
theorem SpOwn.kc {w w' : World} {B ab : Nat} {v : Value} {l : List (Nat × Nat)} (h : SpOwn w B v l) (hk : Kd ab w w') (hab : ab < B) : SpOwn w' B v l := by
  refine ⟨h.1, ?_⟩
  rcases h.2 with h0 | ⟨g, cap, cur, hv, hb, hg, hr⟩
  · exact Or.inl h0
  · exact Or.inr ⟨g, cap, cur, hv, hb, hk.same g _ hg rfl (by omega), hr⟩
theorem AuN.row {c : Ax} {w w' : World} {B : Nat} {v : Value} {l : List (Nat × Nat)} (h : AuN c w) (hO : SpOwn w B v l) (hB : c.b < B) (hg : w.grownBy w' v.ownBlock) : AuN c w' := by
  rcases hO.2 with ⟨hv, _⟩ | ⟨g, cap, cur, hv, hb, hh, _⟩
  · refine h.below ⟨hg.os, hg.tape, hg.output, hg.size, fun k hk => hg.block k hk (by rw [hv]; intro e; cases e)⟩
  · rw [hv] at hg
    exact h.box hh (by decide) (by decide) (by omega) hg
/-- Between two rounds: L is what was found till k, r is what is found behind it. -/
structure AfI (c : Ax) (t : Rx) (s : ByteArray) (all : List (Nat × Nat)) (w : World) (k : Nat) (u : Value) (L : List (Nat × Nat)) (r : List (Nat × Nat)) (wr : World) : Prop where
  parts : all = L ++ r
  own : SpOwn wr (w.heap.size + 1) u L
  rest : AllR s.data.toList t k r
  len : L.length ≤ k
  b : Below c.B w wr
  au : AuN c wr
  fin : wr.heap[w.heap.size]? = some (.cells #[c.u] 56 (0, 0))
  size : w.heap.size + 1 ≤ wr.heap.size
set_option maxHeartbeats 1000000 in
theorem fall_bad (c : Ax) (s : ByteArray) (w : World) (hs : s.size ≤ maxLen) (h4 : 400 < s.size) :
    Calls Tryd.prog 22 #[.agg #[c.u], .string s] w fun e w' => e = .returned (.tuple #[.slice none 0 0, .iface 23 (.int .i64 3)]) ∧ Below w.heap.size w w' := by
  have hp : plE s.size 0 = 3 := by unfold plE; rw [if_pos h4]
  have HC : Hid (∀ w', _) := fun w' => first_bad c s 0 w' hs (by rw [hp]; decide)
  have HI := hid is_full
  rw [hp, show errV 3 = .iface 23 (.int .i64 3) from rfl] at HC
  have g0 : (0 : Int) ≤ (s.size : Int) := by omega
  have hb0 := (Below.refl w.heap.size w).alloc (Nat.le_refl _) (.cells #[c.u] 56)
  have HB0 := hid hb0
  clear hs h4 hb0 hp
  go_enter Tryd.func22, Tryd.ntmps22
  go_wp2_with fail
  refine wp_loop_rounds 1 ?_
  rw [rounds_succ]
  go_wp2_with fail
  refine Calls.mono (HC.out _) ?_
  rintro e w1 ⟨rfl, hb⟩
  have HB1 := hid (HB0.out.trans (hb.mono HB0.out.size))
  clear hb HB0
  go_wp2_with fail
  refine Calls.mono (HI.out _) ?_
  rintro e w2 ⟨rfl, rfl⟩
  go_wp2
  go_ret2
  exact ⟨rfl, HB1.out.alloc HB1.out.size _⟩
set_option maxHeartbeats 8000000 in
theorem fall_ok (c : Ax) (hc : c.Good) (t : Rx) (ht : t.Ok) (hss : c.ss = t.prog) (ho : ∀ n ∈ t.flat, 1 ≤ n.op ∧ n.op ≤ 9) (s : ByteArray) (hs : s.size ≤ 400) (all : List (Nat × Nat)) (ha : AllR s.data.toList t 0 all) (w : World) (hT : Tab w) (h : AuN c w) :
    Calls Tryd.prog 22 #[.agg #[c.u], .string s] w fun e w' => ∃ u, e = .returned (.tuple #[u, .nilIface]) ∧ SpIn w' u all ∧ Below c.B w w' := by
  have hlen : s.data.toList.length = s.size := by simp
  have hsz := h.size
  have hall : all.length ≤ 401 := by
    have := ha.len
    omega
  have HC : Hid (∀ (k : Nat) r w', AuN c w' → Tab w' → k ≤ s.size → FndR s.data.toList t k r → _) := fun k r w' hA hT' hk hr => first_ok c hc t ht hss ho s hs k hk r hr w' hT' hA
  have HTB : Hid (∀ w', Below c.B w w' → Tab w') := fun w' hb j hj => (hb.cell (p := ⟨1, j, none⟩) hc.tab).trans (hT j hj)
  have HI : Hid (∀ (n : Int) w', (n = 0 ∨ n = 3 ∨ n = 4) → _) := fun n w' h => is_any n h w'
  have HN := hid fbehind_any
  have H0 : Hid (AfI c t s all w 0 (.slice none 0 0) [] all (w.alloc (.cells #[c.u] 56))) := by
    have hb1 : Below w.heap.size w (w.alloc (.cells #[c.u] 56)) := (Below.refl _ _).alloc (Nat.le_refl _) _
    exact ⟨rfl, SpOwn.nil _ _, ha, by simp, hb1.mono (by omega), h.below hb1, World.alloc_heap_new w _, by simp⟩
  clear hc hss h ha hT
  go_enter Tryd.func22, Tryd.ntmps22
  go_wp2_with fail
  go_loopw [6, 7] (fun u v wr => ∃ (k : Nat) (L r : List (Nat × Nat)), k ≤ s.size + 1 ∧ v = .int .i64 (k : Int) ∧ Hid (AfI c t s all w k u L r wr)) (fun _ v _ => s.size + 1 - (intOf v).toNat)
  case atStart => exact ⟨0, [], all, by omega, rfl, H0⟩
  case round =>
    clear H0
    obtain ⟨k, L, r, hk, rfl, HA⟩ := hrel
    obtain ⟨ua, uc, rfl⟩ := HA.out.own.form
    have hLl : L.length ≤ 401 := by have := HA.out.parts; rw [this] at hall; simp at hall; omega
    by_cases hks : k ≤ s.size
    · have g1 : (k : Int) ≤ (s.size : Int) := by omega
      have c0 := Lib.cell_of_heap HA.out.fin 0
      simp only [List.getElem?_toArray, List.getElem?_cons_zero, List.getElem?_cons_succ] at c0
      cases r with
      | nil =>
        have hn : FndR s.data.toList t k none := by
          have := HA.out.rest
          cases this
          assumption
        have C := hid (HC.out k none wr HA.out.au (HTB.out _ HA.out.b) hks hn)
        rw [show spV (fndX none) = .agg #[.int .i64 0, .int .i64 0] from rfl, show fndE none = 4 from rfl, show errV 4 = .iface 23 (.int .i64 4) from rfl] at C
        have CI := hid (fun w' => HI.out 4 w' (Or.inr (Or.inr rfl)))
        rw [show errV 4 = .iface 23 (.int .i64 4) from rfl, show ((4 : Int) == 4) = true from rfl] at CI
        go_wp2_with fail
        refine Calls.mono C.out ?_
        rintro e w1 ⟨rfl, hA1, hk1, hb1⟩
        have HY : Hid (∀ o, SpIn (w1.alloc o) (.slice ua L.length uc) all ∧ Below c.B w (w1.alloc o)) := fun o => by
          have hO1 := HA.out.own.kc hk1 (by omega)
          have hb2 := (Below.refl _ w1).alloc (Nat.le_refl _) o
          have hp := HA.out.parts
          rw [List.append_nil] at hp
          refine ⟨?_, (HA.out.b.trans hb1).alloc (by have := hA1.size; omega) o⟩
          rw [hp]
          exact (hO1.kept hb2).isIn (by unfold maxLen; omega)
        clear HA C hA1 hk1 hb1 c0
        go_wp2_with fail
        refine Calls.mono (CI.out _) ?_
        rintro e w2 ⟨rfl, rfl⟩
        go_wp2
        go_ret2
        exact ⟨_, rfl, (HY.out _).1, (HY.out _).2⟩
      | cons x r' =>
        obtain ⟨a, b⟩ := x
        obtain ⟨hx, hr⟩ : FndR s.data.toList t k (some (a, b)) ∧ AllR s.data.toList t (nextAt (a, b)) r' := by
          have := HA.out.rest
          cases this
          exact ⟨by assumption, by assumption⟩
        have C := hid (HC.out k (some (a, b)) wr HA.out.au (HTB.out _ HA.out.b) hks hx)
        rw [show spV (fndX (some (a, b))) = .agg #[.int .i64 (a : Int), .int .i64 (b : Int)] from rfl, show fndE (some (a, b)) = 0 from rfl, show errV 0 = .nilIface from rfl] at C
        have CI := hid (fun w' => HI.out 0 w' (Or.inl rfl))
        rw [show errV 0 = .nilIface from rfl, show ((0 : Int) == 4) = false from rfl] at CI
        have hnx := nextAt_lt hx
        have hle := hx.le
        have CN := hid (fun w' => HN.out (a, b) (by simp only; omega) (by simp only; omega) w')
        rw [show spV (a, b) = .agg #[.int .i64 (a : Int), .int .i64 (b : Int)] from rfl] at CN
        have HR := hid hr
        clear hr hx
        go_wp2_with fail
        refine Calls.mono C.out ?_
        rintro e w1 ⟨rfl, hA1, hk1, hb1⟩
        have HO1 := hid (HA.out.own.kc hk1 (by omega))
        have HA1 := hid hA1
        have HF1 := hid (hk1.same _ _ HA.out.fin rfl (by omega))
        have HB1 := hid (HA.out.b.trans hb1)
        have HS1 : Hid (w.heap.size + 1 ≤ w1.heap.size) := Nat.le_trans HA.out.size hb1.size
        have HL1 := hid HA.out.len
        have HAP : Hid (all = (L ++ [(a, b)]) ++ r') := by show _ = _; rw [HA.out.parts]; simp
        clear hb1 hk1 hA1 C HA c0
        go_wp2_with fail
        refine Calls.mono (CI.out _) ?_
        rintro e w2 ⟨rfl, rfl⟩
        obtain ⟨o1, ho1⟩ : ∃ o1 : Obj, o1 = .cells #[.int .i64 (a : Int), .int .i64 (b : Int)] 28 := ⟨_, rfl⟩
        have hbw : Below w1.heap.size w1 ((w1.alloc o1).alloc o1) := ((Below.refl _ _).alloc (Nat.le_refl _) o1).alloc (by simp) o1
        have HO2 := hid ((HO1.out.kept ((Below.refl _ _).alloc (Nat.le_refl _) o1)).kept ((Below.refl _ _).alloc (Nat.le_refl _) o1))
        have HB2 := hid (HB1.out.trans (hbw.mono (by have := HA1.out.size; omega)))
        have HA2 := hid (HA1.out.below hbw)
        have HF2 := hid ((hbw.block _ (heap_lt HF1.out)).trans HF1.out)
        have HS2 : Hid (w.heap.size + 1 ≤ ((w1.alloc o1).alloc o1).heap.size) := Nat.le_trans HS1.out hbw.size
        rw [ho1] at HO2 HB2 HA2 HF2 HS2
        clear ho1 hbw HB1 HA1 HF1
        go_wp2_with (at_builtin; refine wpList_append_sp rfl _ _ rfl (w.heap.size + 1) _ rfl L HO2.out (w1.heap.size + 1) 1 (a, b) rfl (by rw [World.cell?_alloc_at (w := w1.alloc _) _ _ (w1.heap.size + 1) 0 (by simp)]; rfl) (by rw [World.cell?_alloc_at (w := w1.alloc _) _ _ (w1.heap.size + 1) 1 (by simp)]; rfl) (by omega) HS2.out ?_; intro g cap w3 hown hgr _ _; obtain ⟨d0, d1⟩ := box_kept HO1.out _ _ _ _ hgr; have HBX := hid (HB2.out.trans ((HO2.out.grown HS2.out hgr).mono (by omega))); have HAX := hid (HA2.out.row HO2.out (by omega) hgr); have HFX := hid ((hgr.block _ (by have := HS2.out; omega) (fun e => by have := (HO2.out.row _ e.symm).1; omega)).trans HF2.out); have HSX := hid (Nat.le_trans HS2.out hgr.size); have HOX := hid hown; clear hown hgr)
        refine Calls.mono (CN.out _) ?_
        rintro e w4 ⟨rfl, hb4⟩
        have HR2 : Hid (AfI c t s all w (nextAt (a, b)) (.slice (some ⟨g, 0, none⟩) (L.length + 1) cap) (L ++ [(a, b)]) r' w4) := {
          parts := HAP.out
          own := HOX.out.kept hb4
          rest := HR.out
          len := by have := HL1.out; simp; omega
          b := HBX.out.trans (hb4.mono (by have := HAX.out.size; omega))
          au := HAX.out.below hb4
          fin := (hb4.block _ (heap_lt HFX.out)).trans HFX.out
          size := Nat.le_trans HSX.out hb4.size }
        clear hb4 HOX HBX HAX HFX HSX HA2 HB2 HF2 HS2 HO1 HO2 d0 d1 HAP HR HL1 HS1 CI CN HC HTB HI HN
        go_wp2
        exact ⟨⟨nextAt (a, b), L ++ [(a, b)], r', by omega, rfl, HR2⟩, by simp [intOf]; omega⟩
    · have g1 : ¬ (k : Int) ≤ (s.size : Int) := by omega
      have HY : Hid (SpIn wr (.slice ua L.length uc) all ∧ Below c.B w wr) := by
        have hA := HA.out
        cases r with
        | nil => exact ⟨by rw [hA.parts, List.append_nil]; exact hA.own.isIn (by unfold maxLen; omega), hA.b⟩
        | cons x r' =>
          have hR := hA.rest
          cases hR with
          | cons _ x r' hx hr =>
            have := hx.le
            omega
      clear HA
      go_wp2
      go_ret2
      exact ⟨_, rfl, HY.out.1, HY.out.2⟩
theorem meanE_pl {ns : List Nd} (hf : faultL ns = 0) (n : Nat) (i : Int) : meanE ns n i = plE n i := by
  unfold meanE meanF plE
  rw [if_pos hf]
  by_cases h4 : 400 < n
  · rw [if_pos h4, if_neg (by decide), if_pos h4]
  · rw [if_neg h4, if_pos rfl, if_neg h4]
theorem meanE_bad {ns : List Nd} (hf : ¬ faultL ns = 0) (n : Nat) (i : Int) : meanE ns n i = faultL ns := by
  unfold meanE meanF
  rw [if_neg hf, if_neg hf]
end Go.Proofs.YtphcncgdodhlbaaDoor
namespace Go.Proofs.YtphcncgdodhlbaaDoor
set_option linter.unusedSimpArgs false
set_option linter.unusedVariables false
set_option maxRecDepth 100000
open Go.RowKit
set_option maxHeartbeats 1000000 in
theorem all_find_bad (ns : List Nd) (v : Value) (s : ByteArray) (w : World) (h : NsIn w v ns) (hf : ¬ faultL ns = 0) :
    Calls Tryd.prog 12 #[v, .string s] w fun e w' => e = .returned (.tuple #[.slice none 0 0, errV (faultL ns)]) ∧ Below w.heap.size w w' := by
  have HC := hid (finderOf_bad ns v w h hf)
  rw [show errV (faultL ns) = .iface 23 (.int .i64 (faultL ns)) by unfold errV; rw [if_neg hf]] at HC ⊢
  obtain ⟨va, vc, rfl, vm⟩ := nsIn_form h
  clear h hf
  go_enter Tryd.func12, Tryd.ntmps12
  go_wp2_with fail
  refine Calls.mono HC.out ?_
  rintro e w1 ⟨rfl, hb⟩
  have hb' := hid (hb.alloc hb.size (.cells #[.pointer none] 56))
  clear hb HC
  go_wp2
  go_ret2
  exact ⟨rfl, hb'.out⟩
set_option maxHeartbeats 1000000 in
theorem all_by (t : Rx) (ht : t.Ok) (v : Value) (s : ByteArray) (w : World) (h : NsIn w v t.flat) (hf : faultL t.flat = 0) (R : Value → Value → World → Prop)
    (HF : ∀ c w', c.ss = t.prog → w.heap.size ≤ c.B → Below w.heap.size w w' → AuN c w' → Calls Tryd.prog 22 #[.agg #[c.u], .string s] w' fun e w'' => ∃ u E, e = .returned (.tuple #[u, E]) ∧ R u E w'' ∧ Below c.B w' w'') :
    Calls Tryd.prog 12 #[v, .string s] w fun e w' => ∃ u E, e = .returned (.tuple #[u, E]) ∧ R u E w' ∧ Below w.heap.size w w' := by
  have HC := hid (finderOf_ok t ht v w h hf)
  have HF' := hid HF
  obtain ⟨va, vc, rfl, vm⟩ := nsIn_form h
  clear h hf HF
  go_enter Tryd.func12, Tryd.ntmps12
  go_wp2_with fail
  refine Calls.mono HC.out ?_
  rintro e w1 ⟨c, hss, hcB, rfl, hb, hA⟩
  have B1 := hid (hb.alloc hb.size (.cells #[c.u] 56))
  have CF := hid (HF'.out c _ hss hcB B1.out (hA.below ((Below.refl _ _).alloc (Nat.le_refl _) _)))
  clear hb HC hA hss HF'
  go_wp2_with fail
  refine Calls.mono CF.out ?_
  rintro e w2 ⟨u, E, rfl, hR, hb⟩
  have HR := hid hR
  have B2 := hid (B1.out.trans (hb.mono hcB))
  clear hb CF B1 hcB hR
  go_wp2
  go_ret2
  exact ⟨u, E, rfl, HR.out, B2.out⟩
theorem findL : FindL Tab where
  bad := fun ns v s w hN hw hs hne => by
    by_cases hf : faultL ns = 0
    · have h4 : 400 < s.size := by
        rcases Nat.lt_or_ge 400 s.size with h | h
        · exact h
        · exact absurd ((meanF_zero _ _).2 ⟨hf, h⟩) hne
      have e3 : meanF ns s.size = 3 := by unfold meanF; rw [if_pos hf, if_pos h4]
      rw [e3]
      obtain ⟨t, ht, rfl⟩ := tree_of ns ((faultL_zero ns).1 hf).2.2
      refine (all_by t ht v s w hN hf (fun u E _ => u = .slice none 0 0 ∧ E = errV 3) (fun c w' hss hB hb hA => ?_)).mono ?_
      · refine (fall_bad c s w' hs h4).mono ?_
        rintro e w'' ⟨rfl, hb'⟩
        exact ⟨_, _, rfl, ⟨rfl, rfl⟩, hb'.mono (by have := hA.size; omega)⟩
      · rintro e w' ⟨u, E, rfl, ⟨rfl, rfl⟩, hb⟩
        exact ⟨_, rfl, hb, spIn_nil _⟩
    · have e3 : meanF ns s.size = faultL ns := by unfold meanF; rw [if_neg hf]
      rw [e3]
      refine (all_find_bad ns v s w hN hf).mono ?_
      rintro e w' ⟨rfl, hb⟩
      exact ⟨_, rfl, hb, spIn_nil _⟩
  all := fun t v s l w hT ht hN hw hz hl => by
    obtain ⟨hf, h4⟩ := (meanF_zero _ _).1 hz
    refine (all_by t ht v s w hN hf (fun u E w' => E = .nilIface ∧ SpIn w' u l) (fun c w' hss hB hb hA => ?_)).mono ?_
    · refine (fall_ok c (goodA_of t hss hw hf hT hB) t ht hss (fun n hn => (((faultL_zero _).1 hf).2.1 n hn).1) s h4 l hl w' (lasts_tab _ _ hT hb) hA).mono ?_
      rintro e w'' ⟨u, rfl, hI, hb'⟩
      exact ⟨_, _, rfl, ⟨rfl, hI⟩, hb'⟩
    · rintro e w' ⟨u, E, rfl, ⟨rfl, hI⟩, hb⟩
      exact ⟨_, rfl, hb, hI⟩
end Go.Proofs.YtphcncgdodhlbaaDoor
namespace Go.Proofs.YtphcncgdodhlbaaDoor
set_option linter.unusedSimpArgs false
set_option linter.unusedVariables false
set_option maxRecDepth 100000
open Go.RowKit
set_option maxHeartbeats 1000000 in
theorem find_bad (ns : List Nd) (v : Value) (s : ByteArray) (i : Int) (w : World) (h : NsIn w v ns) (hf : ¬ faultL ns = 0) :
    Calls Tryd.prog 10 #[v, .string s, .int .i64 i] w fun e w' => e = .returned (.tuple #[spV (0, 0), errV (faultL ns)]) ∧ Below w.heap.size w w' := by
  have HC : Hid (∀ w', Below w.heap.size w w' → _) := fun w' hb => finderOf_bad ns v w' (h.below hb) hf
  rw [show errV (faultL ns) = .iface 23 (.int .i64 (faultL ns)) by unfold errV; rw [if_neg hf]] at HC ⊢
  have HB0 : Hid (∀ o, Below w.heap.size w (w.alloc o)) := fun o => (Below.refl _ _).alloc (Nat.le_refl _) o
  obtain ⟨va, vc, rfl, vm⟩ := nsIn_form h
  clear h hf
  go_enter Tryd.func10, Tryd.ntmps10
  go_wp2_with fail
  refine Calls.mono (HC.out _ (HB0.out _)) ?_
  rintro e w1 ⟨rfl, hb⟩
  have hb' := hb.alloc hb.size (.cells #[.pointer none] 56)
  have ho := (hb'.block w.heap.size (by simp)).trans (World.alloc_heap_new w (.cells #[.int .i64 0, .int .i64 0] 28))
  have B1 := hid ((HB0.out _).trans (hb'.mono (HB0.out _).size))
  have d0 := Lib.cell_of_heap ho 0
  have d1 := Lib.cell_of_heap ho 1
  have f0 := Lib.frozen_of_heap ho 0
  have f1 := Lib.frozen_of_heap ho 1
  simp only [List.getElem?_toArray, List.getElem?_cons_zero, List.getElem?_cons_succ] at d0 d1
  obtain ⟨r0, r1⟩ := two_set (w1.alloc (.cells #[.pointer none] 56)) w.heap.size (.int .i64 0) (.int .i64 0) _ _ d0 d1
  have HX := hid (B1.out.trans (growF_at (two_grown (w1.alloc (.cells #[.pointer none] 56)) w.heap.size (.int .i64 0) (.int .i64 0)) (Nat.le_refl _) B1.out.size))
  clear hb hb' HC HB0 ho
  go_wp2
  exact bodyPost_ret (v := .tuple #[.agg #[.int .i64 0, .int .i64 0], .iface 23 (.int .i64 (faultL ns))]) (by simp [results, Tryd.results10, go_sem, *]) rfl ⟨rfl, HX.out⟩
set_option maxHeartbeats 1000000 in
theorem find_by (t : Rx) (ht : t.Ok) (v : Value) (s : ByteArray) (i : Int) (w : World) (h : NsIn w v t.flat) (hf : faultL t.flat = 0) (X Y : Int) (E : Value)
    (HF : ∀ c w', c.ss = t.prog → w.heap.size ≤ c.B → Below w.heap.size w w' → AuN c w' → Calls Tryd.prog 20 #[.agg #[c.u], .string s, .int .i64 i] w' fun e w'' => e = .returned (.tuple #[.agg #[.int .i64 X, .int .i64 Y], E]) ∧ Below c.B w' w'') :
    Calls Tryd.prog 10 #[v, .string s, .int .i64 i] w fun e w' => e = .returned (.tuple #[.agg #[.int .i64 X, .int .i64 Y], E]) ∧ Below w.heap.size w w' := by
  have HC : Hid (∀ w', Below w.heap.size w w' → _) := fun w' hb => finderOf_ok t ht v w' (h.below hb) hf
  have HF' := hid HF
  have HB0 : Hid (∀ o, Below w.heap.size w (w.alloc o)) := fun o => (Below.refl _ _).alloc (Nat.le_refl _) o
  obtain ⟨va, vc, rfl, vm⟩ := nsIn_form h
  clear h hf HF
  go_enter Tryd.func10, Tryd.ntmps10
  go_wp2_with fail
  refine Calls.mono (HC.out _ (HB0.out _)) ?_
  rintro e w1 ⟨c, hss, hcB, rfl, hb, hA⟩
  have hb' := hb.alloc hb.size (.cells #[c.u] 56)
  have hcB' : w.heap.size + 1 ≤ c.B := by simpa using hcB
  have HO := hid ((hb'.block w.heap.size (by simp)).trans (World.alloc_heap_new w (.cells #[.int .i64 0, .int .i64 0] 28)))
  have B1 := hid ((HB0.out _).trans (hb'.mono (HB0.out _).size))
  have CF := hid (HF'.out c _ hss (by omega) B1.out (hA.below ((Below.refl _ _).alloc (Nat.le_refl _) _)))
  clear hb hb' HC HB0 hA hcB hss HF'
  go_wp2_with fail
  refine Calls.mono CF.out ?_
  rintro e w2 ⟨rfl, hb⟩
  have ho := (hb.block w.heap.size (by omega)).trans HO.out
  have B2 := hid (B1.out.trans (hb.mono (by omega)))
  have d0 := Lib.cell_of_heap ho 0
  have d1 := Lib.cell_of_heap ho 1
  have f0 := Lib.frozen_of_heap ho 0
  have f1 := Lib.frozen_of_heap ho 1
  simp only [List.getElem?_toArray, List.getElem?_cons_zero, List.getElem?_cons_succ] at d0 d1
  obtain ⟨r0, r1⟩ := two_set w2 w.heap.size (.int .i64 X) (.int .i64 Y) _ _ d0 d1
  have HX := hid (B2.out.trans (growF_at (two_grown w2 w.heap.size (.int .i64 X) (.int .i64 Y)) (Nat.le_refl _) B2.out.size))
  clear hb ho CF HO B1 B2 hcB'
  go_wp2
  exact bodyPost_ret (v := .tuple #[.agg #[.int .i64 X, .int .i64 Y], E]) (by simp [results, Tryd.results10, go_sem, *]) rfl ⟨rfl, HX.out⟩
theorem findC : FindC Tab where
  bad := fun ns v s i w hN hw hs hne => by
    by_cases hf : faultL ns = 0
    · rw [meanE_pl hf] at hne ⊢
      obtain ⟨t, ht, rfl⟩ := tree_of ns ((faultL_zero ns).1 hf).2.2
      refine find_by t ht v s i w hN hf 0 0 _ (fun c w' hss hB hb hA => ?_)
      refine (first_bad c s i w' hs hne).mono ?_
      rintro e w'' ⟨rfl, hb'⟩
      exact ⟨rfl, hb'.mono (by have := hA.size; omega)⟩
    · rw [meanE_bad hf]
      exact find_bad ns v s i w hN hf
  find := fun t v s i r w hT ht hN hw hz hr => by
    obtain ⟨hf, h4, h0, hi⟩ := (meanE_zero _ _ _).1 hz
    refine find_by t ht v s i w hN hf _ _ _ (fun c w' hss hB hb hA => ?_)
    refine (first_ok c (goodA_of t hss hw hf hT hB) t ht hss (fun n hn => (((faultL_zero _).1 hf).2.1 n hn).1) s h4 i (by omega) r hr w' (lasts_tab _ _ hT hb) hA).mono ?_
    rintro e w'' ⟨rfl, _, _, hb'⟩
    exact ⟨rfl, hb'⟩
end Go.Proofs.YtphcncgdodhlbaaDoor

/- The landed builder: the steps of a tree; Of. The landed prog: Of. Package feed: a feed in memory; isDone, Yes. A text's bytes. Package feed: Again, Put. What is found of a pattern, the first, and one behind the other: plain mathematics. What the document asks of package feed: New, Put and Yes. Small facts on lists of nodes in memory. -/
import Derived.Test.YteeamifjldoihaaDoorY12
import Derived.Test.YteeamifjldoihaaDoorY02
import Derived.Test.YteeamifjldoihaaDoorY08
import Derived.Test.YteeamifjldoihaaDoorY10
import Derived.Test.YteeamifjldoihaaDoorY11
import Derived.BigQuiet
import Derived.Test.YteeamifjldoihaaDoorY01
import Derived.OwnWalk
import Derived.KernelRfl
import Derived.Test.YteeamifjldoihaaDoorY04
namespace Go.Proofs.YteeamifjldoihaaDoor
set_option linter.unusedSimpArgs false
set_option linter.unusedVariables false
set_option maxRecDepth 100000
open Go.RowKit
set_option maxHeartbeats 4000000 in
theorem part_one (ns : List Nd) (hl : ns.length ≤ 60) (b off cap i : Nat) (n : Nd) (a : Rx) (hn : ns[i]? = some n) (hi : i < ns.length) (hop : n.op = 5 ∨ n.op = 6 ∨ n.op = 7) (hP : BPart ns b off cap a (i + 1)) : BPart ns b off cap (.one n a) i := by
  intro g ss w hB hbg hN hm
  have hml : ss.length ≤ 500 := by omega
  obtain ⟨c0, c1, c2, c3, c4⟩ := hN i n hn
  obtain ⟨x', cap', d0, d1⟩ := hB.read
  have i0 : (0 : Int) ≤ (i : Int) := by omega
  have i1 : (i : Int) < (ns.length : Int) := by omega
  have hfl : (Rx.one n a).flat.length = 1 + a.flat.length := by simp [Rx.flat]; omega
  have HL : Hid ((i + (Rx.one n a).flat.length : Nat) = i + 1 + a.flat.length) := by show _ = _; rw [hfl]; omega
  rw [HL.out]
  rcases hop with hop | hop | hop
  · have HC : Hid ((Rx.one n a).cod ss.length = stF (ss.length + 1) (ss.length + 1 + (a.cod (ss.length + 1)).length + 1) :: (a.cod (ss.length + 1) ++ [stF (ss.length + 1) (ss.length + 1 + (a.cod (ss.length + 1)).length + 1)])) := by show _ = _; simp [Rx.cod, hop]
    have HA := hid (star_any ns hl b off cap i (by omega) a hP g ss w hB hbg hN (by omega) _ rfl)
    rw [hop] at c0
    rw [HC.out]
    clear hN hB hP HC HL hfl
    go_enter Tryd.func34, Tryd.ntmps34
    go_wp2_with fail
    refine Calls.mono HA.out ?_
    rintro e w1 ⟨rfl, h1, hb1⟩
    have H1 := hid h1
    have HB1 := hid hb1
    clear h1 hb1 HA
    go_wp2
    go_ret
    exact ⟨rfl, H1.out, HB1.out⟩
  · have HC : Hid ((Rx.one n a).cod ss.length = a.cod ss.length ++ [stF ss.length (ss.length + (a.cod ss.length).length + 1)]) := by show _ = _; simp [Rx.cod, hop]
    have HA := hid (plus_any ns hl b off cap i (by omega) a hP g ss w hB hbg hN (by omega))
    rw [hop] at c0
    rw [HC.out]
    clear hN hB hP HC HL hfl
    go_enter Tryd.func34, Tryd.ntmps34
    go_wp2_with fail
    refine Calls.mono HA.out ?_
    rintro e w1 ⟨rfl, h1, hb1⟩
    have H1 := hid h1
    have HB1 := hid hb1
    clear h1 hb1 HA
    go_wp2
    go_ret
    exact ⟨rfl, H1.out, HB1.out⟩
  · have HC : Hid ((Rx.one n a).cod ss.length = stF (ss.length + 1) (ss.length + 1 + (a.cod (ss.length + 1)).length) :: a.cod (ss.length + 1)) := by show _ = _; simp [Rx.cod, hop]
    have HA := hid (opt_any ns hl b off cap i (by omega) a hP g ss w hB hbg hN (by omega) _ rfl)
    rw [hop] at c0
    rw [HC.out]
    clear hN hB hP HC HL hfl
    go_enter Tryd.func34, Tryd.ntmps34
    go_wp2_with fail
    refine Calls.mono HA.out ?_
    rintro e w1 ⟨rfl, h1, hb1⟩
    have H1 := hid h1
    have HB1 := hid hb1
    clear h1 hb1 HA
    go_wp2
    go_ret
    exact ⟨rfl, H1.out, HB1.out⟩
set_option maxHeartbeats 4000000 in
theorem part_or (ns : List Nd) (hl : ns.length ≤ 60) (b off cap i : Nat) (n : Nd) (a c : Rx) (hn : ns[i]? = some n) (hi : i < ns.length) (hop : n.op = 4) (hal : a.flat.length ≤ 60) (hP : BPart ns b off cap a (i + 1)) (hQ : BPart ns b off cap c (i + 1 + a.flat.length)) : BPart ns b off cap (.two n a c) i := by
  intro g ss w hB hbg hN hm
  have hml : ss.length ≤ 500 := by omega
  obtain ⟨c0, c1, c2, c3, c4⟩ := hN i n hn
  obtain ⟨x', cap', d0, d1⟩ := hB.read
  have i0 : (0 : Int) ≤ (i : Int) := by omega
  have i1 : (i : Int) < (ns.length : Int) := by omega
  have hfl : (Rx.two n a c).flat.length = 1 + a.flat.length + c.flat.length := by simp [Rx.flat]; omega
  have HL : Hid ((i + (Rx.two n a c).flat.length : Nat) = i + 1 + a.flat.length + c.flat.length) := by show _ = _; rw [hfl]; omega
  rw [HL.out]
  · have HA := hid (or_any ns hl b off cap i (by omega) a c hP hQ hal g ss w hB hbg hN (by omega) _ _ _ _ rfl rfl rfl rfl)
    have HC : Hid ((Rx.two n a c).cod ss.length = stF (ss.length + 1) (ss.length + 1 + (a.cod (ss.length + 1)).length + 1) :: (a.cod (ss.length + 1) ++ (stF (ss.length + 1 + (a.cod (ss.length + 1)).length + 1 + (c.cod (ss.length + 1 + (a.cod (ss.length + 1)).length + 1)).length) (ss.length + 1 + (a.cod (ss.length + 1)).length + 1 + (c.cod (ss.length + 1 + (a.cod (ss.length + 1)).length + 1)).length) :: c.cod (ss.length + 1 + (a.cod (ss.length + 1)).length + 1)))) := by show _ = _; simp [Rx.cod, hop]
    rw [hop] at c0
    rw [HC.out]
    clear hN hB hP hQ HC HL hfl
    go_enter Tryd.func34, Tryd.ntmps34
    go_wp2_with fail
    refine Calls.mono HA.out ?_
    rintro e w1 ⟨rfl, h1, hb1⟩
    have H1 := hid h1
    have HB1 := hid hb1
    clear h1 hb1 HA
    go_wp2
    go_ret
    exact ⟨rfl, H1.out, HB1.out⟩
set_option maxHeartbeats 4000000 in
theorem part_cat (ns : List Nd) (hl : ns.length ≤ 60) (b off cap i : Nat) (n : Nd) (a c : Rx) (hn : ns[i]? = some n) (hi : i < ns.length) (hop : n.op = 3) (hal : a.flat.length ≤ 60) (hP : BPart ns b off cap a (i + 1)) (hQ : BPart ns b off cap c (i + 1 + a.flat.length)) : BPart ns b off cap (.two n a c) i := by
  intro g ss w hB hbg hN hm
  have hml : ss.length ≤ 500 := by omega
  obtain ⟨c0, c1, c2, c3, c4⟩ := hN i n hn
  obtain ⟨x', cap', d0, d1⟩ := hB.read
  have i0 : (0 : Int) ≤ (i : Int) := by omega
  have i1 : (i : Int) < (ns.length : Int) := by omega
  have hfl : (Rx.two n a c).flat.length = 1 + a.flat.length + c.flat.length := by simp [Rx.flat]; omega
  have HL : Hid ((i + (Rx.two n a c).flat.length : Nat) = i + 1 + a.flat.length + c.flat.length) := by show _ = _; rw [hfl]; omega
  rw [HL.out]
  have hcl := a.cod_len ss.length
  have HA := hid (hP g ss w hB hbg hN (by omega))
  have HC : Hid ((Rx.two n a c).cod ss.length = a.cod ss.length ++ c.cod (ss.length + (a.cod ss.length).length)) := by show _ = _; simp [Rx.cod, hop]
  have hx : Hid ((i : Int) + 1 = ((i + 1 : Nat) : Int)) := by show _ = _; omega
  have HN := hid hN
  have HQ := hid hQ
  rw [hop] at c0
  rw [HC.out]
  clear hN hB hP hQ HC HL
  go_enter Tryd.func34, Tryd.ntmps34
  go_wp2_with fail
  rw [hx.out]
  refine Calls.mono HA.out ?_
  rintro e w1 ⟨rfl, h1, hb1⟩
  have HQ1 := hid (HQ.out g _ w1 h1 hbg (HN.out.below hb1 hbg) (by rw [List.length_append]; omega))
  rw [List.length_append, List.append_assoc] at HQ1
  have HB1 := hid hb1
  clear h1 hb1 HA HQ HN
  go_wp2_with fail
  refine Calls.mono HQ1.out ?_
  rintro e w2 ⟨rfl, h2, hb2⟩
  have H2 := hid h2
  have HB2 := hid (HB1.out.trans hb2)
  clear h2 hb2 HQ1 HB1
  go_wp2
  go_ret
  exact ⟨rfl, H2.out, HB2.out⟩
/-- Every part of a valid pattern is built. -/
theorem bpart_tree (b off cap : Nat) : ∀ (t : Rx), t.Ok → ∀ (p q : List Nd), (∀ n ∈ t.flat, 1 ≤ n.op ∧ n.op ≤ 9) → (p ++ t.flat ++ q).length ≤ 60 → BPart (p ++ t.flat ++ q) b off cap t p.length
  | .leaf n, h, p, q, ho, hl => by
    have hn : (p ++ (Rx.leaf n).flat ++ q)[p.length]? = some n := by simp [Rx.flat]
    have h1 := ho n (by simp [Rx.flat])
    refine part_leaf _ hl b off cap p.length n hn (by simp [Rx.flat]) ?_
    have h0 : prt n.op = 0 := h
    have h2 : ¬ prt n.op = 2 := by omega
    have h3 : ¬ prt n.op = 1 := by omega
    rw [prt_two] at h2
    rw [prt_one] at h3
    omega
  | .one n a, h, p, q, ho, hl => by
    have e : p ++ (Rx.one n a).flat ++ q = (p ++ [n]) ++ a.flat ++ q := by simp [Rx.flat]
    have ih := bpart_tree b off cap a h.2 (p ++ [n]) q (fun m hm => ho m (by simp [Rx.flat, hm])) (by rw [← e]; exact hl)
    rw [← e, show (p ++ [n]).length = p.length + 1 from by simp] at ih
    exact part_one _ hl b off cap p.length n a (by simp [Rx.flat]) (by simp [Rx.flat]) ((prt_one n.op).1 h.1) ih
  | .two n a c, h, p, q, ho, hl => by
    have e1 : p ++ (Rx.two n a c).flat ++ q = (p ++ [n]) ++ a.flat ++ (c.flat ++ q) := by simp [Rx.flat]
    have e2 : p ++ (Rx.two n a c).flat ++ q = (p ++ [n] ++ a.flat) ++ c.flat ++ q := by simp [Rx.flat]
    have ih1 := bpart_tree b off cap a h.2.1 (p ++ [n]) (c.flat ++ q) (fun m hm => ho m (by simp [Rx.flat, hm])) (by rw [← e1]; exact hl)
    have ih2 := bpart_tree b off cap c h.2.2 (p ++ [n] ++ a.flat) q (fun m hm => ho m (by simp [Rx.flat, hm])) (by rw [← e2]; exact hl)
    rw [← e1, show (p ++ [n]).length = p.length + 1 from by simp] at ih1
    rw [← e2, show (p ++ [n] ++ a.flat).length = p.length + 1 + a.flat.length from by simp; omega] at ih2
    have hal : a.flat.length ≤ 60 := by
      rw [e1] at hl
      simp at hl
      omega
    rcases (prt_two n.op).1 h.1 with hop | hop
    · exact part_cat _ hl b off cap p.length n a c (by simp [Rx.flat]) (by simp [Rx.flat]) hop hal ih1 ih2
    · exact part_or _ hl b off cap p.length n a c (by simp [Rx.flat]) (by simp [Rx.flat]) hop hal ih1 ih2
end Go.Proofs.YteeamifjldoihaaDoor
namespace Go.Proofs.YteeamifjldoihaaDoor
set_option linter.unusedSimpArgs false
set_option linter.unusedVariables false
set_option maxRecDepth 100000
open Go.RowKit
theorem pof_bad (ns : List Nd) (v : Value) (w : World) (h : NsIn w v ns) (hf : ¬ faultL ns = 0) :
    Calls Tryd.prog 18 #[v] w fun e w' => ∃ a cap, e = .returned (.tuple #[.slice a 0 cap, errV (faultL ns)]) ∧ Below w.heap.size w w' := by
  have HC := hid (rcheck_any ns v w h)
  have e0 : errV (faultL ns) = .iface 24 (.int .i64 (faultL ns)) := by unfold errV; rw [if_neg hf]
  rw [e0] at HC
  have HE := hid e0
  clear h e0
  go_enter Tryd.func18, Tryd.ntmps18
  go_wp2_with fail
  refine Calls.mono HC.out ?_
  rintro e w1 ⟨rfl, hb1⟩
  have HB := hid hb1
  clear hb1 HC
  go_wp2
  go_ret2
  exact ⟨none, 0, by rw [HE.out]; rfl, HB.out⟩
set_option maxHeartbeats 2000000 in
theorem pof_tree (t : Rx) (ht : t.Ok) (v : Value) (w : World) (h : NsIn w v t.flat) (hf : faultL t.flat = 0) :
    Calls Tryd.prog 18 #[v] w fun e w' => ∃ u, e = .returned (.tuple #[u, .nilIface]) ∧ SsIn w' u t.prog ∧ Below w.heap.size w w' := by
  have HC := hid (rcheck_any t.flat v w h)
  rw [hf] at HC
  have e0 : errV 0 = .nilIface := rfl
  rw [e0] at HC
  clear e0
  obtain ⟨hl, hop, -⟩ := (faultL_zero t.flat).1 hf
  have hpos := t.flat_pos
  obtain ⟨a, cap, rfl, hm, h | ⟨b, off, rfl, hlt, hN⟩⟩ := h
  · rw [h] at hpos; simp at hpos
  have hcl := t.cod_len 0
  have HP := hid (bpart_tree b off cap t ht [] [] (fun n hn => (hop n hn).1) (by simpa using hl))
  rw [show ([] : List Nd) ++ t.flat ++ [] = t.flat from by simp] at HP
  have HN := hid hN
  clear hN hop hf hm
  go_enter Tryd.func18, Tryd.ntmps18
  go_wp2_with fail
  refine Calls.mono HC.out ?_
  rintro e w1 ⟨rfl, hb1⟩
  have HB1 := hid hb1
  clear hb1 HC
  go_wp2_with fail
  obtain ⟨o, ho⟩ : ∃ o : Obj, o = .cells #[.slice (some ⟨b, off, none⟩) t.flat.length cap, .slice none 0 0] 82 := ⟨_, rfl⟩
  have hBB : BB (w1.alloc o) w1.heap.size (.slice (some ⟨b, off, none⟩) t.flat.length cap) [] := by
    refine ⟨.slice none 0 0, ?_, ⟨rfl, Or.inl ⟨rfl, rfl⟩⟩⟩
    show (w1.alloc o).heap[w1.heap.size]? = _
    rw [ho]
    exact heap_alloc_new w1 _
  have hb1 : b < w1.heap.size := Nat.lt_of_lt_of_le hlt HB1.out.size
  have hN1 : NsAt (w1.alloc o) b off t.flat := (HN.out.below HB1.out hlt).below ((Below.refl _ _).alloc (Nat.le_refl _) _) hb1
  have HP1 := hid (HP.out w1.heap.size [] (w1.alloc o) hBB hb1 hN1 (by simp; omega))
  rw [← ho]
  clear hBB hN1 ho HN HP
  refine Calls.mono HP1.out ?_
  rintro e w2 ⟨rfl, h2, hb2⟩
  have HA := hid (add_any _ _ _ stD w2 h2 (by simp; omega))
  have HB2 : Hid (Below w1.heap.size w1 w2) := ((Below.refl _ _).alloc (Nat.le_refl _) o).trans hb2
  clear h2 hb2 HP1
  go_wp2_with fail
  refine Calls.mono HA.out ?_
  rintro e w3 ⟨rfl, h3, hb3⟩
  have HB3 : Hid (Below w.heap.size w w3) := HB1.out.trans ((HB2.out.trans hb3).mono HB1.out.size)
  obtain ⟨sv, hbl, hso⟩ := h3.of
  obtain ⟨c0, c1, f1⟩ := hbl.all
  have HI : Hid (SsIn w3 sv t.prog) := by
    show SsIn w3 sv t.prog
    have := hso.isIn (by unfold maxLen; simp; omega)
    simpa [Rx.prog] using this
  obtain ⟨a3, cap3, hsv⟩ := hso.len
  rw [show (([] : List St) ++ t.cod ([] : List St).length ++ [stD]).length = (t.cod 0).length + 1 from by simp] at hsv
  subst hsv
  clear h3 hb3 hbl hso HB2 HB1 HA
  go_wp2
  go_ret2
  exact ⟨_, rfl, HI.out, HB3.out⟩
theorem pof_any (ns : List Nd) (v : Value) (w : World) (h : NsIn w v ns) (hf : faultL ns = 0) :
    Calls Tryd.prog 18 #[v] w fun e w' => ∃ a len cap, e = .returned (.tuple #[.slice a len cap, .nilIface]) ∧ Below w.heap.size w w' := by
  obtain ⟨t, ht, rfl⟩ := tree_of ns ((faultL_zero ns).1 hf).2.2
  refine (pof_tree t ht v w h hf).mono ?_
  rintro e w' ⟨u, rfl, hu, hb⟩
  obtain ⟨a, cap, rfl, _⟩ := ssIn_form hu
  exact ⟨a, _, cap, rfl, hb⟩
end Go.Proofs.YteeamifjldoihaaDoor
namespace Go.Proofs.YteeamifjldoihaaDoor
set_option linter.unusedSimpArgs false
set_option linter.unusedVariables false
set_option maxRecDepth 100000
open Go.RowKit Go.Shelf
attribute [local go_sem] Oper.semAt_some
/-- Block f holds a feed of a program (in block g) that has so many bytes, and has come to p. -/
structure Fm (ss : List St) (f g cap n : Nat) (p : Nat → Bool) (w : World) : Prop where
  cells : w.heap[f]? = some (.cells #[.slice (some ⟨g, 0, none⟩) ss.length cap, .int .i64 (n : Int), .int .u64 (wd p 0), .int .u64 (wd p 1), .int .u64 (wd p 2), .int .u64 (wd p 3)] 59 (0, 0))
  steps : SsAt w g 0 ss
  glt : g < w.heap.size
  ne : g ≠ f
  fault : stepsF ss = 0
  ok : SsOk ss
  sub : Sub ss p
  tab : 1 ≠ f
theorem SsAt.of_block {w w' : World} {b off : Nat} {ss : List St} (h : SsAt w b off ss) (hb : w'.heap[b]? = w.heap[b]?) : SsAt w' b off ss := fun i n hi => by
  obtain ⟨h0, h1, h2, h3, h4, h5, h6⟩ := h i n hi
  have key : ∀ o, w'.cell? ⟨b, o, none⟩ = w.cell? ⟨b, o, none⟩ := fun o => World.cell?_of_block (a := ⟨b, o, none⟩) hb
  exact ⟨(key _).trans h0, (key _).trans h1, (key _).trans h2, (key _).trans h3, (key _).trans h4, (key _).trans h5, (key _).trans h6⟩
theorem Fm.below {ss : List St} {f g cap n : Nat} {p : Nat → Bool} {w w' : World} (h : Fm ss f g cap n p w) (hb : Below w.heap.size w w') : Fm ss f g cap n p w' :=
  ⟨(hb.block f (heap_lt h.cells)).trans h.cells, h.steps.below hb h.glt, Nat.lt_of_lt_of_le h.glt hb.size, h.ne, h.fault, h.ok, h.sub, h.tab⟩
theorem Fm.all {ss : List St} {f g cap n : Nat} {p : Nat → Bool} {w : World} (h : Fm ss f g cap n p w) : w.cell? ⟨f, 0, none⟩ = some (.slice (some ⟨g, 0, none⟩) ss.length cap) ∧ w.cell? ⟨f, 1, none⟩ = some (.int .i64 (n : Int)) ∧ w.cell? ⟨f, 2, none⟩ = some (.int .u64 (wd p 0)) ∧ w.cell? ⟨f, 3, none⟩ = some (.int .u64 (wd p 1)) ∧ w.cell? ⟨f, 4, none⟩ = some (.int .u64 (wd p 2)) ∧ w.cell? ⟨f, 5, none⟩ = some (.int .u64 (wd p 3)) :=
  ⟨(Lib.cell_of_heap h.cells 0).trans rfl, (Lib.cell_of_heap h.cells 1).trans rfl, (Lib.cell_of_heap h.cells 2).trans rfl, (Lib.cell_of_heap h.cells 3).trans rfl, (Lib.cell_of_heap h.cells 4).trans rfl, (Lib.cell_of_heap h.cells 5).trans rfl⟩
theorem Fm.frz {ss : List St} {f g cap n : Nat} {p : Nat → Bool} {w : World} (h : Fm ss f g cap n p w) (i : Nat) : w.frozen? ⟨f, i, none⟩ = false := Lib.frozen_of_heap h.cells i
set_option maxHeartbeats 4000000 in
theorem fisDone_any (ss : List St) (f g cap n : Nat) (p q : Nat → Bool) (hq : Sub ss q) (fi la : Bool) (w : World) (hT : Tab w) (h : Fm ss f g cap n p w) :
    Calls Tryd.prog 23 #[.pointer (some ⟨f, 0, none⟩), stV q, pcV fi la] w fun e w' => e = .returned (.bool (donF ss (cloF ss fi la q))) ∧ Below w.heap.size w w' := by
  obtain ⟨h200, hpos, _⟩ := stepsF_zero h.fault
  obtain ⟨w0, hw0⟩ : ∃ w0, w0 = (w.alloc (.cells #[.int .u64 (wd q 0), .int .u64 (wd q 1), .int .u64 (wd q 2), .int .u64 (wd q 3)] 57)).alloc (.cells #[.bool fi, .bool la] 63) := ⟨_, rfl⟩
  have hb0 : Below w.heap.size w w0 := by rw [hw0]; exact ((Below.refl _ _).alloc (Nat.le_refl _) _).alloc (by simp) _
  have k0 : Hq w0 w.heap.size q := by rw [hw0]; exact (Hq.new w q _ rfl).alloc _
  have k1 : w0.heap[w.heap.size + 1]? = some (.cells #[.bool fi, .bool la] 63 (0, 0)) := by
    rw [hw0]
    have := World.alloc_heap_new (w.alloc (.cells #[.int .u64 (wd q 0), .int .u64 (wd q 1), .int .u64 (wd q 2), .int .u64 (wd q 3)] 57)) (.cells #[.bool fi, .bool la] 63)
    rwa [World.size_alloc] at this
  have hm := fun d o => h.below (hb0.trans ((below_regrown w0 d o).mono hb0.size))
  have c0 := fun d o => (hm d o).all.1
  have hq4 := fun d o => (k0.below (below_regrown w0 d o) k0.lt).all
  have q0 := fun d o => (hq4 d o).1
  have q1 := fun d o => (hq4 d o).2.1
  have q2 := fun d o => (hq4 d o).2.2.1
  have q3 := fun d o => (hq4 d o).2.2.2
  have p0 := fun d o => (Lib.cell_of_heap (((below_regrown w0 d o).block _ (heap_lt k1)).trans k1) 0).trans (rfl : _ = some (Value.bool fi))
  have p1 := fun d o => (Lib.cell_of_heap (((below_regrown w0 d o).block _ (heap_lt k1)).trans k1) 1).trans (rfl : _ = some (Value.bool la))
  have CR := hid (fun w' (hb : Below w.heap.size w w') => sreached_any ss h.fault g 0 cap q hq fi la w' (hT.below hb (Nat.le_refl _)) (h.below hb).glt (h.below hb).steps)
  have CD := hid (fun w' (hb : Below w.heap.size w w') => sdone_any ss h200 g 0 cap (cloF ss fi la q) (clo_sub (leads_of h.fault) hq) w' (hT.below hb (Nat.le_refl _)) (h.below hb).glt (h.below hb).steps)
  have HB0 := hid hb0
  clear hm hq4 h hT hb0 k0 k1
  unfold stV at CR CD
  unfold stV
  go_enter Tryd.func23, Tryd.ntmps23
  go_wp2_with fail
  rw [← hw0]
  clear hw0
  refine wp_region_quiet_below (by kernel_rfl) (by kernel_rfl) ?_
  repeat (go_big_quiet_step (first
    | (go_at_call 42; exact Calls.regrown_of (CR.out _ (HB0.out.trans ((below_regrown _ _ _).mono HB0.out.size))))
    | (go_at_call 45; exact Calls.regrown_of (CD.out _ (HB0.out.trans ((below_regrown _ _ _).mono HB0.out.size))))))
  refine wpQuiet_nil ?_
  intro _ hw'
  obtain ⟨⟨dq, osq⟩, hw''⟩ := hw'
  have hbz := HB0.out.trans ((below_regrown w0 dq osq).mono HB0.out.size)
  subst hw''
  generalize Go.Sort.grow (redrawn w0 dq) osq = wz at *
  go_wp2
  go_ret
  exact ⟨rfl, hbz⟩
set_option maxHeartbeats 4000000 in
theorem fyes_any (ss : List St) (f g cap n : Nat) (p : Nat → Bool) (w : World) (hT : Tab w) (h : Fm ss f g cap n p w) :
    Calls Tryd.prog 11 #[.pointer (some ⟨f, 0, none⟩)] w fun e w' => e = .returned (.bool (donF ss (cloF ss (decide (n = 0)) true p))) ∧ Below w.heap.size w w' := by
  have h0 : ((n : Int) == 0) = decide (n = 0) := by
    by_cases h : n = 0
    · subst h; rfl
    · rw [decide_eq_false h, beq_eq_false_iff_ne]; omega
  have C := hid (fun w' (hb : Below w.heap.size w w') => fisDone_any ss f g cap n p p h.sub (decide (n = 0)) true w' (hT.below hb (Nat.le_refl _)) (h.below hb))
  have hm := fun d o => (h.below (below_regrown w d o)).all
  have c1 := fun d o => (hm d o).2.1
  have c2 := fun d o => (hm d o).2.2.1
  have c3 := fun d o => (hm d o).2.2.2.1
  have c4 := fun d o => (hm d o).2.2.2.2.1
  have c5 := fun d o => (hm d o).2.2.2.2.2
  generalize decide (n = 0) = fi at *
  unfold stV at C
  clear h hT hm
  go_enter Tryd.func11, Tryd.ntmps11
  go_wp2_with fail
  refine wp_region_quiet_below (by kernel_rfl) (by kernel_rfl) ?_
  repeat (go_big_quiet_step (first
    | (go_at_call 23; exact Calls.regrown_of (C.out _ (below_regrown _ _ _)))))
  refine wpQuiet_nil ?_
  intro _ hw'
  obtain ⟨⟨dq, osq⟩, hw''⟩ := hw'
  have hbz := below_regrown w dq osq
  subst hw''
  generalize Go.Sort.grow (redrawn w dq) osq = wz at *
  go_wp2
  go_ret
  exact ⟨rfl, hbz⟩
end Go.Proofs.YteeamifjldoihaaDoor
namespace Go.Proofs.YteeamifjldoihaaDoor
set_option linter.unusedSimpArgs false
set_option linter.unusedVariables false
set_option maxRecDepth 100000
open Go.RowKit
set_option maxHeartbeats 4000000 in
theorem sl (s : ByteArray) : s.data.toList.length = s.size := Array.length_toList
theorem str_idx' (s : ByteArray) (a : Nat) (c : UInt8) (h : s.data.toList[a]? = some c) (w : World) : (Instr.index 9 (.string s) (.int .i64 (a : Int))).run Tryd.prog w = .ok (.int .u8 (c.toNat : Int)) w := by
  have hl : a < s.data.toList.length := by
    rcases Nat.lt_or_ge a s.data.toList.length with h' | h'
    · exact h'
    · rw [List.getElem?_eq_none h'] at h; cases h
  have hs : a < s.size := by rw [← sl]; exact hl
  rw [run_index_string w 9 s .i64 (a : Int) Tryd.underlying9, dif_pos ⟨by omega, by omega⟩]
  rw [List.getElem?_eq_getElem hl] at h
  have e : s[(a : Int).toNat]'(by simpa using hs) = c := by
    exact Option.some.inj h
  rw [e]
end Go.Proofs.YteeamifjldoihaaDoor
namespace Go.Proofs.YteeamifjldoihaaDoor
set_option linter.unusedSimpArgs false
set_option linter.unusedVariables false
set_option maxRecDepth 100000
open Go.RowKit Go.Shelf
attribute [local go_sem] Oper.semAt_some
/-- What a feed has come to is set. -/
abbrev putF (w : World) (f : Nat) (q : Nat → Bool) : World := (((w.setCell ⟨f, 2, none⟩ (.int .u64 (wd q 0))).setCell ⟨f, 3, none⟩ (.int .u64 (wd q 1))).setCell ⟨f, 4, none⟩ (.int .u64 (wd q 2))).setCell ⟨f, 5, none⟩ (.int .u64 (wd q 3))
theorem grown_putF (w : World) (f : Nat) (q : Nat → Bool) : w.grownBy (putF w f q) (some f) :=
  (((grown_setS w f 2 _).trans (grown_setS _ f 3 _)).trans (grown_setS _ f 4 _)).trans (grown_setS _ f 5 _)
theorem Fm.putF {ss : List St} {f g cap n : Nat} {p : Nat → Bool} {w : World} (h : Fm ss f g cap n p w) (q : Nat → Bool) (hq : Sub ss q) : Fm ss f g cap n q (Go.Proofs.YteeamifjldoihaaDoor.putF w f q) := by
  have hc := h.cells
  refine ⟨?_, h.steps.grown (grown_putF w f q) h.glt (fun e => h.ne (Option.some.inj e)), Nat.lt_of_lt_of_le h.glt (grown_putF w f q).size, h.ne, h.fault, h.ok, hq, h.tab⟩
  simp [World.setCell, Array.getElem?_modify, hc]
theorem Fm.setN {ss : List St} {f g cap n : Nat} {p : Nat → Bool} {w : World} (h : Fm ss f g cap n p w) (m : Nat) : Fm ss f g cap m p (w.setCell ⟨f, 1, none⟩ (.int .i64 (m : Int))) := by
  have hc := h.cells
  refine ⟨?_, h.steps.grown (grown_setS w f 1 _) h.glt (fun e => h.ne (Option.some.inj e)), Nat.lt_of_lt_of_le h.glt (grown_setS w f 1 _).size, h.ne, h.fault, h.ok, h.sub, h.tab⟩
  simp [World.setCell, Array.getElem?_modify, hc]
theorem Fm.drew {ss : List St} {f g cap n : Nat} {p : Nat → Bool} {w : World} (h : Fm ss f g cap n p w) : Fm ss f g cap n p w.drew := h.below (Below.refl _ _).drew
set_option maxHeartbeats 4000000 in
theorem fagain_any (ss : List St) (f g cap n : Nat) (p : Nat → Bool) (w : World) (hT : Tab w) (h : Fm ss f g cap n p w) :
    Calls Tryd.prog 15 #[.pointer (some ⟨f, 0, none⟩)] w fun e w' => e = .returned (.tuple #[]) ∧ Fm ss f g cap 0 (begS ss true false) w' ∧ w.grownBy w' (some f) := by
  have H1 := hid (h.setN 0)
  have f1 := h.frz 1
  obtain ⟨_, c1, _⟩ := h.all
  have hg1 := grown_setS w f 1 (.int .i64 ((0 : Nat) : Int))
  have HT1 := hid (hT.grown hg1 (fun e => h.tab (Option.some.inj e)))
  have HG1 := hid hg1
  obtain ⟨w1, hw1⟩ : ∃ w1, w.setCell ⟨f, 1, none⟩ (.int .i64 ((0 : Nat) : Int)) = w1 := ⟨_, rfl⟩
  rw [hw1] at H1 HT1 HG1
  have d0 := H1.out.all.1
  have C := hid (sbegin_any ss h.fault g 0 cap true false w1 HT1.out H1.out.glt H1.out.steps)
  unfold stV at C
  clear hg1 h hT
  replace hw1 : w.setCell ⟨f, 1, none⟩ (.int .i64 0) = w1 := hw1
  go_enter Tryd.func15, Tryd.ntmps15
  go_wp2_with fail
  refine Calls.mono C.out ?_
  rintro e w2 ⟨rfl, hb2⟩
  have H2 := H1.out.below hb2
  have f2 := H2.frz 2
  have f3 := H2.frz 3
  have f4 := H2.frz 4
  have f5 := H2.frz 5
  obtain ⟨_, _, e2, e3, e4, e5⟩ := H2.all
  have HR : Hid (Fm ss f g cap 0 (begS ss true false) (putF w2 f (begS ss true false)) ∧ w.grownBy (putF w2 f (begS ss true false)) (some f)) :=
    ⟨H2.putF _ (beg_sub (leads_of H2.fault) (stepsF_zero H2.fault).2.1 _ _), (HG1.out.trans (gr_below hb2 _)).trans (grown_putF _ _ _)⟩
  clear H2 hb2 hw1 d0 c1 f1 C
  go_wp2
  first | go_end0 | go_ret
  exact ⟨rfl, HR.out⟩
/-- What is come to behind a piece. -/
noncomputable def onF (ss : List St) (p : Nat → Bool) (l : List UInt8) : Nat → Bool := l.foldl (fun p c => nxtS ss p c.toNat false false) p
theorem on_snoc (ss : List St) (p : Nat → Bool) (l : List UInt8) (c : UInt8) : onF ss p (l ++ [c]) = nxtS ss (onF ss p l) c.toNat false false := by
  unfold onF
  rw [List.foldl_append]
  rfl
theorem now_on (ss : List St) (s l : List UInt8) : onF ss (nowS ss s) l = nowS ss (s ++ l) := by
  unfold onF nowS
  rw [List.foldl_append]
theorem on_sub {ss : List St} (hL : Leads ss) {p : Nat → Bool} (hp : Sub ss p) (l : List UInt8) : Sub ss (onF ss p l) := by
  rcases List.eq_nil_or_concat l with rfl | ⟨s0, c, rfl⟩
  · exact hp
  · rw [List.concat_eq_append, on_snoc]
    exact nxt_sub hL _ _ _ _
set_option maxHeartbeats 1000000 in
theorem fput_full (ss : List St) (f g cap n : Nat) (p : Nat → Bool) (s : ByteArray) (w : World) (h : Fm ss f g cap n p w) (hs : s.size ≤ 140737488355328) (hn : n ≤ 400) (hf : 400 < n + s.size) :
    Calls Tryd.prog 8 #[.pointer (some ⟨f, 0, none⟩), .string s] w fun e w' => e = .returned (errV 3) ∧ Below w.heap.size w w' := by
  obtain ⟨c0, c1, _⟩ := h.all
  have e1 : IntKind.i64.wrap (400 - (n : Int)) = 400 - (n : Int) := by rw [IntKind.wrap_i64]; omega
  have g1 : 400 - (n : Int) < (s.size : Int) := by omega
  clear h hf
  go_enter Tryd.func8, Tryd.ntmps8
  go_wp2
  go_ret
  exact ⟨rfl, Below.refl _ _⟩
/-- Between two bytes. -/
structure FpI (ss : List St) (f g cap n : Nat) (p : Nat → Bool) (l : List UInt8) (w wr : World) : Prop where
  fm : Fm ss f g cap n (onF ss p l) wr
  gr : w.grownBy wr (some f)
  tab : Tab wr
set_option maxHeartbeats 4000000 in
theorem fput_any (ss : List St) (f g cap n : Nat) (p : Nat → Bool) (s : ByteArray) (w : World) (hT : Tab w) (h : Fm ss f g cap n p w) (hf : n + s.size ≤ 400) :
    Calls Tryd.prog 8 #[.pointer (some ⟨f, 0, none⟩), .string s] w fun e w' => e = .returned .nilIface ∧ Fm ss f g cap (n + s.size) (onF ss p s.data.toList) w' ∧ w.grownBy w' (some f) := by
  obtain ⟨c0, c1, _⟩ := h.all
  have e1 : IntKind.i64.wrap (400 - (n : Int)) = 400 - (n : Int) := by rw [IntKind.wrap_i64]; omega
  have g1 : ¬ 400 - (n : Int) < (s.size : Int) := by omega
  have H0 : Hid (FpI ss f g cap n p (s.data.toList.take 0) w w) := ⟨by simpa [onF] using h, World.grownBy.refl w _, hT⟩
  have HF := hid h.fault
  have HOK := hid h.ok
  have HTN := hid h.tab
  have HSUB := hid h.sub
  have hlen : s.data.toList.length = s.size := by simp
  clear h hT
  go_enter Tryd.func8, Tryd.ntmps8
  go_wp2_with fail
  go_loopw [17] (fun v wr => ∃ i : Nat, i ≤ s.size ∧ v = .int .i64 (i : Int) ∧ Hid (FpI ss f g cap n p (s.data.toList.take i) w wr)) (fun v _ => s.size - (intOf v).toNat)
  case atStart => exact ⟨0, Nat.zero_le _, rfl, H0⟩
  case round =>
    clear H0 c0 c1
    obtain ⟨i, hi, rfl, HR⟩ := hrel
    have d := HR.out.fm.all
    obtain ⟨d0, d1, d2, d3, d4, d5⟩ := d
    by_cases hlt : i < s.size
    · have k1 : (i : Int) < (s.size : Int) := by omega
      have k0 : (0 : Int) ≤ (i : Int) := by omega
      have hsa : s.data.toList[i]? = some s[i] := by
        rw [List.getElem?_eq_getElem (by simpa using hlt)]; rfl
      have hsi := str_idx' s i s[i] hsa
      have HTK : Hid (s.data.toList.take (i + 1) = s.data.toList.take i ++ [s[i]]) := by
        show _ = _
        rw [List.take_add_one, hsa]
        rfl
      have C := hid (fun w' (hb : Below wr.heap.size wr w') => snext_any ss HF.out HOK.out g 0 cap (onF ss p (s.data.toList.take i)) HR.out.fm.sub s[i] false false w' (HR.out.tab.below hb (Nat.le_refl _)) (HR.out.fm.below hb).glt (HR.out.fm.below hb).steps)
      have HQ := hid (fun w' (hb : Below wr.heap.size wr w') => HR.out.fm.below hb)
      rw [← on_snoc, ← HTK.out] at C
      obtain ⟨q, hq⟩ : ∃ q, onF ss p (s.data.toList.take (i + 1)) = q := ⟨_, rfl⟩
      have HQS : Hid (Sub ss q) := by
        show Sub ss q
        rw [← hq]
        exact on_sub (leads_of HF.out) HSUB.out _
      rw [hq] at C
      have HQE := hid hq
      unfold stV at C
      clear hq hsa
      go_wp2_with fail
      go_region_with (first
        | (go_at_call 21; refine (C.out _ (Below.refl _ _).drew).mono ?_; rintro e w1 ⟨rfl, hb1⟩; have m1 := HQ.out w1 ((Below.refl _ wr).drew.trans hb1); have f2 := m1.frz 2; have f3 := m1.frz 3; have f4 := m1.frz 4; have f5 := m1.frz 5; obtain ⟨_, _, y2, y3, y4, y5⟩ := m1.all))
      all_goals
        have HR2 : Hid (FpI ss f g cap n p (s.data.toList.take (i + 1)) w (putF w1 f q)) := by
          have m2 := m1.putF q HQS.out
          have hg : wr.grownBy (putF w1 f q) (some f) := (gr_below ((Below.refl _ wr).drew.trans hb1) _).trans (grown_putF w1 f q)
          refine ⟨by rw [HQE.out]; exact m2, HR.out.gr.trans hg, HR.out.tab.grown hg (fun e => HTN.out (Option.some.inj e))⟩
        clear HR C HQ HTK HQS HQE hsi m1 hb1 d0 d1 d2 d3 d4 d5
        go_wp2
        exact ⟨⟨i + 1, by omega, by go_num, HR2⟩, by simp [intOf]; omega⟩
    · have hin : i = s.size := by omega
      have k1 : ¬ (i : Int) < (s.size : Int) := by omega
      have HT : Hid (s.data.toList.take i = s.data.toList) := by
        show _ = _
        rw [hin, ← hlen, List.take_length]
      have HRR := HR.out
      rw [HT.out] at HRR
      have q1 := HRR.fm.frz 1
      have ew : IntKind.i64.wrap ((n : Int) + (s.size : Int)) = ((n + s.size : Nat) : Int) := by rw [IntKind.wrap_i64]; omega
      have HE : Hid (Fm ss f g cap (n + s.size) (onF ss p s.data.toList) (wr.setCell ⟨f, 1, none⟩ (.int .i64 ((n + s.size : Nat) : Int))) ∧ w.grownBy (wr.setCell ⟨f, 1, none⟩ (.int .i64 ((n + s.size : Nat) : Int))) (some f)) :=
        ⟨HRR.fm.setN _, HRR.gr.trans (grown_setS wr f 1 _)⟩
      clear HRR HR HT hin
      go_wp2
      go_ret
      exact ⟨rfl, HE.out⟩
end Go.Proofs.YteeamifjldoihaaDoor
namespace Go.Proofs.YteeamifjldoihaaDoor
set_option linter.unusedSimpArgs false
set_option linter.unusedVariables false
set_option maxRecDepth 100000
open Go.RowKit
/-- From place k nothing is fitted. -/
def NoFit (s : List UInt8) (t : Rx) (k : Nat) : Prop := ∀ j, ¬ Fit s t k j
/-- What is found from place i on: none ahead, none longer. -/
def FndR (s : List UInt8) (t : Rx) (i : Nat) : Option (Nat × Nat) → Prop
  | none => ∀ k, i ≤ k → k ≤ s.length → NoFit s t k
  | some (a, b) => i ≤ a ∧ (∀ k, i ≤ k → k < a → NoFit s t k) ∧ Fit s t a b ∧ ∀ c, Fit s t a c → c ≤ b
theorem FndR.le {s : List UInt8} {t : Rx} {i a b : Nat} (h : FndR s t i (some (a, b))) : i ≤ a ∧ a ≤ b ∧ b ≤ s.length := by
  obtain ⟨h1, _, h2, _⟩ := h
  have := fit_le s t a b h2
  omega
theorem FndR.out {s : List UInt8} {t : Rx} {i : Nat} (h : s.length < i) : FndR s t i none := fun k h1 h2 => by omega
theorem FndR.step {s : List UInt8} {t : Rx} {i : Nat} {r : Option (Nat × Nat)} (hn : NoFit s t i) (h : FndR s t (i + 1) r) : FndR s t i r := by
  cases r with
  | none =>
    intro k h1 h2
    rcases Nat.eq_or_lt_of_le h1 with rfl | h1
    · exact hn
    · exact h k h1 h2
  | some x =>
    obtain ⟨a, b⟩ := x
    obtain ⟨h1, h2, h3, h4⟩ := h
    refine ⟨by omega, fun k g1 g2 => ?_, h3, h4⟩
    rcases Nat.eq_or_lt_of_le g1 with rfl | g1
    · exact hn
    · exact h2 k g1 g2
theorem FndR.unstep {s : List UInt8} {t : Rx} {i : Nat} {r : Option (Nat × Nat)} (hn : NoFit s t i) (h : FndR s t i r) : FndR s t (i + 1) r := by
  cases r with
  | none => exact fun k h1 h2 => h k (by omega) h2
  | some x =>
    obtain ⟨a, b⟩ := x
    obtain ⟨h1, h2, h3, h4⟩ := h
    have : i ≠ a := fun e => hn b (e ▸ h3)
    exact ⟨by omega, fun k g1 g2 => h2 k (by omega) g2, h3, h4⟩
theorem FndR.uniq {s : List UInt8} {t : Rx} {i : Nat} {r r' : Option (Nat × Nat)} (h : FndR s t i r) (h' : FndR s t i r') : r = r' := by
  cases r with
  | none =>
    cases r' with
    | none => rfl
    | some x =>
      obtain ⟨a, b⟩ := x
      have hl := h'.le
      exact absurd h'.2.2.1 (h a hl.1 (by omega) b)
  | some x =>
    obtain ⟨a, b⟩ := x
    cases r' with
    | none =>
      have hl := h.le
      exact absurd h.2.2.1 (h' a hl.1 (by omega) b)
    | some y =>
      obtain ⟨c, d⟩ := y
      obtain ⟨h1, h2, h3, h4⟩ := h
      obtain ⟨g1, g2, g3, g4⟩ := h'
      have e : a = c := by
        rcases Nat.lt_trichotomy a c with e | e | e
        · exact absurd h3 (g2 a h1 e b)
        · exact e
        · exact absurd g3 (h2 c g1 e d)
      subst e
      have := h4 d g3
      have := g4 b h3
      congr 2
      omega
/-- The last of what rises is the greatest. -/
theorem rise_last {l : List Nat} (h : l.Pairwise (· < ·)) {b : Nat} (hb : l.getLast? = some b) : ∀ c ∈ l, c ≤ b := by
  obtain ⟨r, rfl⟩ : ∃ r, l = r ++ [b] := by
    obtain ⟨ys, hys⟩ := List.getLast?_eq_some_iff.1 hb
    exact ⟨ys, hys⟩
  intro c hc
  rw [List.pairwise_append] at h
  rcases List.mem_append.1 hc with hc | hc
  · exact Nat.le_of_lt (h.2.2 c hc b (by simp))
  · rw [List.mem_singleton.1 hc]; exact Nat.le_refl _
theorem EndsR.none {s : List UInt8} {t : Rx} {i : Nat} (h : EndsR s t i []) : NoFit s t i := fun j hj => by
  have := (h.2 j).2 hj
  cases this
theorem FndR.here {s : List UInt8} {t : Rx} {i b : Nat} {l : List Nat} (h : EndsR s t i l) (hb : l.getLast? = some b) : FndR s t i (some (i, b)) :=
  ⟨Nat.le_refl _, fun k h1 h2 => by omega, (h.2 b).1 (List.mem_of_getLast? hb), fun c hc => rise_last h.1 hb c ((h.2 c).2 hc)⟩
theorem fnd_total (s : List UInt8) (t : Rx) : ∀ d i, s.length + 1 - i ≤ d → ∃ r, FndR s t i r
  | 0, i, h => ⟨none, FndR.out (by omega)⟩
  | d + 1, i, h => by
    rcases Nat.lt_or_ge s.length i with h1 | h1
    · exact ⟨none, FndR.out h1⟩
    · obtain ⟨l, hl⟩ := ends_total s t i
      cases hb : l.getLast? with
      | none =>
        have e : l = [] := List.getLast?_eq_none_iff.1 hb
        subst e
        obtain ⟨r, hr⟩ := fnd_total s t d (i + 1) (by omega)
        exact ⟨r, hr.step hl.none⟩
      | some b => exact ⟨_, FndR.here hl hb⟩
/-- Where one goes on behind a span. -/
def nextAt (x : Nat × Nat) : Nat := if x.1 = x.2 then x.2 + 1 else x.2
/-- All that is found from a place on, one behind the other. -/
inductive AllR (s : List UInt8) (t : Rx) : Nat → List (Nat × Nat) → Prop
  | nil (i : Nat) : FndR s t i none → AllR s t i []
  | cons (i : Nat) (x : Nat × Nat) (l : List (Nat × Nat)) : FndR s t i (some x) → AllR s t (nextAt x) l → AllR s t i (x :: l)
theorem nextAt_lt {s : List UInt8} {t : Rx} {i : Nat} {x : Nat × Nat} (h : FndR s t i (some x)) : i < nextAt x ∧ nextAt x ≤ s.length + 1 := by
  obtain ⟨a, b⟩ := x
  have := h.le
  unfold nextAt
  simp only
  split <;> omega
theorem all_total (s : List UInt8) (t : Rx) : ∀ d i, s.length + 1 - i ≤ d → ∃ l, AllR s t i l
  | 0, i, h => ⟨[], .nil i (FndR.out (by omega))⟩
  | d + 1, i, h => by
    obtain ⟨r, hr⟩ := fnd_total s t _ i (Nat.le_refl _)
    cases r with
    | none => exact ⟨[], .nil i hr⟩
    | some x =>
      have h1 := nextAt_lt hr
      obtain ⟨l, hl⟩ := all_total s t d (nextAt x) (by omega)
      exact ⟨x :: l, .cons i x l hr hl⟩
theorem AllR.uniq {s : List UInt8} {t : Rx} {i : Nat} {l : List (Nat × Nat)} (h : AllR s t i l) : ∀ l', AllR s t i l' → l = l' := by
  induction h with
  | nil i h =>
    intro l' h'
    cases h' with
    | nil _ _ => rfl
    | cons _ x r hx _ => cases h.uniq hx
  | cons i x r hx _ ih =>
    intro l' h'
    cases h' with
    | nil _ h0 => cases hx.uniq h0
    | cons _ y r' hy hr =>
      obtain rfl := Option.some.inj (hx.uniq hy)
      rw [ih r' hr]
theorem AllR.len {s : List UInt8} {t : Rx} {i : Nat} {l : List (Nat × Nat)} (h : AllR s t i l) : l.length ≤ s.length + 1 - i := by
  induction h with
  | nil i h => simp
  | cons i x r hx _ ih =>
    have := nextAt_lt hx
    simp
    omega
theorem AllR.mem {s : List UInt8} {t : Rx} {i : Nat} {l : List (Nat × Nat)} (h : AllR s t i l) : ∀ x ∈ l, i ≤ x.1 ∧ x.1 ≤ x.2 ∧ x.2 ≤ s.length := by
  induction h with
  | nil i h => intro x hx; cases hx
  | cons i y r hy _ ih =>
    have hn := nextAt_lt hy
    intro x hx
    rcases List.mem_cons.1 hx with rfl | hx
    · exact hy.le
    · have := ih x hx
      omega
end Go.Proofs.YteeamifjldoihaaDoor
namespace Go.Proofs.YteeamifjldoihaaDoor
set_option linter.unusedSimpArgs false
set_option linter.unusedVariables false
set_option maxRecDepth 100000
open Go.RowKit
/-- As FeedC, without Dead, Len and Again. -/
structure FeedO (X : World → Prop) (Fv : (Nat → Prop) → World → Value → Rx → List UInt8 → Bool → Prop) : Prop where
  lt : ∀ F w u t s d, Fv F w u t s d → ∀ k, F k → k < w.heap.size
  keep : ∀ F G w w' u t s d, Fv F w u t s d → But G w w' → (∀ k, G k → ¬ F k) → Fv F w' u t s d
  new : ∀ (t : Rx) v w, X w → t.Ok → NsIn w v t.flat → (∀ n ∈ t.flat, n.wf) → faultL t.flat = 0 → Calls Tryd.prog 6 #[v] w fun e w' => ∃ u F d, e = .returned (.tuple #[u, .nilIface]) ∧ Fv F w' u t [] d ∧ Below w.heap.size w w' ∧ ∀ k, F k → w.heap.size ≤ k
  put : ∀ F w u t s d (p : ByteArray), X w → Fv F w u t s d → p.size ≤ 140737488355328 → s.length + p.size ≤ 400 → Calls Tryd.prog 8 #[u, .string p] w fun e w' => e = .returned .nilIface ∧ Turns F w w' (fun F' => ∃ d', (d = true → d' = true) ∧ Fv F' w' u t (s ++ p.data.toList) d')
  yes : ∀ F w u t s d (b : Bool), X w → Fv F w u t s d → (b = true ↔ Fit s t 0 s.length) → Calls Tryd.prog 11 #[u] w fun e w' => e = .returned (.bool b) ∧ Turns F w w' (fun F' => Fv F' w' u t s d)
end Go.Proofs.YteeamifjldoihaaDoor
namespace Go.Proofs.YteeamifjldoihaaDoor
set_option linter.unusedSimpArgs false
set_option linter.unusedVariables false
set_option maxRecDepth 100000
open Go.RowKit

theorem nsIn_nil (w : World) : NsIn w (.slice none 0 0) [] := ⟨none, 0, rfl, by simp, Or.inl rfl⟩
theorem nsIn_form {w : World} {v : Value} {ns : List Nd} (h : NsIn w v ns) : ∃ a cap, v = .slice a ns.length cap ∧ ns.length ≤ maxLen := by
  obtain ⟨a, cap, h1, h2, _⟩ := h
  exact ⟨a, cap, h1, h2⟩
theorem nsEq_refl (x : List Nd) : nsEq x x = true := (nsEq_iff x x).2 rfl
end Go.Proofs.YteeamifjldoihaaDoor

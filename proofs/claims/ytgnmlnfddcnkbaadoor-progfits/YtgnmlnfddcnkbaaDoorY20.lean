/- Package sim: Ends and Longest. -/
import Derived.Test.YtgnmlnfddcnkbaaDoorY19
namespace Go.Proofs.YtgnmlnfddcnkbaaDoor
set_option linter.unusedSimpArgs false
set_option linter.unusedVariables false
set_option maxRecDepth 100000
open Go.RowKit Go.Shelf
attribute [local go_sem] Oper.semAt_some
/-- append of one number within a loop over an iterator: the row is the old one or new. -/
theorem wpListIn_append_isr {F : Fence} {n : Nat} {ops : Array Oper} {rest : List Oper} {o : Oper} {a : Act} {Q : Exit → Act → World → Prop} {w : World} (hgd : o.guard = none) (s x : Operand)
    (ho : o.op = .call { callee := .builtin .append, args := #[s, x], argTypes := #[34, 34] })
    (B : Nat) (v : Value) (hs : a.eval s = v) (l : List Nat) (hown : IsOwn w B v l) (g2 c2 y : Nat) (hx : a.eval x = .slice (some ⟨g2, 0, none⟩) 1 c2)
    (hnew : w.cell? ⟨g2, 0, none⟩ = some (.int .i64 (y : Int))) (hlen : l.length ≤ 1000000000) (hbase : B ≤ w.heap.size)
    (h : ∀ g cap w', IsOwn w' B (.slice (some ⟨g, 0, none⟩) (l.length + 1) cap) (l ++ [y]) → w.grownBy w' v.ownBlock → (v.ownBlock = some g ∨ w.heap.size ≤ g) → wpListIn F n Tryd.prog ops Q rest (a.put o.dst (.slice (some ⟨g, 0, none⟩) (l.length + 1) cap)) w') : wpListIn F n Tryd.prog ops Q (o :: rest) a w := by
  have hinfo : (Tryd.prog.info? 3).map (fun i => (i.zero, i.size, i.bytes)) = some (some (.int .i64 0), 1, 8) := by kernel_rfl
  obtain ⟨i0, hi, hz0, hz1, hz2⟩ := info_parts hinfo
  refine wpListIn_plain hgd fun K hK' => ?_
  obtain ⟨g, cap, w', hrun, r1, r2, r3, _⟩ := run_append_lies (P := Tryd.prog) w 34 o.type B 3 i0 _ 1 8 Tryd.underlying34 hi hz0 hz1 hz2 rfl (by decide) v l.length (isCells l) hown ⟨g2, 0, none⟩ 1 c2 (isCells [y]) rfl (by
    intro j u hj
    cases j with
    | zero =>
      simp [isCells] at hj
      subst hj
      rw [Addr.add_lit]
      exact hnew
    | succ j => simp [isCells] at hj) (by simp [isCells, Value.oneCell']) (by omega) (by unfold maxLen; omega) (by omega) hbase _ rfl
  unfold Oper.wpIn
  refine ⟨?_, ?_⟩
  · simp [Oper.about, ho, resolve, Target.leads, Sem.run_pure]
  · rw [Oper.semAt_plain F _ _ (by rw [ho]; intro c hc'; cases hc')]
    simp [execOp, ho, resolve, invoke, builtin, hs, hx, hrun, Result.andThen]
    refine hK' _ _ (h g cap w' ?_ r2 (r3.imp id (fun e => by omega)))
    unfold IsOwn
    simpa [isCells] using r1
theorem run_len {ss : List St} {s : List UInt8} {i : Nat} {l : List Nat} (hs : s.length ≤ 400) (hl : RunR ss s i l) : l.length ≤ 401 := by
  refine nodup_le 401 l (hl.1.imp (fun h => Nat.ne_of_lt h)) fun x hx => ?_
  obtain ⟨q, _, _, rfl⟩ := (hl.2 x).1 hx
  have := Nat.mod_lt q (show 0 < s.length + 1 by omega)
  omega
theorem kp2_obj {bf B : Nat} (hb : bf < B) (W : World) (l : Nat) (o o' : Obj) (hl : B ≤ l) (h : W.heap[l]? = some o) (ho : o.isCells = false) (_ : o.isWalk = false) : Kp2 bf W (W.putObj l o') := by
  refine ⟨KpF.obj noX W l o o' (by omega) h ho, fun hB u k hu hk => ?_⟩
  have e : (W.putObj l o').heap[bf]? = W.heap[bf]? := World.putObj_heap_other (by omega)
  have : W.cell? ⟨bf, 0, none⟩ = some u := by
    unfold World.cell? at hu ⊢
    simp only [e] at hu
    exact hu
  have := hB u k this hk
  simpa using this
theorem own_base {w : World} {B : Nat} {v : Value} {l : List Nat} (h : IsOwn w B v l) (g : Nat) (e : v.ownBlock = some g) : B ≤ g ∧ g < w.heap.size := by
  rcases h.2 with ⟨hv, _⟩ | ⟨b, cap, cur, hv, hb, hh, _⟩
  · rw [hv] at e; cases e
  · rw [hv] at e
    injection e with e
    simp only at e
    subst e
    exact ⟨hb, (Array.getElem?_eq_some_iff.1 hh).1⟩
theorem kp2_append {bf : Nat} {W W1 : World} {o : Obj} {v : Value} {pre : List Nat} {x g cap : Nat} (hv : Boxed W bf 34 v) (hrow : IsOwn W bf v pre) (hgr : (W.alloc o).grownBy W1 v.ownBlock) (hown : IsOwn W1 bf (.slice (some ⟨g, 0, none⟩) (pre.length + 1) cap) (pre ++ [x])) (hg : v.ownBlock = some g ∨ (W.alloc o).heap.size ≤ g) : Kp2 bf W (W1.setCell ⟨bf, 0, none⟩ (.slice (some ⟨g, 0, none⟩) (pre.length + 1) cap)) := by
  have hte : 34 ≠ 3 := by decide
  have hv1 : Boxed (W.alloc o) bf 34 v := hv.alloc o
  have hv2 : Boxed W1 bf 34 v := hv1.kept hgr (hv.not_row hte hrow)
  refine ⟨(KpF.below noX ((Below.refl _ _).alloc (Nat.le_refl _) o) hv.lt).trans (KpF.grow hv1 hgr (fun k e hk => ?_) (fun k e => ?_)), fun _ u k hu hk => ?_⟩
  · exact hv.not_row hte hrow (by rw [e, hk])
  · injection e with e
    simp only at e
    subst e
    exact hg
  · rw [(hv2.set _).cell] at hu
    obtain rfl := Option.some.inj hu
    have := (own_base hown k hk).2
    simpa using this
theorem kp2_set {bf : Nat} {W : World} {t : TypeId} {v : Value} (hv : Boxed W bf t v) (z : Int) : Kp2 bf W (W.setCell ⟨bf, 0, none⟩ (.int .i64 z)) := by
  refine ⟨KpF.box W t v _ hv rfl, fun _ u k hu hk => ?_⟩
  rw [(hv.set _).cell] at hu
  obtain rfl := Option.some.inj hu
  cases hk
/-- The iterator's value, and where it lies. -/
theorem yends_call (v : Value) (s : ByteArray) (i : Int) (w : World) :
    Calls Tryd.prog 26 #[.agg #[v], .string s, .int .i64 i] w fun e w' => e = .returned (.func (.func 51) #[] #[.pointer (some ⟨w.heap.size, 0, none⟩), .pointer (some ⟨w.heap.size + 1, 0, none⟩), .pointer (some ⟨w.heap.size + 1 + 1, 0, none⟩)]) ∧ w' = ((w.alloc (.cells #[v] 66)).alloc (.cells #[.string s] 9)).alloc (.cells #[.int .i64 i] 3) := by
  go_enter Tryd.func26, Tryd.ntmps26
  go_wp2
  go_ret
  exact ⟨rfl, rfl⟩
theorem heap_at5 (w : World) (o0 o1 o2 o3 o4 : Obj) (W : World) (h : W = ((((w.alloc o0).alloc o1).alloc o2).alloc o3).alloc o4) : W.heap[w.heap.size + 1]? = some o1 ∧ W.heap[w.heap.size + 1 + 1]? = some o2 ∧ W.heap[w.heap.size + 1 + 1 + 1]? = some o3 ∧ W.heap[w.heap.size + 1 + 1 + 1 + 1]? = some o4 ∧ Below w.heap.size w W ∧ W.heap.size = w.heap.size + 5 := by
  subst h
  have key : ∀ (W : World) (o : Obj) (k : Nat) (x : Obj), W.heap[k]? = some x → (W.alloc o).heap[k]? = some x := fun W o k x h => (Below.heap_alloc W o k (heap_lt h)).trans h
  have new : ∀ (W : World) (o : Obj) (k : Nat), k = W.heap.size → (W.alloc o).heap[k]? = some o := fun W o k e => e ▸ World.alloc_heap_new W o
  exact ⟨key _ _ _ _ (key _ _ _ _ (key _ _ _ _ (new _ _ _ (by simp)))), key _ _ _ _ (key _ _ _ _ (new _ _ _ (by simp))), key _ _ _ _ (new _ _ _ (by simp)), new _ _ _ (by simp),
    (((((Below.refl _ _).alloc (Nat.le_refl _) _).alloc (by simp) _).alloc (by simp; omega) _).alloc (by simp; omega) _).alloc (by simp; omega) _, by simp⟩
/-- The world in which the loop begins. -/
theorem itY_new (ss : List St) (b off cap : Nat) (s : ByteArray) (i : Nat) (w : World) (hT : Tab w) (x c : Value) (t : TypeId) (hc : c.ownBlock = none) (hlt : b < w.heap.size) (hN : SsAt w b off ss) (W : World) (hW : W = ((((w.alloc (.cells #[x] 66)).alloc (.cells #[c] t)).alloc (.cells #[.slice (some ⟨b, off, none⟩) ss.length cap] 66)).alloc (.cells #[.string s] 9)).alloc (.cells #[.int .i64 (i : Int)] 3)) :
    ItY ss b off cap s i (w.heap.size + 1) (w.heap.size + 1 + 1) (w.heap.size + 1 + 1 + 1) (w.heap.size + 1 + 1 + 1 + 1) W ∧ Boxed W (w.heap.size + 1) t c ∧ Below w.heap.size w W ∧ W.heap.size = w.heap.size + 5 := by
  obtain ⟨h1, h2, h3, h4, hB, hs⟩ := heap_at5 w _ _ _ _ _ W hW
  have hbox : Boxed W (w.heap.size + 1) t c := h1
  have hf : ∀ k, Frm (w.heap.size + 1) noX W k → k = w.heap.size + 1 := fun k hk => by
    obtain ⟨_, h | h | ⟨u, h, h'⟩⟩ := hk
    · exact h.elim
    · exact h
    · rw [hbox.cell] at h
      obtain rfl := Option.some.inj h
      rw [hc] at h'
      cases h'
  have hT0 := tab_lt hT
  refine ⟨⟨hN.below hB hlt, (Lib.cell_of_heap h2 0).trans rfl, (Lib.cell_of_heap h3 0).trans rfl, (Lib.cell_of_heap h4 0).trans rfl, hT.below hB (Nat.le_refl _), by omega, fun h => ?_, fun h => ?_, fun h => ?_, fun h => ?_, fun h => ?_, fun u k hu hk => ?_, by omega⟩, hbox, hB, hs⟩
  · have := hf _ h; omega
  · have := hf _ h; omega
  · have := hf _ h; omega
  · have := hf _ h; omega
  · have := hf _ h; omega
  · rw [hbox.cell] at hu
    obtain rfl := Option.some.inj hu
    rw [hc] at hk
    cases hk
/-- What the loop of Ends keeps. -/
theorem found_own (w1 : World) (bf : Nat) (B : Nat) (hlt : bf < B) (hB : w1.heap.size ≤ B) : OwnN B (Frm bf noX) (fun (pre : List Nat) W => (∃ v, Boxed W bf 34 v ∧ W.ownsRow bf 3 1 v pre.length (isCells pre) ∧ True) ∧ Below w1.heap.size w1 W) := by
  rintro pre X Y row ⟨⟨v, hv, hrow, _⟩, hb⟩ hg hr
  have hne : some bf ≠ row := fun e => by
    have := (hr bf e.symm).1
    omega
  refine ⟨⟨v, hv.kept hg hne, World.ownsRow.kept hrow hg ?_, trivial⟩, hb.grown hg hb.size (fun k e => Nat.le_trans hB (hr k e).1)⟩
  cases hk : v.ownBlock with
  | none => exact Or.inl rfl
  | some k =>
    refine Or.inr fun e => ?_
    obtain ⟨_, o, ho, hc | hc⟩ := hr k e.symm
    · rcases hrow.2 with ⟨h1, _⟩ | ⟨g, cap, cur, h1, _, hh, _⟩
      · rw [h1] at hk; cases hk
      · rw [h1] at hk
        injection hk with hk
        simp only at hk
        subst hk
        rw [hh] at ho
        obtain rfl := Option.some.inj ho
        cases hc
    · exact hc ⟨heap_lt ho, Or.inr (Or.inr ⟨v, hv.cell, hk⟩)⟩
theorem box_ownN (w1 : World) (bf : Nat) (t : TypeId) (f : List Nat → Value) (B : Nat) (hlt : bf < B) (hB : w1.heap.size ≤ B) : OwnN B (Frm bf noX) (fun (pre : List Nat) W => Boxed W bf t (f pre) ∧ Below w1.heap.size w1 W) := by
  rintro pre X Y row ⟨hv, hb⟩ hg hr
  exact ⟨hv.kept hg (fun e => by
    have := (hr bf e.symm).1
    omega), hb.grown hg hb.size (fun k e => Nat.le_trans hB (hr k e).1)⟩
set_option maxHeartbeats 8000000 in
theorem sends_at (ss : List St) (hf : stepsF ss = 0) (hok : SsOk ss) (v : Value) (s : ByteArray) (hs : s.size ≤ 400) (i : Nat) (hi : i ≤ s.size) (l : List Nat) (hl : RunR ss s.data.toList i l) (w : World) (hT : Tab w) (hS : SsIn w v ss) :
    CallsIn Fence.wide 5 Tryd.prog 9 #[v, .string s, .int .i64 (i : Int)] w fun e w' => ∃ u, e = .returned (.tuple #[u, .nilIface]) ∧ Below w.heap.size w w' ∧ IsIn w' u l := by
  have h200 := (stepsF_zero hf).1
  have HC := hid (checked_ok ss v s (i : Int) w hf hS (by unfold maxLen; omega))
  have hpl : plE s.size (i : Int) = 0 := by unfold plE; rw [if_neg (by omega), if_pos ⟨by omega, by omega⟩]
  rw [hpl, show errV 0 = .nilIface from rfl] at HC
  obtain ⟨va, vc, rfl, hm⟩ := ssIn_form hS
  clear hpl
  refine callsIn_of_wp_marks Tryd.func9 rfl trivial ?_ rfl
  simp only [Tryd.ntmps9, List.size_toArray, List.length_cons, List.length_nil, Nat.reduceAdd, Nat.reduceSub, Array.replicate_succ, Array.replicate_zero, List.push_toArray, List.append_toArray, List.nil_append, List.cons_append]
  gi_wp2_with fail
  refine ⟨trivial, (callsIn_wide.2 HC.out).mono ?_⟩
  rintro e w1 ⟨g, c, rfl, hb1, hN1, hg1, hgl1⟩
  have HE := hid (yends_call (.slice (some ⟨g, 0, none⟩) ss.length c) s (i : Int) ((w1.alloc (.cells #[.slice (some ⟨g, 0, none⟩) ss.length c] 66)).alloc (.cells #[.slice none 0 0] 34)))
  gi_wp2_with fail
  refine ⟨trivial, (callsIn_wide.2 HE.out).mono ?_⟩
  rintro e w3 ⟨rfl, hw3⟩
  obtain ⟨hM, hbx, hB3, hsz⟩ := itY_new ss g 0 c s i w1 (hT.below hb1 (Nat.le_refl _)) (.slice (some ⟨g, 0, none⟩) ss.length c) (.slice none 0 0) 34 rfl hgl1 hN1 w3 hw3
  clear HC HE hw3
  gi_wp2_with fail
  refine wpIn_seqN rfl (by omega) 51 #[.pointer (some ⟨w1.heap.size + 1 + 1, 0, none⟩), .pointer (some ⟨w1.heap.size + 1 + 1 + 1, 0, none⟩), .pointer (some ⟨w1.heap.size + 1 + 1 + 1 + 1, 0, none⟩)] (by first | rfl | simp [go_sem]) trivial enters_yiter (fun x : Nat => Value.int .i64 (x : Int)) (Kp2 (w1.heap.size + 1)) Kp2.trans (fun W l o o' h1 h2 h3 h4 => kp2_obj (B := w3.heap.size) (by omega) W l o o' h1 h2 h3 h4) (Frm (w1.heap.size + 1) noX) l w3 (yiter_any (5 - 1) (by omega) ss hf hok g 0 c s hs i hi l hl _ _ _ _ w3 hM) (Below.refl _ _) rfl
    (fun pre W => (∃ v, Boxed W (w1.heap.size + 1) 34 v ∧ W.ownsRow (w1.heap.size + 1) 3 1 v pre.length (isCells pre) ∧ True) ∧ Below w1.heap.size w1 W)
    (found_own w1 (w1.heap.size + 1) _ (by omega) (by omega)) ⟨⟨_, hbx, World.ownsRow_nil _ _ _ _, trivial⟩, hB3⟩
    (fun x => { tmps := #[.slice va ss.length vc, .string s, .int .i64 (i : Int), undef, undef, undef, .slice none 0 0, .nilIface, .pointer (some ⟨w1.heap.size, 0, none⟩), .nilIface, .pointer (some ⟨w1.heap.size + 1, 0, none⟩), .int .i64 (x : Int), .tuple #[wyV g 0 ss.length c, .nilIface], .slice va ss.length vc, .string s, .int .i64 (i : Int), .tuple #[wyV g 0 ss.length c, .nilIface], wyV g 0 ss.length c, .nilIface, .nilIface, .bool false, undef, .agg #[.slice (some ⟨g, 0, none⟩) ss.length c], .string s, .int .i64 (i : Int), .func (.func 51) #[] #[.pointer (some ⟨w1.heap.size + 1 + 1, 0, none⟩), .pointer (some ⟨w1.heap.size + 1 + 1 + 1, 0, none⟩), .pointer (some ⟨w1.heap.size + 1 + 1 + 1 + 1, 0, none⟩)], .int .i64 (x : Int), undef, undef, undef, undef, undef], defers := [] }) ?assign ?body ?done
  case assign =>
    intro lp x W K hK
    gi_wp2
    exact hK
  case body =>
    rintro lp pre x rest W hx ⟨⟨v, hv, hrow, _⟩, hB⟩
    have hc := hv.cell
    have hll : l.length ≤ 401 := run_len (by simpa using hs) hl
    have hpl : pre.length ≤ 401 := by
      have := congrArg List.length hx
      simp at this
      omega
    obtain ⟨va2, vc2, rfl⟩ := IsOwn.form (l := pre) hrow
    clear hx
    gi_wp2_with (gi_at_builtin; refine wpListIn_append_isr rfl _ _ rfl (w1.heap.size + 1) _ rfl pre (IsOwn.kept hrow ((Below.refl _ _).alloc (Nat.le_refl _) _)) W.heap.size 1 x rfl (by rw [World.cell?_alloc_at (w := W) _ _ W.heap.size 0 rfl]; rfl) (by omega) (by have := heap_lt hv; simp; omega) ?_; intro g2 cap2 W1 hown hgr hgn; obtain ⟨hv1, hv2, hr2, hk2, hb2⟩ := hv.appended (by decide) hrow (by have := heap_lt hv; omega) (Nat.le_refl _) hown hgr; have hc1 := hv1.cell; have hf1 := hv1.frozen)
    exact ⟨hk2.from _, kp2_append hv hrow hgr hown hgn, ⟨_, hv2, by simpa [isCells] using hr2, trivial⟩, hB.trans (hb2.mono (by omega))⟩
  case done =>
    rintro D W hD ⟨⟨v, hv, hrow, _⟩, hB⟩ hK
    have hc := hv.cell
    obtain ⟨va2, vc2, rfl⟩ := IsOwn.form (l := l) hrow
    gi_wp2
    refine ⟨by simp, .inl ⟨_, _, rfl, run_takeDeferred hK, ?_⟩⟩
    exact ⟨_, results_tmp2 rfl _ _ _, _, rfl, hb1.trans ((hB.trans (belowK_b (w := w1) (Nat.le_refl _) W D _ _ (by omega) hK rfl rfl)).mono hb1.size), IsOwn.isIn (l := l) (ownsRow_putObj hrow _ hK rfl) (by have := run_len (by simpa using hs) hl; unfold maxLen; omega)⟩
set_option maxHeartbeats 8000000 in
theorem slong_at (ss : List St) (hf : stepsF ss = 0) (hok : SsOk ss) (v : Value) (s : ByteArray) (hs : s.size ≤ 400) (i : Nat) (hi : i ≤ s.size) (l : List Nat) (hl : RunR ss s.data.toList i l) (w : World) (hT : Tab w) (hS : SsIn w v ss) :
    CallsIn Fence.wide 5 Tryd.prog 13 #[v, .string s, .int .i64 (i : Int)] w fun e w' => e = .returned (.tuple #[.int .i64 (lastI l), .nilIface]) ∧ Below w.heap.size w w' := by
  have h200 := (stepsF_zero hf).1
  have HC := hid (checked_ok ss v s (i : Int) w hf hS (by unfold maxLen; omega))
  have hpl : plE s.size (i : Int) = 0 := by unfold plE; rw [if_neg (by omega), if_pos ⟨by omega, by omega⟩]
  rw [hpl, show errV 0 = .nilIface from rfl] at HC
  obtain ⟨va, vc, rfl, hm⟩ := ssIn_form hS
  clear hpl
  refine callsIn_of_wp_marks Tryd.func13 rfl trivial ?_ rfl
  simp only [Tryd.ntmps13, List.size_toArray, List.length_cons, List.length_nil, Nat.reduceAdd, Nat.reduceSub, Array.replicate_succ, Array.replicate_zero, List.push_toArray, List.append_toArray, List.nil_append, List.cons_append]
  gi_wp2_with fail
  refine ⟨trivial, (callsIn_wide.2 HC.out).mono ?_⟩
  rintro e w1 ⟨g, c, rfl, hb1, hN1, hg1, hgl1⟩
  have HE := hid (yends_call (.slice (some ⟨g, 0, none⟩) ss.length c) s (i : Int) ((w1.alloc (.cells #[.slice (some ⟨g, 0, none⟩) ss.length c] 66)).alloc (.cells #[.int .i64 (-1)] 3)))
  gi_wp2_with fail
  refine ⟨trivial, (callsIn_wide.2 HE.out).mono ?_⟩
  rintro e w3 ⟨rfl, hw3⟩
  obtain ⟨hM, hbx, hB3, hsz⟩ := itY_new ss g 0 c s i w1 (hT.below hb1 (Nat.le_refl _)) (.slice (some ⟨g, 0, none⟩) ss.length c) (.int .i64 (-1)) 3 rfl hgl1 hN1 w3 hw3
  clear HC HE hw3
  gi_wp2_with fail
  refine wpIn_seqN rfl (by omega) 51 #[.pointer (some ⟨w1.heap.size + 1 + 1, 0, none⟩), .pointer (some ⟨w1.heap.size + 1 + 1 + 1, 0, none⟩), .pointer (some ⟨w1.heap.size + 1 + 1 + 1 + 1, 0, none⟩)] (by first | rfl | simp [go_sem]) trivial enters_yiter (fun x : Nat => Value.int .i64 (x : Int)) (Kp2 (w1.heap.size + 1)) Kp2.trans (fun W l o o' h1 h2 h3 h4 => kp2_obj (B := w3.heap.size) (by omega) W l o o' h1 h2 h3 h4) (Frm (w1.heap.size + 1) noX) l w3 (yiter_any (5 - 1) (by omega) ss hf hok g 0 c s hs i hi l hl _ _ _ _ w3 hM) (Below.refl _ _) rfl
    (fun pre W => Boxed W (w1.heap.size + 1) 3 (.int .i64 (lastI pre)) ∧ Below w1.heap.size w1 W)
    (box_ownN w1 (w1.heap.size + 1) 3 (fun pre => .int .i64 (lastI pre)) _ (by omega) (by omega)) ⟨hbx, hB3⟩
    (fun x => { tmps := #[.slice va ss.length vc, .string s, .int .i64 (i : Int), undef, undef, undef, .int .i64 0, .nilIface, .pointer (some ⟨w1.heap.size, 0, none⟩), .nilIface, .pointer (some ⟨w1.heap.size + 1, 0, none⟩), .int .i64 (x : Int), .tuple #[wyV g 0 ss.length c, .nilIface], .slice va ss.length vc, .string s, .int .i64 (i : Int), .tuple #[wyV g 0 ss.length c, .nilIface], wyV g 0 ss.length c, .nilIface, .nilIface, .bool false, undef, .agg #[.slice (some ⟨g, 0, none⟩) ss.length c], .string s, .int .i64 (i : Int), .func (.func 51) #[] #[.pointer (some ⟨w1.heap.size + 1 + 1, 0, none⟩), .pointer (some ⟨w1.heap.size + 1 + 1 + 1, 0, none⟩), .pointer (some ⟨w1.heap.size + 1 + 1 + 1 + 1, 0, none⟩)], .int .i64 (x : Int), undef, undef], defers := [] }) ?assign ?body ?done
  case assign =>
    intro lp x W K hK
    gi_wp2
    exact hK
  case body =>
    rintro lp pre x rest W hx ⟨hv, hB⟩
    have hc := hv.cell
    have hz := hv.frozen
    have HV := hid hv
    have HB := hid hB
    clear hv hB hx
    gi_wp2
    exact ⟨(KeepsOthers.setCell _ _ _).from _, kp2_set HV.out _, by rw [lastI_snoc]; exact HV.out.set _, HB.out.setCell (p := ⟨w1.heap.size + 1, 0, none⟩) (by simp only; omega) _⟩
  case done =>
    rintro D W hD ⟨hv, hB⟩ hK
    have hc := hv.cell
    gi_wp2
    refine ⟨by simp, .inl ⟨_, _, rfl, run_takeDeferred hK, ?_⟩⟩
    exact ⟨_, results_tmp2 rfl _ _ _, rfl, hb1.trans ((hB.trans (belowK_b (w := w1) (Nat.le_refl _) W D _ _ (by omega) hK rfl rfl)).mono hb1.size)⟩
theorem simC : SimC Tab where
  bad := fun ss v s i w hS _ hs hne => by
    refine (sends_bad ss v s i w hS hs hne).mono ?_
    rintro e w' ⟨rfl, hb⟩
    exact ⟨_, rfl, hb, isIn_nil _⟩
  ends := fun ss v s i l w hT hS hw hz hl => by
    obtain ⟨hf, hs, _, hi⟩ := (simE_zero ss s.size i).1 hz
    exact callsIn_wide.1 (sends_at ss hf (fun n hn => C4.wf_ok (hw n hn).2.1) v s hs i (by omega) l hl w hT hS)
theorem simL : SimL Tab where
  bad := fun ss v s i w hS _ hs hne => slong_bad ss v s i w hS hs hne
  long := fun ss v s i l w hT hS hw hz hl => by
    obtain ⟨hf, hs, _, hi⟩ := (simE_zero ss s.size i).1 hz
    exact callsIn_wide.1 (slong_at ss hf (fun n hn => C4.wf_ok (hw n hn).2.1) v s hs i (by omega) l hl w hT hS)
end Go.Proofs.YtgnmlnfddcnkbaaDoor

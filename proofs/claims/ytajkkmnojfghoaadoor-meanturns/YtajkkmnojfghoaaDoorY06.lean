/- Package rex: mayBeNothing, Empty. append, of nodes. Package rex: turnedNode, appendTurned, Turn. Package rex: Turn; what is asked of Empty and Turn. What each call of package class does, function by function, over the loaded program: first part: bits, join, Both, Either, Not, Has, with, Of, Many. -/
import Derived.Test.YtajkkmnojfghoaaDoorY05
import Derived.Test.YtajkkmnojfghoaaDoorY02
import Derived.OwnWalk
import Derived.KernelRfl
import Derived.Test.YtajkkmnojfghoaaDoorY04
import Derived.Test.YtajkkmnojfghoaaDoorY01
namespace Go.Proofs.YtajkkmnojfghoaaDoor
set_option linter.unusedSimpArgs false
set_option linter.unusedVariables false
set_option maxRecDepth 100000
open Go.RowKit

/-- The place behind a part that is whole. -/
theorem behind_k (ns : List Nd) (b off cap : Nat) (hm : ns.length ≤ 60) (w : World) (hN : NsAt w b off ns) (i f k : Nat) (h : endF ns f i = some k) :
    Calls Tryd.prog 54 #[.slice (some ⟨b, off, none⟩) ns.length cap, .int .i64 i] w fun e w' => e = .returned (.tuple #[.int .i64 k, .bool true]) ∧ w' = w := by
  have g := endF_gt ns f i k h
  have h1 := behind_at ns b off cap i (by unfold maxLen; omega) (by omega) (by omega) w hN
  obtain ⟨e1, e2⟩ := end_beh ns f i k h
  rw [e1, e2] at h1
  exact h1
set_option maxHeartbeats 4000000 in
theorem mayBe_at (ns : List Nd) (hr : ∀ n ∈ ns, 1 ≤ n.op ∧ n.op ≤ 9) (b off cap : Nat) (hm : ns.length ≤ 60) (w : World) (hN : NsAt w b off ns) : ∀ (f i j : Nat), f ≤ ns.length + 1 → endF ns f i = some j →
    Calls Tryd.prog 56 #[.slice (some ⟨b, off, none⟩) ns.length cap, .int .i64 i] w fun e w' => e = .returned (.bool (empF ns f i)) ∧ w' = w := by
  have HB : Hid _ := behind_k ns b off cap hm w hN
  intro f
  induction f with
  | zero => intro i j _ h; simp [endF] at h
  | succ f ih =>
    intro i j hf h
    have IH := (show Hid _ from ih)
    clear ih
    obtain ⟨n, hn, hil, hc⟩ := part_cases ns f i j h
    have hop := hr n (List.mem_of_getElem? hn)
    have HC := (show Hid _ from hc)
    have HE : Hid _ := empF_at ns f i n hn
    obtain ⟨c0, _⟩ := hN i n hn
    have i0 : (0 : Int) ≤ (i : Int) := by omega
    have i1 : (i : Int) < (ns.length : Int) := by omega
    have hs := arg_succ i
    have HS := (show Hid _ from hs)
    clear hc hn h hs
    obtain ⟨op, c⟩ := n
    simp only at *
    have h9 : op = 1 ∨ op = 2 ∨ op = 3 ∨ op = 4 ∨ op = 5 ∨ op = 6 ∨ op = 7 ∨ op = 8 ∨ op = 9 := by omega
    clear hop
    rcases h9 with rfl | rfl | rfl | rfl | rfl | rfl | rfl | rfl | rfl
    · go_enter Tryd.func56, Tryd.ntmps56
      go_wp2
      go_ret
      exact ⟨by rw [HE.out]; rfl, rfl⟩
    · go_enter Tryd.func56, Tryd.ntmps56
      go_wp2
      go_ret
      exact ⟨by rw [HE.out]; rfl, rfl⟩
    · obtain ⟨k, hk1, hk2⟩ : ∃ k, endF ns f (i + 1) = some k ∧ endF ns f k = some j := by
        rcases HC.out with ⟨h0, _⟩ | ⟨h0, _⟩ | ⟨_, h0⟩
        · simp [prt] at h0
        · simp [prt] at h0
        · exact h0
      have HX : Hid (empF ns (f + 1) i = (empF ns f (i + 1) && empF ns f k)) := by
        show _ = _
        rw [HE.out, endE_of ns f (i + 1) k (by omega) hk1]; rfl
      have c1 := IH.out (i + 1) k (by omega) hk1
      have c2 := HB.out (i + 1) f k hk1
      have c3 := IH.out k j (by omega) hk2
      rw [HS.out] at c1 c2
      have C1 := (show Hid _ from c1)
      have C2 := (show Hid _ from c2)
      have C3 := (show Hid _ from c3)
      clear c1 c2 c3 hk1 hk2 HC HE HB IH HS
      generalize empF ns f (i + 1) = x at *
      generalize empF ns f k = y at *
      cases x
      · go_enter Tryd.func56, Tryd.ntmps56
        go_wp2_with fail
        refine Calls.mono C2.out ?_
        rintro e w1 ⟨rfl, rfl⟩
        go_wp2_with fail
        refine Calls.mono C1.out ?_
        rintro e w1 ⟨rfl, rfl⟩
        go_wp2
        go_ret
        exact ⟨by rw [HX.out]; rfl, rfl⟩
      · go_enter Tryd.func56, Tryd.ntmps56
        go_wp2_with fail
        refine Calls.mono C2.out ?_
        rintro e w1 ⟨rfl, rfl⟩
        go_wp2_with fail
        refine Calls.mono C1.out ?_
        rintro e w1 ⟨rfl, rfl⟩
        go_wp2_with fail
        refine Calls.mono C3.out ?_
        rintro e w1 ⟨rfl, rfl⟩
        go_wp2
        go_ret
        exact ⟨by rw [HX.out]; rfl, rfl⟩
    · obtain ⟨k, hk1, hk2⟩ : ∃ k, endF ns f (i + 1) = some k ∧ endF ns f k = some j := by
        rcases HC.out with ⟨h0, _⟩ | ⟨h0, _⟩ | ⟨_, h0⟩
        · simp [prt] at h0
        · simp [prt] at h0
        · exact h0
      have HX : Hid (empF ns (f + 1) i = (empF ns f (i + 1) || empF ns f k)) := by
        show _ = _
        rw [HE.out, endE_of ns f (i + 1) k (by omega) hk1]; rfl
      have c1 := IH.out (i + 1) k (by omega) hk1
      have c2 := HB.out (i + 1) f k hk1
      have c3 := IH.out k j (by omega) hk2
      rw [HS.out] at c1 c2
      have C1 := (show Hid _ from c1)
      have C2 := (show Hid _ from c2)
      have C3 := (show Hid _ from c3)
      clear c1 c2 c3 hk1 hk2 HC HE HB IH HS
      generalize empF ns f (i + 1) = x at *
      generalize empF ns f k = y at *
      cases x
      · go_enter Tryd.func56, Tryd.ntmps56
        go_wp2_with fail
        refine Calls.mono C2.out ?_
        rintro e w1 ⟨rfl, rfl⟩
        go_wp2_with fail
        refine Calls.mono C1.out ?_
        rintro e w1 ⟨rfl, rfl⟩
        go_wp2_with fail
        refine Calls.mono C3.out ?_
        rintro e w1 ⟨rfl, rfl⟩
        go_wp2
        go_ret
        exact ⟨by rw [HX.out]; rfl, rfl⟩
      · go_enter Tryd.func56, Tryd.ntmps56
        go_wp2_with fail
        refine Calls.mono C2.out ?_
        rintro e w1 ⟨rfl, rfl⟩
        go_wp2_with fail
        refine Calls.mono C1.out ?_
        rintro e w1 ⟨rfl, rfl⟩
        go_wp2
        go_ret
        exact ⟨by rw [HX.out]; rfl, rfl⟩
    · go_enter Tryd.func56, Tryd.ntmps56
      go_wp2
      go_ret
      exact ⟨by rw [HE.out]; rfl, rfl⟩
    · have hk1 : endF ns f (i + 1) = some j := by
        rcases HC.out with ⟨h0, _⟩ | ⟨_, h0⟩ | ⟨h0, _⟩
        · simp [prt] at h0
        · exact h0
        · simp [prt] at h0
      have HX : Hid (empF ns (f + 1) i = empF ns f (i + 1)) := by
        show _ = _
        rw [HE.out]; rfl
      have c1 := IH.out (i + 1) j (by omega) hk1
      rw [HS.out] at c1
      have C1 := (show Hid _ from c1)
      clear c1 hk1 HC HE HB IH HS
      go_enter Tryd.func56, Tryd.ntmps56
      go_wp2_with fail
      refine Calls.mono C1.out ?_
      rintro e w1 ⟨rfl, rfl⟩
      go_wp2
      go_ret
      exact ⟨by rw [HX.out]; rfl, rfl⟩
    · go_enter Tryd.func56, Tryd.ntmps56
      go_wp2
      go_ret
      exact ⟨by rw [HE.out]; rfl, rfl⟩
    · go_enter Tryd.func56, Tryd.ntmps56
      go_wp2
      go_ret
      exact ⟨by rw [HE.out]; rfl, rfl⟩
    · go_enter Tryd.func56, Tryd.ntmps56
      go_wp2
      go_ret
      exact ⟨by rw [HE.out]; rfl, rfl⟩
set_option maxHeartbeats 4000000 in
theorem rempty_any (ns : List Nd) (v : Value) (w : World) (hN : NsIn w v ns) :
    Calls Tryd.prog 29 #[v] w fun e w' => e = .returned (.tuple #[.bool (decide (faultL ns = 0) && empE ns), errV (faultL ns)]) ∧ Below w.heap.size w w' := by
  have CC : Hid _ := rcheck_any ns v w hN
  by_cases hf : faultL ns = 0
  · obtain ⟨hl, hr, hv⟩ := (faultL_zero ns).1 hf
    obtain ⟨a, cap, rfl, hm, h | ⟨b, off, rfl, hlt, hn⟩⟩ := hN
    · subst h; rw [endE_nil] at hv; cases hv
    have C2 : Hid (∀ w', Below w.heap.size w w' → Calls Tryd.prog 56 #[.slice (some ⟨b, off, none⟩) ns.length cap, .int .i64 0] w' fun e w'' => e = .returned (.bool (empE ns)) ∧ w'' = w') := fun w' hb =>
      mayBe_at ns (fun n hn => (hr n hn).1) b off cap hl w' (hn.below hb hlt) (ns.length + 1) 0 ns.length (Nat.le_refl _) hv
    rw [hf] at CC ⊢
    rw [decide_eq_true rfl, Bool.true_and]
    rw [show errV 0 = .nilIface from rfl] at CC ⊢
    clear hl hr hv hn hf
    generalize empE ns = em at *
    go_enter Tryd.func29, Tryd.ntmps29
    go_wp2_with fail
    refine Calls.mono CC.out ?_
    rintro e w1 ⟨rfl, hb⟩
    have B1 : Hid _ := hb
    clear hb
    go_wp2_with fail
    refine Calls.mono (C2.out _ B1.out) ?_
    rintro e w1 ⟨rfl, rfl⟩
    go_wp2
    go_ret2
    exact ⟨rfl, B1.out⟩
  · obtain ⟨a, cap, rfl, hm, _⟩ := hN
    rw [decide_eq_false hf, Bool.false_and]
    rw [show errV (faultL ns) = .iface 25 (.int .i64 (faultL ns)) from if_neg hf] at CC ⊢
    clear hf
    generalize faultL ns = ft at *
    go_enter Tryd.func29, Tryd.ntmps29
    go_wp2_with fail
    refine Calls.mono CC.out ?_
    rintro e w1 ⟨rfl, hb⟩
    have B1 : Hid _ := hb
    clear hb
    go_wp2
    go_ret2
    exact ⟨rfl, B1.out⟩
end Go.Proofs.YtajkkmnojfghoaaDoor
namespace Go.Proofs.YtajkkmnojfghoaaDoor
set_option linter.unusedSimpArgs false
set_option linter.unusedVariables false
set_option maxRecDepth 100000
open Go.RowKit

theorem grown_cells {w4 w5 : World} {r : Nat} {xs : List Value} (h : w4.grownBy w5 (some r)) {g : Nat} (hg : g < w4.heap.size) (hne : g ≠ r) (hc : ∀ (j : Nat) u, xs[j]? = some u → w4.cell? ⟨g, j, none⟩ = some u) : ∀ (j : Nat) u, xs[j]? = some u → w5.cell? ⟨g, j, none⟩ = some u := by
  intro j u hj
  rw [World.cell?_of_block (a := ⟨g, j, none⟩) (h.block g hg (by intro e; injection e with e; exact hne e))]
  exact hc j u hj
/-- append, of nodes of the call's own to nodes of the call's own. -/
theorem wpList_append_ns {ops : Array Oper} {rest : List Oper} {o : Oper} {a : Act} {Q : Exit → Act → World → Prop} {w : World} (hgd : o.guard = none) (s x : Operand)
    (ho : o.op = .call { callee := .builtin .append, args := #[s, x], argTypes := #[40, 40] })
    (B : Nat) (v : Value) (hs : a.eval s = v) (ns : List Nd) (hown : NsOwn w B v ns) (g2 m2 c2 : Nat) (ms : List Nd) (hx : a.eval x = .slice (some ⟨g2, 0, none⟩) m2 c2) (hm2 : m2 = ms.length)
    (hnews : ∀ j u, (nsCells ms)[j]? = some u → w.cell? ⟨g2, j, none⟩ = some u) (hm : 0 < ms.length) (hbytes : (ns.length + ms.length) * 40 ≤ 140737488355328) (hbase : B ≤ w.heap.size)
    (h : ∀ g cap w', NsOwn w' B (.slice (some ⟨g, 0, none⟩) (ns.length + ms.length) cap) (ns ++ ms) → w.grownBy w' v.ownBlock → B ≤ g → g < w'.heap.size → wpList Tryd.prog ops Q rest (a.put o.dst (.slice (some ⟨g, 0, none⟩) (ns.length + ms.length) cap)) w') : wpList Tryd.prog ops Q (o :: rest) a w := by
  subst hm2
  have hinfo : (Tryd.prog.info? 56).map (fun i => (i.zero, i.size, i.bytes)) = some (some (.agg #[.int .i64 0, .int .u64 0, .int .u64 0, .int .u64 0, .int .u64 0]), 5, 40) := by kernel_rfl
  obtain ⟨i0, hi, hz0, hz1, hz2⟩ := info_parts hinfo
  refine wpList_append_lies w hgd s x 40 ho B 56 i0 _ 5 40 Tryd.underlying40 hi hz0 hz1 hz2 rfl (by decide) v ns.length (nsCells ns) hs hown ⟨g2, 0, none⟩ ms.length c2 (nsCells ms) hx (nsCells_len ms) ?_ (nsCells_one ms) hm (by unfold maxLen; omega) hbytes hbase w.heap.size rfl ?_
  · intro j u hj
    have e : (⟨g2, 0, none⟩ : Addr).add j = ⟨g2, j, none⟩ := by
      rcases j with _ | j <;> simp [Addr.add]
    rw [e]
    exact hnews j u hj
  · intro g cap w' h1 h2 h3 h4
    have e : NsOwn w' B (.slice (some ⟨g, 0, none⟩) (ns.length + ms.length) cap) (ns ++ ms) := by
      unfold NsOwn
      rw [nsCells_append, List.length_append]
      exact h1
    have hg : B ≤ g := by
      rcases h3 with h3 | h3
      · rcases hown.2 with ⟨hv, _⟩ | ⟨g', cap', cur, hv, hb, _⟩
        · rw [hv] at h3; cases h3
        · rw [hv] at h3
          injection h3 with h3
          simp at h3
          omega
      · omega
    exact h g cap w' e h2 hg h4
theorem NsOwn.keptG {w w' : World} {B g : Nat} {v : Value} {ns : List Nd} (h : NsOwn w B v ns) (hg : w.grownBy w' (some g)) (hlt : g < B) : NsOwn w' B v ns := by
  refine World.ownsRow.kept h hg ?_
  rcases h.2 with ⟨hv, _⟩ | ⟨b, cap, cur, hv, hb, _⟩
  · rw [hv]; exact Or.inl rfl
  · rw [hv]
    refine Or.inr ?_
    intro e
    injection e with e
    simp only at e
    omega
end Go.Proofs.YtajkkmnojfghoaaDoor
namespace Go.Proofs.YtajkkmnojfghoaaDoor
set_option linter.unusedSimpArgs false
set_option linter.unusedVariables false
set_option maxRecDepth 100000
open Go.RowKit

set_option maxHeartbeats 1000000 in
theorem turnedNode_any (n : Nd) (w : World) :
    Calls Tryd.prog 75 #[n.v] w fun e w' => e = .returned n.flip.v ∧ Below w.heap.size w w' := by
  obtain ⟨op, c⟩ := n
  by_cases h8 : op = 8
  · subst h8
    go_enter Tryd.func75, Tryd.ntmps75
    go_wp2
    refine bodyPost_ret (v := (Nd.flip ⟨8, c⟩).v) (by simp [results, Tryd.results75, go_sem, Nd.flip, flipOp]) rfl ⟨rfl, ?_⟩
    exact ((Below.refl _ _).alloc (Nat.le_refl _) _).alloc (by simp) _
  by_cases h9 : op = 9
  · subst h9
    go_enter Tryd.func75, Tryd.ntmps75
    go_wp2
    refine bodyPost_ret (v := (Nd.flip ⟨9, c⟩).v) (by simp [results, Tryd.results75, go_sem, Nd.flip, flipOp]) rfl ⟨rfl, ?_⟩
    exact ((Below.refl _ _).alloc (Nat.le_refl _) _).alloc (by simp) _
  have p8 : (op == 8) = false := by simp [h8]
  have p9 : (op == 9) = false := by simp [h9]
  have HF : Hid (Nd.flip ⟨op, c⟩ = ⟨op, c⟩) := by show _ = _; simp [Nd.flip, flipOp, h8, h9]
  rw [HF.out]
  clear h8 h9
  go_enter Tryd.func75, Tryd.ntmps75
  go_wp2
  refine bodyPost_ret (v := (Nd.mk op c).v) (by simp [results, Tryd.results75, go_sem]) rfl ⟨rfl, ?_⟩
  exact ((Below.refl _ _).alloc (Nat.le_refl _) _).alloc (by simp) _
def ndObj (op : Int) (c : C4) : Obj := .cells #[.int .i64 op, .int .u64 c.a, .int .u64 c.b, .int .u64 c.c, .int .u64 c.d] 56 (0, 0)
/-- The world ahead of the append. -/
structure AppSet (B : Nat) (w : World) (v : Value) (ms : List Nd) (n : Nd) (w2 : World) (g : Nat) : Prop where
  b : Below B w w2
  s : B ≤ w2.heap.size
  o : NsOwn w2 B v ms
  c : ∀ j u, (nsCells [n.flip])[j]? = some u → w2.cell? ⟨g, j, none⟩ = some u
  own : ∀ k, v.ownBlock = some k → B ≤ k
theorem app_set {B : Nat} {w w1 : World} {v : Value} {ms : List Nd} {n : Nd} (hB : B ≤ w.heap.size) (hO : NsOwn w B v ms) (h1 : Below w.heap.size w w1) : AppSet B w v ms n (w1.alloc (ndObj n.flip.op n.flip.c)) w1.heap.size := by
  have hs := h1.size
  have b2 : Below w.heap.size w (w1.alloc (ndObj n.flip.op n.flip.c)) := h1.alloc hs _
  have e : (w1.alloc (ndObj n.flip.op n.flip.c)).heap[w1.heap.size]? = some (ndObj n.flip.op n.flip.c) := by show (w1.heap.push _)[w1.heap.size]? = _; simp
  refine ⟨b2.mono hB, ?_, hO.below b2, ?_, ?_⟩
  · have := b2.size; omega
  · intro j u hj
    rw [Lib.cell_of_heap e]
    simp only [nsCells, List.append_nil] at hj
    simpa using hj
  · intro k hk
    rcases hO.2 with ⟨hv, _⟩ | ⟨g, cap, cur, hv, hg, _⟩
    · rw [hv] at hk; cases hk
    · rw [hv] at hk
      injection hk with hk
      simp only at hk
      omega
/-- The contract of a call at i: what is turned stands behind what was there. -/
def AppOk (ns : List Nd) (b off cap i : Nat) (t : List Nd) : Prop := ∀ (B : Nat) (w : World) (v : Value) (ms : List Nd), b < B → B ≤ w.heap.size → NsAt w b off ns → NsOwn w B v ms → ms.length + t.length ≤ 60 →
  Calls Tryd.prog 57 #[v, .slice (some ⟨b, off, none⟩) ns.length cap, .int .i64 i] w fun e w' => ∃ u, e = .returned u ∧ Below B w w' ∧ NsOwn w' B u (ms ++ t)
set_option maxHeartbeats 4000000 in
theorem app_leaf (ns : List Nd) (b off cap : Nat) (hm : ns.length ≤ 60) (i : Nat) (n : Nd) (hn : ns[i]? = some n) (h0 : prt n.op = 0) : AppOk ns b off cap i [n.flip] := by
  intro B w v ms hb hB hN hO h60
  have hil : i < ns.length := by
    rcases Nat.lt_or_ge i ns.length with h' | h'
    · exact h'
    · rw [List.getElem?_eq_none h'] at hn; cases hn
  obtain ⟨c0, c1, c2, c3, c4⟩ := hN i n hn
  have i0 : (0 : Int) ≤ (i : Int) := by omega
  have i1 : (i : Int) < (ns.length : Int) := by omega
  have CT : Hid _ := turnedNode_any n
  have A1 : Hid (∀ w1, Below w.heap.size w w1 → AppSet B w v ms n (w1.alloc (ndObj n.flip.op n.flip.c)) w1.heap.size) := fun w1 h1 => app_set hB hO h1
  have A2 : Hid (∀ w3, Below B w w3 → NsAt w3 b off ns) := fun w3 h3 => hN.below h3 hb
  have A3 : Hid (∀ w3, Below B w w3 → w3.cell? ⟨b, off + i * 5, none⟩ = some (.int .i64 n.op)) := fun w3 h3 => ((hN.below h3 hb) i n hn).1
  have p3 : (n.op == 3) = false := by rw [beq_eq_false_iff_ne]; intro e; rw [e] at h0; simp [prt] at h0
  have p4 : (n.op == 4) = false := by rw [beq_eq_false_iff_ne]; intro e; rw [e] at h0; simp [prt] at h0
  have p5 : (n.op == 5) = false := by rw [beq_eq_false_iff_ne]; intro e; rw [e] at h0; simp [prt] at h0
  have p6 : (n.op == 6) = false := by rw [beq_eq_false_iff_ne]; intro e; rw [e] at h0; simp [prt] at h0
  have p7 : (n.op == 7) = false := by rw [beq_eq_false_iff_ne]; intro e; rw [e] at h0; simp [prt] at h0
  have H60 : Hid _ := h60
  clear hn h0 hO hN h60
  go_enter Tryd.func57, Tryd.ntmps57
  go_wp2_with fail
  refine Calls.mono (CT.out _) ?_
  rintro e w1 ⟨rfl, hb1⟩
  have S1 : Hid _ := A1.out w1 hb1
  clear hb1
  go_wp2_with (at_builtin; refine wpList_append_ns (by rfl) _ _ (by rfl) B _ (by rfl) ms S1.out.o w1.heap.size _ _ _ (by rfl) (by rfl) S1.out.c (by simp) (by have := H60.out; simp at this ⊢; omega) S1.out.s ?_; intro g3 cap3 w3 ho3 hg3 hb3 hl3; have O3 : Hid _ := ho3; have B3 : Hid (Below B w w3) := S1.out.b.grown hg3 S1.out.s S1.out.own; have q3 := A3.out w3 B3.out; clear ho3 hg3 hb3 hl3)
  go_ret
  exact ⟨_, rfl, B3.out, O3.out⟩
theorem own_len (ms : List Nd) (n : Nd) : (ms ++ [n]).length = ms.length + 1 := by simp
set_option maxHeartbeats 4000000 in
theorem app_one (ns : List Nd) (b off cap : Nat) (hm : ns.length ≤ 60) (i : Nat) (n : Nd) (hn : ns[i]? = some n) (h0 : prt n.op = 1) (t : List Nd) (ht : AppOk ns b off cap (i + 1) t) : AppOk ns b off cap i (n.flip :: t) := by
  intro B w v ms hb hB hN hO h60
  have hil : i < ns.length := by
    rcases Nat.lt_or_ge i ns.length with h' | h'
    · exact h'
    · rw [List.getElem?_eq_none h'] at hn; cases hn
  obtain ⟨c0, c1, c2, c3, c4⟩ := hN i n hn
  have i0 : (0 : Int) ≤ (i : Int) := by omega
  have i1 : (i : Int) < (ns.length : Int) := by omega
  have CT : Hid _ := turnedNode_any n
  have A1 : Hid (∀ w1, Below w.heap.size w w1 → AppSet B w v ms n (w1.alloc (ndObj n.flip.op n.flip.c)) w1.heap.size) := fun w1 h1 => app_set hB hO h1
  have A2 : Hid (∀ w3, Below B w w3 → NsAt w3 b off ns) := fun w3 h3 => hN.below h3 hb
  have A3 : Hid (∀ w3, Below B w w3 → w3.cell? ⟨b, off + i * 5, none⟩ = some (.int .i64 n.op)) := fun w3 h3 => ((hN.below h3 hb) i n hn).1
  have C1 : Hid (∀ w3 u, Below B w w3 → NsOwn w3 B u (ms ++ [n.flip]) → Calls Tryd.prog 57 #[u, .slice (some ⟨b, off, none⟩) ns.length cap, .int .i64 ((i : Int) + 1)] w3 fun e w' => ∃ u, e = .returned u ∧ Below B w3 w' ∧ NsOwn w' B u (ms ++ (n.flip :: t))) := by
    intro w3 u h3 ho
    have := ht B w3 u (ms ++ [n.flip]) hb (Nat.le_trans hB h3.size) (A2.out w3 h3) ho (by simp at h60 ⊢; omega)
    rw [arg_succ, List.append_assoc] at this
    exact this
  have H60 : Hid (ms.length + [n.flip].length ≤ 60) := by show _ ≤ _; simp at h60 ⊢; omega
  have h3 := (prt_one n.op).1 h0
  obtain ⟨op, c⟩ := n
  simp only at *
  clear hn h0 hO hN h60 ht A2
  rcases h3 with rfl | rfl | rfl
  · go_enter Tryd.func57, Tryd.ntmps57
    go_wp2_with fail
    refine Calls.mono (CT.out _) ?_
    rintro e w1 ⟨rfl, hb1⟩
    have S1 : Hid _ := A1.out w1 hb1
    clear hb1
    go_wp2_with (at_builtin; refine wpList_append_ns (by rfl) _ _ (by rfl) B _ (by rfl) ms S1.out.o w1.heap.size _ _ _ (by rfl) (by rfl) S1.out.c (by simp) (by have := H60.out; simp at this ⊢; omega) S1.out.s ?_; intro g3 cap3 w3 ho3 hg3 hb3 hl3; have O3 : Hid _ := ho3; have B3 : Hid (Below B w w3) := S1.out.b.grown hg3 S1.out.s S1.out.own; have q3 := A3.out w3 B3.out; clear ho3 hg3 hb3 hl3)
    refine Calls.mono (C1.out _ _ B3.out O3.out) ?_
    rintro e w4 ⟨u, rfl, h4, o4⟩
    have B4 : Hid _ := And.intro h4 o4
    clear h4 o4
    go_wp2
    go_ret
    exact ⟨_, rfl, B3.out.trans B4.out.1, B4.out.2⟩
  · go_enter Tryd.func57, Tryd.ntmps57
    go_wp2_with fail
    refine Calls.mono (CT.out _) ?_
    rintro e w1 ⟨rfl, hb1⟩
    have S1 : Hid _ := A1.out w1 hb1
    clear hb1
    go_wp2_with (at_builtin; refine wpList_append_ns (by rfl) _ _ (by rfl) B _ (by rfl) ms S1.out.o w1.heap.size _ _ _ (by rfl) (by rfl) S1.out.c (by simp) (by have := H60.out; simp at this ⊢; omega) S1.out.s ?_; intro g3 cap3 w3 ho3 hg3 hb3 hl3; have O3 : Hid _ := ho3; have B3 : Hid (Below B w w3) := S1.out.b.grown hg3 S1.out.s S1.out.own; have q3 := A3.out w3 B3.out; clear ho3 hg3 hb3 hl3)
    refine Calls.mono (C1.out _ _ B3.out O3.out) ?_
    rintro e w4 ⟨u, rfl, h4, o4⟩
    have B4 : Hid _ := And.intro h4 o4
    clear h4 o4
    go_wp2
    go_ret
    exact ⟨_, rfl, B3.out.trans B4.out.1, B4.out.2⟩
  · go_enter Tryd.func57, Tryd.ntmps57
    go_wp2_with fail
    refine Calls.mono (CT.out _) ?_
    rintro e w1 ⟨rfl, hb1⟩
    have S1 : Hid _ := A1.out w1 hb1
    clear hb1
    go_wp2_with (at_builtin; refine wpList_append_ns (by rfl) _ _ (by rfl) B _ (by rfl) ms S1.out.o w1.heap.size _ _ _ (by rfl) (by rfl) S1.out.c (by simp) (by have := H60.out; simp at this ⊢; omega) S1.out.s ?_; intro g3 cap3 w3 ho3 hg3 hb3 hl3; have O3 : Hid _ := ho3; have B3 : Hid (Below B w w3) := S1.out.b.grown hg3 S1.out.s S1.out.own; have q3 := A3.out w3 B3.out; clear ho3 hg3 hb3 hl3)
    refine Calls.mono (C1.out _ _ B3.out O3.out) ?_
    rintro e w4 ⟨u, rfl, h4, o4⟩
    have B4 : Hid _ := And.intro h4 o4
    clear h4 o4
    go_wp2
    go_ret
    exact ⟨_, rfl, B3.out.trans B4.out.1, B4.out.2⟩
set_option maxHeartbeats 4000000 in
theorem app_cat (ns : List Nd) (b off cap : Nat) (hm : ns.length ≤ 60) (i : Nat) (n : Nd) (hn : ns[i]? = some n) (h0 : n.op = 3) (k : Nat) (t u : List Nd) (ht : AppOk ns b off cap (i + 1) t) (hu : AppOk ns b off cap k u)
    (hE : ∀ w : World, NsAt w b off ns → Calls Tryd.prog 54 #[.slice (some ⟨b, off, none⟩) ns.length cap, .int .i64 (i + 1 : Nat)] w fun e w' => e = .returned (.tuple #[.int .i64 k, .bool true]) ∧ w' = w) : AppOk ns b off cap i (n.flip :: (u ++ t)) := by
  intro B w v ms hb hB hN hO h60
  have hil : i < ns.length := by
    rcases Nat.lt_or_ge i ns.length with h' | h'
    · exact h'
    · rw [List.getElem?_eq_none h'] at hn; cases hn
  obtain ⟨c0, c1, c2, c3, c4⟩ := hN i n hn
  have i0 : (0 : Int) ≤ (i : Int) := by omega
  have i1 : (i : Int) < (ns.length : Int) := by omega
  have CT : Hid _ := turnedNode_any n
  have A1 : Hid (∀ w1, Below w.heap.size w w1 → AppSet B w v ms n (w1.alloc (ndObj n.flip.op n.flip.c)) w1.heap.size) := fun w1 h1 => app_set hB hO h1
  have A2 : Hid (∀ w3, Below B w w3 → NsAt w3 b off ns) := fun w3 h3 => hN.below h3 hb
  have A3 : Hid (∀ w3, Below B w w3 → w3.cell? ⟨b, off + i * 5, none⟩ = some (.int .i64 n.op)) := fun w3 h3 => ((hN.below h3 hb) i n hn).1
  have C1 : Hid (∀ w3 u0, Below B w w3 → NsOwn w3 B u0 (ms ++ [n.flip]) → Calls Tryd.prog 57 #[u0, .slice (some ⟨b, off, none⟩) ns.length cap, .int .i64 (k : Int)] w3 fun e w' => ∃ u0, e = .returned u0 ∧ Below B w3 w' ∧ NsOwn w' B u0 (ms ++ [n.flip] ++ u)) := by
    intro w3 u0 h3 ho
    have := hu B w3 u0 (ms ++ [n.flip]) hb (Nat.le_trans hB h3.size) (A2.out w3 h3) ho (by simp at h60 ⊢; omega)
    exact this
  have C2 : Hid (∀ w3 u0, Below B w w3 → NsOwn w3 B u0 (ms ++ [n.flip] ++ u) → Calls Tryd.prog 57 #[u0, .slice (some ⟨b, off, none⟩) ns.length cap, .int .i64 ((i : Int) + 1)] w3 fun e w' => ∃ u0, e = .returned u0 ∧ Below B w3 w' ∧ NsOwn w' B u0 (ms ++ [n.flip] ++ u ++ t)) := by
    intro w3 u0 h3 ho
    have := ht B w3 u0 (ms ++ [n.flip] ++ u) hb (Nat.le_trans hB h3.size) (A2.out w3 h3) ho (by simp at h60 ⊢; omega)
    rw [arg_succ] at this
    exact this
  have CE : Hid (∀ w3, Below B w w3 → Calls Tryd.prog 54 #[.slice (some ⟨b, off, none⟩) ns.length cap, .int .i64 ((i : Int) + 1)] w3 fun e w' => e = .returned (.tuple #[.int .i64 k, .bool true]) ∧ w' = w3) := by
    intro w3 h3
    have := hE w3 (A2.out w3 h3)
    rw [arg_succ] at this
    exact this
  have H60 : Hid (ms.length + [n.flip].length ≤ 60) := by show _ ≤ _; simp at h60 ⊢; omega
  have HR : Hid (ms ++ (n.flip :: (u ++ t)) = ms ++ [n.flip] ++ u ++ t) := by show _ = _; simp
  obtain ⟨op, c⟩ := n
  simp only at *
  subst h0
  clear hn hO hN h60 ht hu hE A2
  go_enter Tryd.func57, Tryd.ntmps57
  go_wp2_with fail
  refine Calls.mono (CT.out _) ?_
  rintro e w1 ⟨rfl, hb1⟩
  have S1 : Hid _ := A1.out w1 hb1
  clear hb1
  go_wp2_with (at_builtin; refine wpList_append_ns (by rfl) _ _ (by rfl) B _ (by rfl) ms S1.out.o w1.heap.size _ _ _ (by rfl) (by rfl) S1.out.c (by simp) (by have := H60.out; simp at this ⊢; omega) S1.out.s ?_; intro g3 cap3 w3 ho3 hg3 hb3 hl3; have O3 : Hid _ := ho3; have B3 : Hid (Below B w w3) := S1.out.b.grown hg3 S1.out.s S1.out.own; have q3 := A3.out w3 B3.out; clear ho3 hg3 hb3 hl3)
  refine Calls.mono (CE.out _ B3.out) ?_
  rintro e w3 ⟨rfl, rfl⟩
  go_wp2_with fail
  refine Calls.mono (C1.out _ _ B3.out O3.out) ?_
  rintro e w4 ⟨u1, rfl, h4, o4⟩
  have B4 : Hid (Below B w w4) := B3.out.trans h4
  have O4 : Hid _ := o4
  clear h4 o4
  go_wp2_with fail
  refine Calls.mono (C2.out _ _ B4.out O4.out) ?_
  rintro e w5 ⟨u2, rfl, h5, o5⟩
  have B5 : Hid (Below B w w5) := B4.out.trans h5
  have O5 : Hid _ := o5
  clear h5 o5
  go_wp2
  go_ret
  exact ⟨_, rfl, B5.out, by rw [HR.out]; exact O5.out⟩
set_option maxHeartbeats 4000000 in
theorem app_or (ns : List Nd) (b off cap : Nat) (hm : ns.length ≤ 60) (i : Nat) (n : Nd) (hn : ns[i]? = some n) (h0 : n.op = 4) (k : Nat) (t u : List Nd) (ht : AppOk ns b off cap (i + 1) t) (hu : AppOk ns b off cap k u)
    (hE : ∀ w : World, NsAt w b off ns → Calls Tryd.prog 54 #[.slice (some ⟨b, off, none⟩) ns.length cap, .int .i64 (i + 1 : Nat)] w fun e w' => e = .returned (.tuple #[.int .i64 k, .bool true]) ∧ w' = w) : AppOk ns b off cap i (n.flip :: (t ++ u)) := by
  intro B w v ms hb hB hN hO h60
  have hil : i < ns.length := by
    rcases Nat.lt_or_ge i ns.length with h' | h'
    · exact h'
    · rw [List.getElem?_eq_none h'] at hn; cases hn
  obtain ⟨c0, c1, c2, c3, c4⟩ := hN i n hn
  have i0 : (0 : Int) ≤ (i : Int) := by omega
  have i1 : (i : Int) < (ns.length : Int) := by omega
  have CT : Hid _ := turnedNode_any n
  have A1 : Hid (∀ w1, Below w.heap.size w w1 → AppSet B w v ms n (w1.alloc (ndObj n.flip.op n.flip.c)) w1.heap.size) := fun w1 h1 => app_set hB hO h1
  have A2 : Hid (∀ w3, Below B w w3 → NsAt w3 b off ns) := fun w3 h3 => hN.below h3 hb
  have A3 : Hid (∀ w3, Below B w w3 → w3.cell? ⟨b, off + i * 5, none⟩ = some (.int .i64 n.op)) := fun w3 h3 => ((hN.below h3 hb) i n hn).1
  have C1 : Hid (∀ w3 u0, Below B w w3 → NsOwn w3 B u0 (ms ++ [n.flip]) → Calls Tryd.prog 57 #[u0, .slice (some ⟨b, off, none⟩) ns.length cap, .int .i64 ((i : Int) + 1)] w3 fun e w' => ∃ u0, e = .returned u0 ∧ Below B w3 w' ∧ NsOwn w' B u0 (ms ++ [n.flip] ++ t)) := by
    intro w3 u0 h3 ho
    have := ht B w3 u0 (ms ++ [n.flip]) hb (Nat.le_trans hB h3.size) (A2.out w3 h3) ho (by simp at h60 ⊢; omega)
    rw [arg_succ] at this
    exact this
  have C2 : Hid (∀ w3 u0, Below B w w3 → NsOwn w3 B u0 (ms ++ [n.flip] ++ t) → Calls Tryd.prog 57 #[u0, .slice (some ⟨b, off, none⟩) ns.length cap, .int .i64 (k : Int)] w3 fun e w' => ∃ u0, e = .returned u0 ∧ Below B w3 w' ∧ NsOwn w' B u0 (ms ++ [n.flip] ++ t ++ u)) := by
    intro w3 u0 h3 ho
    have := hu B w3 u0 (ms ++ [n.flip] ++ t) hb (Nat.le_trans hB h3.size) (A2.out w3 h3) ho (by simp at h60 ⊢; omega)
    exact this
  have CE : Hid (∀ w3, Below B w w3 → Calls Tryd.prog 54 #[.slice (some ⟨b, off, none⟩) ns.length cap, .int .i64 ((i : Int) + 1)] w3 fun e w' => e = .returned (.tuple #[.int .i64 k, .bool true]) ∧ w' = w3) := by
    intro w3 h3
    have := hE w3 (A2.out w3 h3)
    rw [arg_succ] at this
    exact this
  have H60 : Hid (ms.length + [n.flip].length ≤ 60) := by show _ ≤ _; simp at h60 ⊢; omega
  have HR : Hid (ms ++ (n.flip :: (t ++ u)) = ms ++ [n.flip] ++ t ++ u) := by show _ = _; simp
  obtain ⟨op, c⟩ := n
  simp only at *
  subst h0
  clear hn hO hN h60 ht hu hE A2
  go_enter Tryd.func57, Tryd.ntmps57
  go_wp2_with fail
  refine Calls.mono (CT.out _) ?_
  rintro e w1 ⟨rfl, hb1⟩
  have S1 : Hid _ := A1.out w1 hb1
  clear hb1
  go_wp2_with (at_builtin; refine wpList_append_ns (by rfl) _ _ (by rfl) B _ (by rfl) ms S1.out.o w1.heap.size _ _ _ (by rfl) (by rfl) S1.out.c (by simp) (by have := H60.out; simp at this ⊢; omega) S1.out.s ?_; intro g3 cap3 w3 ho3 hg3 hb3 hl3; have O3 : Hid _ := ho3; have B3 : Hid (Below B w w3) := S1.out.b.grown hg3 S1.out.s S1.out.own; have q3 := A3.out w3 B3.out; clear ho3 hg3 hb3 hl3)
  refine Calls.mono (CE.out _ B3.out) ?_
  rintro e w3 ⟨rfl, rfl⟩
  go_wp2_with fail
  refine Calls.mono (C1.out _ _ B3.out O3.out) ?_
  rintro e w4 ⟨u1, rfl, h4, o4⟩
  have B4 : Hid (Below B w w4) := B3.out.trans h4
  have O4 : Hid _ := o4
  clear h4 o4
  go_wp2_with fail
  refine Calls.mono (C2.out _ _ B4.out O4.out) ?_
  rintro e w5 ⟨u2, rfl, h5, o5⟩
  have B5 : Hid (Below B w w5) := B4.out.trans h5
  have O5 : Hid _ := o5
  clear h5 o5
  go_wp2
  go_ret
  exact ⟨_, rfl, B5.out, by rw [HR.out]; exact O5.out⟩
theorem app_at (ns : List Nd) (b off cap : Nat) (hm : ns.length ≤ 60) : ∀ (f i j : Nat), f ≤ ns.length + 1 → endF ns f i = some j → AppOk ns b off cap i (turF ns f i) := by
  intro f
  induction f with
  | zero => intro i j _ h; simp [endF] at h
  | succ f ih =>
    intro i j hf h
    obtain ⟨n, hn, hil, hc⟩ := part_cases ns f i j h
    rw [turF_at ns f i n hn]
    rcases hc with ⟨h0, rfl⟩ | ⟨h0, h1⟩ | ⟨h0, k, h1, h2⟩
    · have e3 : ¬ n.op = 3 := by intro e; rw [e] at h0; simp [prt] at h0
      have e4 : ¬ n.op = 4 := by intro e; rw [e] at h0; simp [prt] at h0
      rw [if_neg (by omega), if_neg e3, if_neg e4]
      exact app_leaf ns b off cap hm i n hn h0
    · rw [if_pos h0]
      exact app_one ns b off cap hm i n hn h0 _ (ih _ _ (by omega) h1)
    · rw [if_neg (by omega), endE_of ns f (i + 1) k (by omega) h1, Option.getD_some]
      have hE : ∀ w : World, NsAt w b off ns → Calls Tryd.prog 54 #[.slice (some ⟨b, off, none⟩) ns.length cap, .int .i64 (i + 1 : Nat)] w fun e w' => e = .returned (.tuple #[.int .i64 k, .bool true]) ∧ w' = w := fun w hN => behind_k ns b off cap hm w hN (i + 1) f k h1
      rcases (prt_two n.op).1 h0 with e3 | e4
      · rw [if_pos e3]
        exact app_cat ns b off cap hm i n hn e3 k _ _ (ih _ _ (by omega) h1) (ih _ _ (by omega) h2) hE
      · rw [if_neg (by omega), if_pos e4]
        exact app_or ns b off cap hm i n hn e4 k _ _ (ih _ _ (by omega) h1) (ih _ _ (by omega) h2) hE
end Go.Proofs.YtajkkmnojfghoaaDoor
namespace Go.Proofs.YtajkkmnojfghoaaDoor
set_option linter.unusedSimpArgs false
set_option linter.unusedVariables false
set_option maxRecDepth 100000
open Go.RowKit

set_option maxHeartbeats 4000000 in
theorem rturn_any (ns : List Nd) (v : Value) (w : World) (hN : NsIn w v ns) :
    Calls Tryd.prog 30 #[v] w fun e w' => ∃ u, e = .returned (.tuple #[u, errV (faultL ns)]) ∧ Below w.heap.size w w' ∧ NsIn w' u (if faultL ns = 0 then turE ns else []) := by
  have CC : Hid _ := rcheck_any ns v w hN
  have hinfo : (Tryd.prog.info? 56).map (fun i => (i.zero, i.size, i.bytes)) = some (some (.agg #[.int .i64 0, .int .u64 0, .int .u64 0, .int .u64 0, .int .u64 0]), 5, 40) := by kernel_rfl
  obtain ⟨i0, hi, hz0, hz1, hz2⟩ := info_parts hinfo
  clear hinfo
  by_cases hf : faultL ns = 0
  · obtain ⟨hl, hr, hv⟩ := (faultL_zero ns).1 hf
    obtain ⟨a, cap, rfl, hm, h | ⟨b, off, rfl, hlt, hn⟩⟩ := hN
    · subst h; rw [endE_nil] at hv; cases hv
    have C2 : Hid (∀ w1 w' u, Below w.heap.size w w1 → Below w1.heap.size w1 w' → NsOwn w' w1.heap.size u [] → Calls Tryd.prog 57 #[u, .slice (some ⟨b, off, none⟩) ns.length cap, .int .i64 0] w' fun e w'' => ∃ u, e = .returned u ∧ Below w1.heap.size w' w'' ∧ NsOwn w'' w1.heap.size u (turE ns)) := by
      intro w1 w' u h1 h2 ho
      have := app_at ns b off cap hl (ns.length + 1) 0 ns.length (Nat.le_refl _) hv w1.heap.size w' u [] (Nat.lt_of_lt_of_le hlt h1.size) h2.size ((hn.below h1 hlt).below h2 (Nat.lt_of_lt_of_le hlt h1.size)) ho (by rw [turF_len ns _ 0 _ (Nat.le_refl _) hv]; simp; omega)
      exact this
    have HL : Hid ((turE ns).length ≤ maxLen) := by show _ ≤ _; rw [turE_len ns hv]; unfold maxLen; omega
    rw [hf] at CC ⊢
    rw [if_pos rfl]
    rw [show errV 0 = .nilIface from rfl] at CC ⊢
    clear hr hv hn hf
    go_enter Tryd.func30, Tryd.ntmps30
    go_wp2_with fail
    refine Calls.mono CC.out ?_
    rintro e w1 ⟨rfl, hb⟩
    have B1 : Hid _ := hb
    clear hb
    go_wp2_with (at_make; refine wpList_make_own _ (by rfl) _ _ 40 (by rfl) w1.heap.size 56 i0 _ 5 Tryd.underlying40 hi hz0 hz1 _ _ _ ns.length (by rfl) (by rfl) (by rfl) (by rw [hz2]; omega) (by unfold maxLen; omega) (Nat.le_refl _) ?_; intro w2 ho2 hg2; have O2 : Hid (NsOwn w2 w1.heap.size _ []) := ho2; have B2 : Hid (Below w1.heap.size w1 w2) := (Below.refl _ _).grown hg2 (Nat.le_refl _) (fun k hk => by cases hk); clear ho2 hg2)
    refine Calls.mono (C2.out w1 _ _ B1.out B2.out O2.out) ?_
    rintro e w3 ⟨u, rfl, h3, o3⟩
    have B3 : Hid (Below w.heap.size w w3) := (B1.out.trans (B2.out.mono B1.out.size)).trans (h3.mono B1.out.size)
    have O3 : Hid _ := o3
    clear h3 o3
    go_wp2
    go_ret2
    exact ⟨_, rfl, B3.out, NsOwn.isIn O3.out HL.out⟩
  · obtain ⟨a, cap, rfl, hm, _⟩ := hN
    rw [if_neg hf]
    rw [show errV (faultL ns) = .iface 25 (.int .i64 (faultL ns)) from if_neg hf] at CC ⊢
    clear hf
    generalize faultL ns = ft at *
    go_enter Tryd.func30, Tryd.ntmps30
    go_wp2_with fail
    refine Calls.mono CC.out ?_
    rintro e w1 ⟨rfl, hb⟩
    have B1 : Hid _ := hb
    clear hb
    go_wp2
    go_ret2
    exact ⟨_, rfl, B1.out, nsIn_nil _⟩
theorem rexT : RexT where
  empty := fun ns v w hN _ => rempty_any ns v w hN
  turn := fun ns v w hN _ => rturn_any ns v w hN
end Go.Proofs.YtajkkmnojfghoaaDoor
namespace Go.Proofs.YtajkkmnojfghoaaDoor
set_option linter.unusedSimpArgs false
set_option linter.unusedVariables false
set_option maxRecDepth 100000
open Go.RowKit

theorem either1_any (x y : Int) (w : World) :
    Calls Tryd.prog 52 #[.int .u64 x, .int .u64 y] w fun e w' => e = .returned (.int .u64 (bits .or .u64 x y)) ∧ w' = w := by
  go_enter Tryd.func52, Tryd.ntmps52
  go_wp2
  go_ret
  exact ⟨rfl, rfl⟩
theorem not1_any (x y : Int) (w : World) :
    Calls Tryd.prog 47 #[.int .u64 x, .int .u64 y] w fun e w' => e = .returned (.int .u64 (not64 x)) ∧ w' = w := by
  have hs : ¬ IntKind.u64.signed = true := by decide
  go_enter Tryd.func47, Tryd.ntmps47
  go_wp2
  all_goals first | (exfalso; exact hs ‹_›) | skip
  all_goals (go_ret; exact ⟨rfl, rfl⟩)
set_option maxHeartbeats 400000 in
theorem ones_any (x : Int) (w : World) :
    Calls Tryd.prog 48 #[.int .u64 x] w fun e w' => e = .returned (.int .i64 (ones x)) ∧ w' = w := by
  go_enter Tryd.func48, Tryd.ntmps48
  go_wp2
  go_ret
  exact ⟨rfl, rfl⟩
set_option maxHeartbeats 400000 in
theorem has_any (k : C4) (x : Int) (w : World) (h : 0 ≤ x) (h2 : x < 256) :
    Calls Tryd.prog 22 #[k.v, .int .u8 x] w fun e w' => e = .returned (.bool (k.hasI x)) ∧ Below w.heap.size w w' := by
  have hw := k.get (x/64).toNat (by omega)
  go_enter Tryd.func22, Tryd.ntmps22
  go_wp2
  go_ret
  exact ⟨rfl, (Below.refl _ _).alloc (Nat.le_refl _) _⟩
set_option maxHeartbeats 400000 in
theorem with_any (k : C4) (x : Int) (w : World) (h : 0 ≤ x) (h2 : x < 256) :
    Calls Tryd.prog 44 #[k.v, .int .u8 x] w fun e w' => e = .returned (k.add x).v ∧ Below w.heap.size w w' := by
  have hw := k.get (x/64).toNat (by omega)
  have hs := k.set (x/64).toNat (by omega)
  go_enter Tryd.func44, Tryd.ntmps44
  go_wp2
  refine bodyPost_ret (v := (k.add x).v) (by simp [results, Tryd.results44, go_sem]; exact ⟨rfl, rfl, rfl, rfl⟩) rfl ⟨rfl, ?_⟩
  exact ((Below.refl _ _).alloc (Nat.le_refl _) _).alloc (by simp) _

set_option maxHeartbeats 1000000 in
theorem join_any (g : Nat) (F : Int → Int → Int) (hg : ∀ (p q : Int) (w : World), Calls Tryd.prog g #[.int .u64 p, .int .u64 q] w fun e w' => e = .returned (.int .u64 (F p q)) ∧ w' = w)
    (he : ∀ args w, (callFunc g args).run Tryd.prog w = .ok (.enter g args) w) (x y : C4) (w : World) :
    Calls Tryd.prog 46 #[x.v, y.v, .func (.func g) #[] #[]] w fun e w' => e = .returned (jn F x y 4).v ∧ Below w.heap.size w w' := by
  have HG := (show Hid _ from hg)
  clear hg
  go_enter Tryd.func46, Tryd.ntmps46
  go_wp2
  go_loopw [9] (fun i wr => ∃ k : Nat, k ≤ 4 ∧ i = .int .i64 k ∧ Below w.heap.size w wr ∧ Hb wr w.heap.size x ∧ Hb wr (w.heap.size + 1) y ∧ Hb wr (w.heap.size + 1 + 1) z4 ∧ Hb wr (w.heap.size + 1 + 1 + 1) (jn F x y k)) (fun i _ => 4 - (intOf i).toNat)
  case atStart =>
    refine ⟨0, by omega, rfl, ?_, ?_, ?_, ?_, ?_⟩
    · exact ((((Below.refl _ _).alloc (Nat.le_refl _) _).alloc (by simp) _).alloc (by simp; omega) _).alloc (by simp; omega) _
    · exact (((Hb.new _ x _ rfl).alloc _).alloc _).alloc _
    · exact ((Hb.new _ y _ (by simp)).alloc _).alloc _
    · exact (Hb.new _ z4 _ (by simp)).alloc _
    · exact Hb.new _ (jn F x y 0) _ (by simp)
  case round =>
    obtain ⟨k, hk, rfl, hB, hX, hY, hZ, hJ⟩ := hrel
    by_cases hlt : k < 4
    · have cx := hX.cell k hlt
      have cy := hY.cell k hlt
      have cj := hJ.cell k hlt
      have fj := hJ.frozen k
      have i0 : (0 : Int) ≤ (k : Int) := by omega
      have i1 : (k : Int) < 4 := by omega
      have sx := fun v => (hX.other ⟨w.heap.size + 1 + 1 + 1, k, none⟩ v (by simp only; omega)).cell k hlt
      have sy := fun v => (hY.other ⟨w.heap.size + 1 + 1 + 1, k, none⟩ v (by simp only; omega)).cell k hlt
      go_wp2_with fail
      go_region_held3 (fun w' => w'.cell? ⟨w.heap.size, k, none⟩ = some (.int .u64 (x.w k)) ∧ w'.cell? ⟨w.heap.size + 1, k, none⟩ = some (.int .u64 (y.w k))) (go_keep)
        (first | (refine (HG.out _ _ _).mono ?_; rintro e w' ⟨rfl, rfl⟩))
      all_goals go_wp2
      refine ⟨⟨k + 1, by omega, by go_num, ?_, ?_, ?_, ?_, ?_⟩, by simp [intOf]; omega⟩
      · exact (hB.setCell (by simp; omega) _).drew
      · exact (hX.other _ _ (by simp only; omega)).drew
      · exact (hY.other _ _ (by simp only; omega)).drew
      · exact (hZ.other _ _ (by simp only; omega)).drew
      · rw [← jn_put F x y k hlt]
        exact (hJ.store k hlt _).drew
    · have hk4 : k = 4 := by omega
      subst hk4
      have c0 := hJ.c0
      have c1 := hJ.c1
      have c2 := hJ.c2
      have c3 := hJ.c3
      have d0 := hZ.c0
      have d1 := hZ.c1
      have d2 := hZ.c2
      have d3 := hZ.c3
      have f0 := hZ.frozen 0
      have f1 := hZ.frozen 1
      have f2 := hZ.frozen 2
      have f3 := hZ.frozen 3
      go_wp2
      have hq := hZ.put4 (jn F x y 4)
      refine bodyPost_ret (v := (jn F x y 4).v) (by simp [results, Tryd.results46, go_sem, hq.c0, hq.c1, hq.c2, hq.c3]) rfl ⟨rfl, ?_⟩
      exact (((hB.setCell (by simp; omega) _).setCell (by simp; omega) _).setCell (by simp; omega) _).setCell (by simp; omega) _

theorem enters_either1 : ∀ args w, (callFunc 52 args).run Tryd.prog w = .ok (.enter 52 args) w := fun _ _ => by kernel_rfl
theorem enters_not1 : ∀ args w, (callFunc 47 args).run Tryd.prog w = .ok (.enter 47 args) w := fun _ _ => by kernel_rfl
set_option maxHeartbeats 400000 in
theorem either_any (x y : C4) (w : World) :
    Calls Tryd.prog 24 #[x.v, y.v] w fun e w' => e = .returned (x.or y).v ∧ Below w.heap.size w w' := by
  go_enter Tryd.func24, Tryd.ntmps24
  go_wp2_with fail
  refine (join_any 52 _ either1_any enters_either1 x y _).mono ?_
  rintro e w1 ⟨rfl, hb⟩
  have hB : Below w.heap.size w w1 := ((((Below.refl _ _).alloc (Nat.le_refl _) _).alloc (by simp) _).alloc (by simp; omega) _).trans (hb.mono (by simp; omega))
  have hZ : Hb w1 (w.heap.size + 1 + 1) z4 := (Hb.new _ z4 _ (by simp)).below hb (by simp)
  obtain ⟨d0, d1, d2, d3, f0, f1, f2, f3⟩ := hZ.all
  go_wp2
  have hq := hZ.put4 (x.or y)
  refine bodyPost_ret (v := (x.or y).v) (by have g0 := hq.c0; have g1 := hq.c1; have g2 := hq.c2; have g3 := hq.c3; simp [jn, C4.and, C4.or, C4.not] at g0 g1 g2 g3 ⊢; simp [results, Tryd.results24, go_sem, C4.and, C4.or, g0, g1, g2, g3]) rfl ⟨rfl, ?_⟩
  exact below_put4 hB (by omega) _
end Go.Proofs.YtajkkmnojfghoaaDoor

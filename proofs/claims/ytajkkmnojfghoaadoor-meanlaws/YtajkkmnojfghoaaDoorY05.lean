/- append of nodes that lie anywhere; the law's own under and two. What winnowfansame.Ints answers. The place behind a part, by counting the parts that are missing. No function of the program. Package rex: parts, behind, checkNode, turnedNode. Package rex: Check. -/
import Derived.Test.YtajkkmnojfghoaaDoorY04
import Derived.Test.YtajkkmnojfghoaaDoorY03
import Derived.Test.YtajkkmnojfghoaaDoorY02
import Derived.Handy
namespace Go.Proofs.YtajkkmnojfghoaaDoor
set_option linter.unusedSimpArgs false
set_option linter.unusedVariables false
set_option maxRecDepth 100000
open Go.RowKit
theorem nsAt_cells {w : World} {b off : Nat} : ∀ {ns : List Nd}, NsAt w b off ns → ∀ (j : Nat) u, (nsCells ns)[j]? = some u → w.cell? ⟨b, off + j, none⟩ = some u := by
  intro ns h j u hj
  have hjl : j < (nsCells ns).length := by
    rcases Nat.lt_or_ge j (nsCells ns).length with h' | h'
    · exact h'
    · rw [List.getElem?_eq_none h'] at hj; cases hj
  rw [nsCells_len] at hjl
  have hq : j / 5 < ns.length := by omega
  obtain ⟨n, hn⟩ : ∃ n, ns[j / 5]? = some n := ⟨ns[j / 5], List.getElem?_eq_getElem hq⟩
  obtain ⟨c0, c1, c2, c3, c4⟩ := nsCells_get ns _ n hn
  obtain ⟨d0, d1, d2, d3, d4⟩ := h _ n hn
  have hr : j = j / 5 * 5 ∨ j = j / 5 * 5 + 1 ∨ j = j / 5 * 5 + 2 ∨ j = j / 5 * 5 + 3 ∨ j = j / 5 * 5 + 4 := by omega
  rcases hr with e | e | e | e | e
  · rw [e] at hj ⊢
    rw [c0] at hj; rw [← Option.some.inj hj]; exact d0
  · rw [e] at hj ⊢
    rw [c1] at hj; rw [← Option.some.inj hj]; rw [← Nat.add_assoc]; exact d1
  · rw [e] at hj ⊢
    rw [c2] at hj; rw [← Option.some.inj hj]; rw [← Nat.add_assoc]; exact d2
  · rw [e] at hj ⊢
    rw [c3] at hj; rw [← Option.some.inj hj]; rw [← Nat.add_assoc]; exact d3
  · rw [e] at hj ⊢
    rw [c4] at hj; rw [← Option.some.inj hj]; rw [← Nat.add_assoc]; exact d4
/-- append, of nodes that lie anywhere to nodes of the call's own. -/
theorem wpList_append_at {ops : Array Oper} {rest : List Oper} {o : Oper} {a : Act} {Q : Exit → Act → World → Prop} {w : World} (hgd : o.guard = none) (s x : Operand)
    (ho : o.op = .call { callee := .builtin .append, args := #[s, x], argTypes := #[40, 40] })
    (B : Nat) (v : Value) (hs : a.eval s = v) (ns : List Nd) (hown : NsOwn w B v ns) (g2 o2 c2 : Nat) (ms : List Nd) (hx : a.eval x = .slice (some ⟨g2, o2, none⟩) ms.length c2)
    (hnews : NsAt w g2 o2 ms) (hm : 0 < ms.length) (hbytes : (ns.length + ms.length) * 40 ≤ 140737488355328) (hbase : B ≤ w.heap.size)
    (h : ∀ g cap w', NsOwn w' B (.slice (some ⟨g, 0, none⟩) (ns.length + ms.length) cap) (ns ++ ms) → w.grownBy w' v.ownBlock → B ≤ g → g < w'.heap.size → wpList Tryd.prog ops Q rest (a.put o.dst (.slice (some ⟨g, 0, none⟩) (ns.length + ms.length) cap)) w') : wpList Tryd.prog ops Q (o :: rest) a w := by
  have hinfo : (Tryd.prog.info? 56).map (fun i => (i.zero, i.size, i.bytes)) = some (some (.agg #[.int .i64 0, .int .u64 0, .int .u64 0, .int .u64 0, .int .u64 0]), 5, 40) := by kernel_rfl
  obtain ⟨i0, hi, hz0, hz1, hz2⟩ := info_parts hinfo
  refine wpList_append_lies w hgd s x 40 ho B 56 i0 _ 5 40 Tryd.underlying40 hi hz0 hz1 hz2 rfl (by decide) v ns.length (nsCells ns) hs hown ⟨g2, o2, none⟩ ms.length c2 (nsCells ms) hx (nsCells_len ms) ?_ (nsCells_one ms) hm (by unfold maxLen; omega) hbytes hbase w.heap.size rfl ?_
  · intro j u hj
    rw [Addr.add_lit]
    exact nsAt_cells hnews j u hj
  · intro g cap w' h1 h2 h3 h4
    have e : NsOwn w' B (.slice (some ⟨g, 0, none⟩) (ns.length + ms.length) cap) (ns ++ ms) := by
      unfold NsOwn
      rw [nsCells_append, List.length_append]
      exact h1
    have hg : B ≤ g := by
      rcases h3 with h3 | h3
      · rcases hown.2 with ⟨hv, _⟩ | ⟨g', cap', cur, hv, hb, _⟩
        · rw [hv] at h3; cases h3
        · rw [hv] at h3
          injection h3 with h3
          simp at h3
          omega
      · omega
    exact h g cap w' e h2 hg h4
theorem NsOwn.grown {w w' : World} {B : Nat} {v : Value} {ns : List Nd} (h : NsOwn w B v ns) (hB : B ≤ w.heap.size) (hg : w.grownBy w' v.ownBlock) : Below B w w' := by
  refine ⟨hg.os, hg.tape, hg.output, hg.size, fun k hk => hg.block k (by omega) ?_⟩
  intro e
  rcases h.2 with ⟨hv, _⟩ | ⟨b, cap, cur, hv, hb, _⟩
  · rw [hv] at e; cases e
  · rw [hv] at e
    injection e with e
    simp only at e
    omega
theorem ns_one (w : World) (op : Int) (o : Obj) (ho : o = .cells #[.int .i64 op, .int .u64 0, .int .u64 0, .int .u64 0, .int .u64 0] 56 (0, 0)) : NsOwn (w.alloc o) w.heap.size (.slice (some ⟨w.heap.size, 0, none⟩) 1 1) [⟨op, z4⟩] := by
  have e : (w.alloc o).heap[w.heap.size]? = some (.cells (nsCells [⟨op, z4⟩]).toArray 56 (0, 0)) := by
    rw [ho]
    show (w.heap.push _)[w.heap.size]? = _
    simp
    rfl
  exact ⟨nsCells_len _, Or.inr ⟨w.heap.size, 1, _, rfl, Nat.le_refl _, e, Nat.le_refl _, by decide, by rfl, by rfl⟩⟩
set_option maxHeartbeats 4000000 in
theorem under_any (op : Int) (ns : List Nd) (v : Value) (w : World) (hN : NsIn w v ns) (h0 : 0 < ns.length) (hl : ns.length ≤ 60) :
    Calls Tryd.prog 40 #[.int .i64 op, v] w fun e w' => ∃ u, e = .returned u ∧ Below w.heap.size w w' ∧ NsIn w' u (⟨op, z4⟩ :: ns) := by
  obtain ⟨a, cap, rfl, hm, h | ⟨b, off, rfl, hlt, hn⟩⟩ := hN
  · subst h; simp at h0
  have HN := hid (hn.below ((Below.refl w.heap.size w).alloc (Nat.le_refl _) (.cells #[.int .i64 op, .int .u64 0, .int .u64 0, .int .u64 0, .int .u64 0] 56)) hlt)
  have HO := hid (ns_one w op _ rfl)
  clear hn
  go_enter Tryd.func40, Tryd.ntmps40
  go_wp2_with (at_builtin; refine wpList_append_at rfl _ _ rfl w.heap.size _ rfl [⟨op, z4⟩] HO.out b off cap ns rfl HN.out h0 (by simp; omega) (by simp) ?_)
  intro g cap2 w2 hO hg _ _
  have HO2 := hid hO
  have HB := hid (((Below.refl w.heap.size w).alloc (Nat.le_refl _) _).trans (HO.out.grown (by simp) hg))
  clear hO hg HO HN
  go_wp2
  go_ret
  exact ⟨_, rfl, HB.out, HO2.out.isIn (by simp [maxLen]; omega)⟩
set_option maxHeartbeats 4000000 in
theorem two_any2 (op : Int) (ns ms : List Nd) (v u : Value) (w : World) (hN : NsIn w v ns) (hM : NsIn w u ms) (h0 : 0 < ns.length) (h1 : 0 < ms.length) (hl : ns.length ≤ 60) (hl2 : ms.length ≤ 60) :
    Calls Tryd.prog 41 #[.int .i64 op, v, u] w fun e w' => ∃ u, e = .returned u ∧ Below w.heap.size w w' ∧ NsIn w' u (⟨op, z4⟩ :: (ns ++ ms)) := by
  obtain ⟨a, cap, rfl, hm, h | ⟨b, off, rfl, hlt, hn⟩⟩ := hN
  · subst h; simp at h0
  obtain ⟨a3, cap3, rfl, hm3, h | ⟨b3, off3, rfl, hlt3, hn3⟩⟩ := hM
  · subst h; simp at h1
  have HN := hid (hn.below ((Below.refl w.heap.size w).alloc (Nat.le_refl _) (.cells #[.int .i64 op, .int .u64 0, .int .u64 0, .int .u64 0, .int .u64 0] 56)) hlt)
  have HN3 := hid hn3
  have HO := hid (ns_one w op _ rfl)
  clear hn hn3
  go_enter Tryd.func41, Tryd.ntmps41
  go_wp2_with (at_builtin; refine wpList_append_at rfl _ _ rfl w.heap.size _ rfl [⟨op, z4⟩] HO.out b off cap ns rfl HN.out h0 (by simp; omega) (by simp) ?_)
  intro g cap2 w2 hO hg _ _
  have HO2 : Hid (NsOwn w2 w.heap.size (.slice (some ⟨g, 0, none⟩) (1 + ns.length) cap2) ([⟨op, z4⟩] ++ ns)) := hO
  have HB := hid (((Below.refl w.heap.size w).alloc (Nat.le_refl _) _).trans (HO.out.grown (by simp) hg))
  have HN4 := hid (HN3.out.below HB.out hlt3)
  clear hO hg HO HN HN3
  go_wp2_with (at_builtin; refine wpList_append_at rfl _ _ rfl w.heap.size (.slice (some ⟨g, 0, none⟩) (1 + ns.length) cap2) rfl ([⟨op, z4⟩] ++ ns) HO2.out b3 off3 cap3 ms rfl HN4.out h1 (by simp; omega) HB.out.size ?_)
  intro g2 cap4 w3 hO hg _ _
  have HO3 := hid hO
  have HB3 := hid (HB.out.trans (HO2.out.grown HB.out.size hg))
  clear hO hg
  go_wp2
  go_ret
  exact ⟨_, rfl, HB3.out, HO3.out.isIn (by simp [maxLen]; omega)⟩
end Go.Proofs.YtajkkmnojfghoaaDoor
namespace Go.Proofs.YtajkkmnojfghoaaDoor
set_option linter.unusedSimpArgs false
set_option linter.unusedVariables false
set_option maxRecDepth 100000
open Go.RowKit
set_option maxHeartbeats 1000000 in
theorem ints_len (x y : List Nat) (a1 a2 : Option Addr) (c1 c2 : Nat) (h1 : x.length ≤ maxLen) (h2 : y.length ≤ maxLen) (hne : x.length ≠ y.length) (w : World) :
    Calls Tryd.prog 38 #[.slice a1 x.length c1, .slice a2 y.length c2] w fun e w' => e = .returned (.bool (x == y)) ∧ Below w.heap.size w w' := by
  have e : (x == y) = false := by
    rw [beq_eq_false_iff_ne]
    intro e
    exact hne (by rw [e])
  rw [e]
  have hb : ((x.length : Int) != (y.length : Int)) = true := by rw [bne_iff_ne]; omega
  clear hne e
  go_enter Tryd.func38, Tryd.ntmps38
  go_wp2
  go_ret
  exact ⟨rfl, Below.refl _ _⟩
set_option maxHeartbeats 4000000 in
theorem ints_same (x y : List Nat) (b1 o1 b2 o2 : Nat) (c1 c2 : Nat) (h1 : x.length ≤ maxLen) (hlen : x.length = y.length) (w : World) (hl1 : b1 < w.heap.size) (hl2 : b2 < w.heap.size) (hx : IsAt w b1 o1 x) (hy : IsAt w b2 o2 y) :
    Calls Tryd.prog 38 #[.slice (some ⟨b1, o1, none⟩) x.length c1, .slice (some ⟨b2, o2, none⟩) x.length c2] w fun e w' => e = .returned (.bool (x == y)) ∧ Below w.heap.size w w' := by
  unfold maxLen at h1
  have HL := (show Hid _ from hlen)
  clear hlen
  go_enter Tryd.func38, Tryd.ntmps38
  go_wp2
  go_loopw [5] (fun v wr => ∃ i : Nat, i ≤ x.length ∧ v = .int .i64 i ∧ Hid ((x == y) = (x.drop i == y.drop i)) ∧ Below w.heap.size w wr) (fun v _ => x.length - (intOf v).toNat)
  case atStart => exact ⟨0, by omega, rfl, Eq.refl _, Below.refl _ _⟩
  case round =>
    obtain ⟨i, hi, rfl, HS, hB⟩ := hrel
    by_cases hil : i < x.length
    · obtain ⟨n, hn⟩ : ∃ n, x[i]? = some n := ⟨x[i], List.getElem?_eq_getElem hil⟩
      obtain ⟨m, hm⟩ : ∃ m, y[i]? = some m := ⟨y[i]'(by rw [← HL.out]; exact hil), List.getElem?_eq_getElem (by rw [← HL.out]; exact hil)⟩
      have a0 := (hx.below hB hl1) i n hn
      have d0 := (hy.below hB hl2) i m hm
      have HD : Hid ((x.drop i == y.drop i) = (n == m && x.drop (i + 1) == y.drop (i + 1))) := by show _ = _; rw [drop_at x i n hn, drop_at y i m hm]; rfl
      have i0 : (0 : Int) ≤ (i : Int) := by omega
      have i1 : (i : Int) < (x.length : Int) := by omega
      clear hn hm
      by_cases hq : n = m
      · subst hq
        have HF : Hid ((x == y) = (x.drop (i + 1) == y.drop (i + 1))) := by show _ = _; rw [HS.out, HD.out]; simp
        go_wp2_with fail
        try go_quiet (fail)
        go_wp2
        exact ⟨⟨i + 1, by omega, by go_num, HF, by first | exact hB | exact hB.trans ((below_drewN' wr _).mono hB.size)⟩, by simp [intOf]; omega⟩
      · have HF : Hid ((x == y) = false) := by show _ = _; rw [HS.out, HD.out]; simp [hq]
        have pq : ((n : Int) != (m : Int)) = true := by rw [bne_iff_ne]; omega
        clear hq
        go_wp2_with fail
        try go_quiet (fail)
        go_wp2
        go_ret
        exact ⟨by rw [HF.out]; rfl, by first | exact hB | exact hB.trans ((below_drewN' wr _).mono hB.size)⟩
    · have HF : Hid ((x == y) = true) := by
        show _ = _
        have e1 : x.drop i = [] := List.drop_eq_nil_of_le (by omega)
        have e2 : y.drop i = [] := List.drop_eq_nil_of_le (by have := HL.out; omega)
        rw [HS.out, e1, e2]; rfl
      go_wp2
      go_ret
      exact ⟨by rw [HF.out]; rfl, hB⟩
set_option maxHeartbeats 1000000 in
theorem ints_nil (a1 a2 : Option Addr) (c1 c2 : Nat) (w : World) :
    Calls Tryd.prog 38 #[.slice a1 0 c1, .slice a2 0 c2] w fun e w' => e = .returned (.bool true) ∧ Below w.heap.size w w' := by
  go_enter Tryd.func38, Tryd.ntmps38
  go_wp2
  go_loop [5] (fun v => v = .int .i64 0) (fun _ => 0)
  case atStart => rfl
  case round =>
    subst hrel
    go_wp2
    go_ret
    exact ⟨rfl, Below.refl _ _⟩
theorem ints_any (x y : List Nat) (v u : Value) (w : World) (hx : IsIn w v x) (hy : IsIn w u y) :
    Calls Tryd.prog 38 #[v, u] w fun e w' => e = .returned (.bool (x == y)) ∧ Below w.heap.size w w' := by
  obtain ⟨a1, c1, rfl, h1, hx⟩ := hx
  obtain ⟨a2, c2, rfl, h2, hy⟩ := hy
  by_cases hlen : x.length = y.length
  · rcases hx with hx | ⟨b1, o1, rfl, hl1, hx⟩
    · subst hx
      have : y = [] := List.eq_nil_of_length_eq_zero (by simpa using hlen.symm)
      subst this
      exact ints_nil a1 a2 c1 c2 w
    · rcases hy with hy | ⟨b2, o2, rfl, hl2, hy⟩
      · subst hy
        have : x = [] := List.eq_nil_of_length_eq_zero (by simpa using hlen)
        subst this
        exact ints_nil _ a2 c1 c2 w
      · rw [← hlen]
        exact ints_same x y b1 o1 b2 o2 c1 c2 h1 hlen w hl1 hl2 hx hy
  · exact ints_len x y a1 a2 c1 c2 h1 h2 hlen w
end Go.Proofs.YtajkkmnojfghoaaDoor
namespace Go.Proofs.YtajkkmnojfghoaaDoor
set_option linter.unusedSimpArgs false
set_option linter.unusedVariables false
set_option maxRecDepth 100000
open Go.RowKit

/-- So many parts are missing: how many nodes they are, and whether all are there. -/
def beh : List Nd → Nat → Nat × Bool
  | _, 0 => (0, true)
  | [], _ + 1 => (0, false)
  | n :: r, m + 1 => ((beh r (m + prt n.op)).1 + 1, (beh r (m + prt n.op)).2)
theorem beh_zero (l : List Nd) : beh l 0 = (0, true) := by cases l <;> rfl
theorem beh_flat : ∀ (t : Rx), t.Ok → ∀ (q : List Nd) (m : Nat), beh (t.flat ++ q) (m + 1) = ((beh q m).1 + t.flat.length, (beh q m).2)
  | .leaf n, h, q, m => by
    have h0 : prt n.op = 0 := h
    simp [Rx.flat, beh, h0]
  | .one n a, h, q, m => by
    have ih := beh_flat a h.2 q m
    simp [Rx.flat, beh, h.1, ih]; omega
  | .two n a b, h, q, m => by
    have ih := beh_flat a h.2.1 (b.flat ++ q) (m + 1)
    have ih2 := beh_flat b h.2.2 q m
    rw [ih2] at ih
    simp only [Rx.flat, List.cons_append, List.append_assoc, beh, h.1, ih, List.length_cons, List.length_append]
    refine Prod.ext ?_ rfl
    simp only
    omega
theorem beh_le : ∀ (l : List Nd) (m : Nat), (beh l m).1 ≤ l.length
  | l, 0 => by rw [beh_zero]; simp
  | [], m + 1 => by simp [beh]
  | n :: r, m + 1 => by
    have := beh_le r (m + prt n.op)
    simp [beh]; omega
theorem beh_trees : ∀ (l : List Nd) (m : Nat), (beh l m).2 = true → ∃ (ts : List Rx) (q : List Nd), ts.length = m ∧ (∀ t ∈ ts, t.Ok) ∧ l = (ts.map Rx.flat).flatten ++ q ∧ (beh l m).1 = (ts.map Rx.flat).flatten.length
  | l, 0, h => ⟨[], l, rfl, by simp, by simp, by rw [beh_zero]; rfl⟩
  | [], m + 1, h => by simp [beh] at h
  | n :: r, m + 1, h => by
    simp only [beh] at h
    obtain ⟨ts, q, hl, hok, he, hk⟩ := beh_trees r (m + prt n.op) h
    have hp := prt_le n.op
    have h3 : prt n.op = 0 ∨ prt n.op = 1 ∨ prt n.op = 2 := by omega
    rcases h3 with h0 | h0 | h0
    · refine ⟨.leaf n :: ts, q, by simp; omega, ?_, by simp [he, Rx.flat], by simp [beh, hk, Rx.flat]⟩
      intro t ht
      rcases List.mem_cons.1 ht with rfl | ht
      · exact h0
      · exact hok t ht
    · match ts, hl, hok, he, hk with
      | [], hl, _, _, _ => simp at hl; omega
      | a :: ts, hl, hok, he, hk =>
        refine ⟨.one n a :: ts, q, by simp at hl ⊢; omega, ?_, by simp [he, Rx.flat], by simp [beh, hk, Rx.flat]⟩
        intro t ht
        rcases List.mem_cons.1 ht with rfl | ht
        · exact ⟨h0, hok a (by simp)⟩
        · exact hok t (by simp [ht])
    · match ts, hl, hok, he, hk with
      | [], hl, _, _, _ => simp at hl; omega
      | [a], hl, _, _, _ => simp at hl; omega
      | a :: b :: ts, hl, hok, he, hk =>
        refine ⟨.two n a b :: ts, q, by simp at hl ⊢; omega, ?_, by simp [he, Rx.flat], by simp [beh, hk, Rx.flat]⟩
        intro t ht
        rcases List.mem_cons.1 ht with rfl | ht
        · exact ⟨h0, hok a (by simp), hok b (by simp)⟩
        · exact hok t (by simp [ht])
theorem beh_end (ns : List Nd) (h : (beh ns 1).2 = true) : endE ns 0 = some (beh ns 1).1 := by
  obtain ⟨ts, q, hl, hok, he, hk⟩ := beh_trees ns 1 h
  match ts, hl, hok, he, hk with
  | [t], hl, hok, he, hk =>
    have e : ns = t.flat ++ q := by simpa using he
    have e2 : (beh ns 1).1 = t.flat.length := by simpa using hk
    have := endE_mid t (hok t (by simp)) [] q
    rw [e2, e]
    simpa using this
theorem end_beh (ns : List Nd) (f i j : Nat) (h : endF ns f i = some j) : (beh (ns.drop i) 1).2 = true ∧ i + (beh (ns.drop i) 1).1 = j := by
  obtain ⟨t, ht, q, e, ej⟩ := part_tree ns f i j h
  have := beh_flat t ht q 0
  rw [e, this, beh_zero]
  refine ⟨rfl, ?_⟩
  simp only
  omega
/-- The fault of nodes that are fine one by one. -/
theorem fault_beh (ns : List Nd) (h60 : ¬ 60 < ns.length) (h0 : scanL ns = 0) : faultL ns = if (beh ns 1).2 = true ∧ ns.length ≤ (beh ns 1).1 then 0 else 2 := by
  rw [faultL, if_neg h60, h0, if_neg (by simp)]
  by_cases h : (beh ns 1).2 = true ∧ ns.length ≤ (beh ns 1).1
  · have e := beh_end ns h.1
    have hl := beh_le ns 1
    have e2 : (beh ns 1).1 = ns.length := by omega
    rw [e2] at e
    have hne : ns ≠ [] := by rintro rfl; rw [endE_nil] at e; cases e
    rw [if_pos h, if_neg (by simp [e, hne])]
  · rw [if_neg h, if_pos]
    refine Or.inr fun e => h ?_
    have := end_beh ns _ 0 _ e
    rw [List.drop_zero] at this
    exact ⟨this.1, by omega⟩
/-- Each node of a valid pattern begins a part. -/
theorem tree_sub : ∀ (t : Rx), t.Ok → ∀ i, i < t.flat.length → ∃ s : Rx, s.Ok ∧ ∃ q, t.flat.drop i = s.flat ++ q
  | t, ht, 0, _ => ⟨t, ht, [], by simp⟩
  | .leaf n, ht, i + 1, h => by simp [Rx.flat] at h
  | .one n a, ht, i + 1, h => by
    obtain ⟨s, hs, q, e⟩ := tree_sub a ht.2 i (by simp [Rx.flat] at h; omega)
    exact ⟨s, hs, q, by simpa [Rx.flat] using e⟩
  | .two n a b, ht, i + 1, h => by
    by_cases hi : i < a.flat.length
    · obtain ⟨s, hs, q, e⟩ := tree_sub a ht.2.1 i hi
      refine ⟨s, hs, q ++ b.flat, ?_⟩
      simp only [Rx.flat, List.drop_succ_cons]
      rw [List.drop_append_of_le_length (by omega), e, List.append_assoc]
    · obtain ⟨s, hs, q, e⟩ := tree_sub b ht.2.2 (i - a.flat.length) (by simp [Rx.flat] at h; omega)
      refine ⟨s, hs, q, ?_⟩
      simp only [Rx.flat, List.drop_succ_cons]
      rw [List.drop_append, List.drop_eq_nil_of_le (by omega), List.nil_append, e]
theorem part_at (ns : List Nd) (hv : endE ns 0 = some ns.length) (i : Nat) (hi : i < ns.length) : ∃ j, endE ns i = some j := by
  obtain ⟨t, ht, rfl⟩ := tree_of ns hv
  obtain ⟨s, hs, q, e⟩ := tree_sub t ht i hi
  have h := endE_mid s hs (t.flat.take i) q
  have e1 : (t.flat.take i).length = i := by simp; omega
  have e2 : t.flat.take i ++ s.flat ++ q = t.flat := by rw [List.append_assoc, ← e, List.take_append_drop]
  rw [e1, e2] at h
  exact ⟨_, h⟩
theorem beh_step (ns : List Nd) (i m : Nat) (n : Nd) (hn : ns[i]? = some n) : beh (ns.drop i) (m + 1) = ((beh (ns.drop (i + 1)) (m + prt n.op)).1 + 1, (beh (ns.drop (i + 1)) (m + prt n.op)).2) := by
  have hi : i < ns.length := by
    rcases Nat.lt_or_ge i ns.length with h | h
    · exact h
    · rw [List.getElem?_eq_none h] at hn; cases hn
  rw [List.drop_eq_getElem_cons hi]
  rw [List.getElem?_eq_getElem hi] at hn
  rw [Option.some.inj hn, beh]
end Go.Proofs.YtajkkmnojfghoaaDoor
namespace Go.Proofs.YtajkkmnojfghoaaDoor
set_option linter.unusedSimpArgs false
set_option linter.unusedVariables false
set_option maxRecDepth 100000
open Go.RowKit

set_option maxHeartbeats 400000 in
theorem rparts_any (op : Int) (w : World) :
    Calls Tryd.prog 74 #[.int .i64 op] w fun e w' => e = .returned (.int .i64 (prt op)) ∧ w' = w := by
  by_cases h3 : op = 3
  · subst h3
    go_enter Tryd.func74, Tryd.ntmps74
    go_wp2
    go_ret
    exact ⟨rfl, rfl⟩
  by_cases h4 : op = 4
  · subst h4
    go_enter Tryd.func74, Tryd.ntmps74
    go_wp2
    go_ret
    exact ⟨rfl, rfl⟩
  by_cases h5 : op = 5
  · subst h5
    go_enter Tryd.func74, Tryd.ntmps74
    go_wp2
    go_ret
    exact ⟨rfl, rfl⟩
  by_cases h6 : op = 6
  · subst h6
    go_enter Tryd.func74, Tryd.ntmps74
    go_wp2
    go_ret
    exact ⟨rfl, rfl⟩
  by_cases h7 : op = 7
  · subst h7
    go_enter Tryd.func74, Tryd.ntmps74
    go_wp2
    go_ret
    exact ⟨rfl, rfl⟩
  have b3 : (op == 3) = false := by simp [h3]
  have b4 : (op == 4) = false := by simp [h4]
  have b5 : (op == 5) = false := by simp [h5]
  have b6 : (op == 6) = false := by simp [h6]
  have b7 : (op == 7) = false := by simp [h7]
  have e0 : prt op = 0 := by unfold prt; simp [h3, h4, h5, h6, h7]
  rw [e0]
  clear h3 h4 h5 h6 h7 e0
  go_enter Tryd.func74, Tryd.ntmps74
  go_wp2
  go_ret
  exact ⟨rfl, rfl⟩
set_option maxHeartbeats 1000000 in
theorem behind_at (ns : List Nd) (b off cap i : Nat) (hm : ns.length ≤ maxLen) (hm2 : ns.length ≤ 2 ^ 62) (hi : i ≤ ns.length) (w : World) (hN : NsAt w b off ns) :
    Calls Tryd.prog 54 #[.slice (some ⟨b, off, none⟩) ns.length cap, .int .i64 i] w fun e w' => e = .returned (.tuple #[.int .i64 (i + (beh (ns.drop i) 1).1 : Nat), .bool (beh (ns.drop i) 1).2]) ∧ w' = w := by
  unfold maxLen at hm
  obtain ⟨k, x, HK, HX⟩ : ∃ k x, Hid (i + (beh (ns.drop i) 1).1 = k) ∧ Hid ((beh (ns.drop i) 1).2 = x) := ⟨_, _, Eq.refl _, Eq.refl _⟩
  rw [HK.out, HX.out]
  go_enter Tryd.func54, Tryd.ntmps54
  go_wp2_with fail
  go_loop [1, 6] (fun v u => ∃ (j m : Nat), j ≤ ns.length ∧ m ≤ j + 1 ∧ v = .int .i64 j ∧ u = .int .i64 m ∧ Hid (j + (beh (ns.drop j) m).1 = k) ∧ Hid ((beh (ns.drop j) m).2 = x)) (fun v _ => ns.length - (intOf v).toNat)
  case atStart => exact ⟨i, 1, by omega, by omega, rfl, rfl, HK, HX⟩
  case round =>
    obtain ⟨j, m, hj, hmj, rfl, rfl, H1, H2⟩ := hrel
    clear HK HX
    cases m with
    | zero =>
      rw [beh_zero] at H1 H2
      obtain rfl := H1.out
      obtain rfl := H2.out
      clear H1 H2
      go_wp2
      go_ret2
      exact ⟨rfl, rfl⟩
    | succ m =>
      have m0 : (0 : Int) < ((m + 1 : Nat) : Int) := by omega
      by_cases hl : j < ns.length
      · obtain ⟨n, hn⟩ : ∃ n, ns[j]? = some n := ⟨ns[j], List.getElem?_eq_getElem hl⟩
        obtain ⟨c0, _⟩ := hN j n hn
        have hp := prt_le n.op
        have i0 : (0 : Int) ≤ (j : Int) := by omega
        have i1 : (j : Int) < (ns.length : Int) := by omega
        rw [beh_step ns j m n hn] at H1 H2
        have H3 : Hid (j + 1 + (beh (ns.drop (j + 1)) (m + prt n.op)).1 = k) := by show _ = _; rw [← H1.out]; simp only; omega
        have H4 : Hid ((beh (ns.drop (j + 1)) (m + prt n.op)).2 = x) := H2.out
        clear hn H1 H2
        go_wp2_with fail
        refine (rparts_any _ _).mono ?_
        rintro e w1 ⟨rfl, rfl⟩
        generalize prt n.op = pr at *
        go_wp2
        refine ⟨⟨j + 1, m + pr, by omega, by omega, by go_num, ?_, H3, H4⟩, by simp [intOf]; omega⟩
        rw [show (m : Int) + 1 + ((pr : Int) - 1) = ((m + pr : Nat) : Int) from by omega]
      · have hj2 : j = ns.length := by omega
        have i1 : ¬ (j : Int) < (ns.length : Int) := by omega
        have d0 : ns.drop j = [] := List.drop_eq_nil_of_le (by omega)
        rw [d0] at H1 H2
        obtain rfl := H1.out
        obtain rfl := H2.out
        have m1 : (((m + 1 : Nat) : Int) == 0) = false := by rw [beq_eq_false_iff_ne]; omega
        clear H1 H2
        go_wp2
        go_ret2
        exact ⟨rfl, rfl⟩
theorem behind_any (ns : List Nd) (v : Value) (i : Nat) (w : World) (hN : NsIn w v ns) (hm2 : ns.length ≤ 2 ^ 62) (hi : i < ns.length) :
    Calls Tryd.prog 54 #[v, .int .i64 i] w fun e w' => e = .returned (.tuple #[.int .i64 (i + (beh (ns.drop i) 1).1 : Nat), .bool (beh (ns.drop i) 1).2]) ∧ w' = w := by
  obtain ⟨a, cap, rfl, hm, h | ⟨b, off, rfl, hlt, hn⟩⟩ := hN
  · subst h
    simp at hi
  · exact behind_at ns b off cap i hm hm2 (by omega) w hn
set_option maxHeartbeats 1000000 in
theorem behind_nil (a : Option Addr) (cap : Nat) (w : World) :
    Calls Tryd.prog 54 #[.slice a 0 cap, .int .i64 0] w fun e w' => e = .returned (.tuple #[.int .i64 0, .bool false]) ∧ w' = w := by
  go_enter Tryd.func54, Tryd.ntmps54
  go_wp2_with fail
  go_loop [1, 6] (fun v u => v = .int .i64 0 ∧ u = .int .i64 1) (fun _ _ => 0)
  case atStart => exact ⟨rfl, rfl⟩
  case round =>
    obtain ⟨rfl, rfl⟩ := hrel
    go_wp2
    go_ret2
    exact ⟨rfl, rfl⟩
set_option maxHeartbeats 1000000 in
theorem checkNode_any (n : Nd) (w : World) :
    Calls Tryd.prog 53 #[n.v] w fun e w' => e = .returned (errV (scanL [n])) ∧ Below w.heap.size w w' := by
  by_cases h1 : n.op < 1
  · have HF : Hid (scanL [n] = 1) := by show _ = _; rw [scanL, if_pos (Or.inl h1)]
    go_enter Tryd.func53, Tryd.ntmps53
    go_wp2
    go_ret
    exact ⟨by rw [HF.out]; rfl, Below.alloc (Below.refl _ _) (Nat.le_refl _) _⟩
  by_cases h9 : 9 < n.op
  · have HF : Hid (scanL [n] = 1) := by show _ = _; rw [scanL, if_pos (Or.inr h9)]
    go_enter Tryd.func53, Tryd.ntmps53
    go_wp2
    go_ret
    exact ⟨by rw [HF.out]; rfl, Below.alloc (Below.refl _ _) (Nat.le_refl _) _⟩
  by_cases hb : n.op = 1
  · have HF : Hid (scanL [n] = 0) := by show _ = _; rw [scanL, if_neg (by omega), if_neg (by simp [hb])]; rfl
    have hb2 : (n.op != 1) = false := by simp [hb]
    clear hb
    go_enter Tryd.func53, Tryd.ntmps53
    go_wp2
    go_ret
    exact ⟨by rw [HF.out]; rfl, Below.alloc (Below.refl _ _) (Nat.le_refl _) _⟩
  have hb2 : (n.op != 1) = true := by simp [hb]
  by_cases hz : n.c.eqb z4 = true
  · have HF : Hid (scanL [n] = 0) := by show _ = _; rw [scanL, if_neg (by omega), if_neg (by simp [hz])]; rfl
    clear hb
    have he : ∀ w, (Op.equalIn 10000 24 (.agg #[.int .u64 n.c.a, .int .u64 n.c.b, .int .u64 n.c.c, .int .u64 n.c.d]) (.agg #[.int .u64 0, .int .u64 0, .int .u64 0, .int .u64 0])).run Tryd.prog w = .ok true w := fun w => (eq4 n.c z4 w).trans (by rw [hz])
    go_enter Tryd.func53, Tryd.ntmps53
    go_wp2
    go_ret
    exact ⟨by rw [HF.out]; rfl, Below.alloc (Below.refl _ _) (Nat.le_refl _) _⟩
  · have HF : Hid (scanL [n] = 2) := by show _ = _; rw [scanL, if_neg (by omega), if_pos ⟨hb, hz⟩]
    clear hb
    have he : ∀ w, (Op.equalIn 10000 24 (.agg #[.int .u64 n.c.a, .int .u64 n.c.b, .int .u64 n.c.c, .int .u64 n.c.d]) (.agg #[.int .u64 0, .int .u64 0, .int .u64 0, .int .u64 0])).run Tryd.prog w = .ok false w := fun w => (eq4 n.c z4 w).trans (by rw [Bool.eq_false_iff.2 hz])
    go_enter Tryd.func53, Tryd.ntmps53
    go_wp2
    go_ret
    exact ⟨by rw [HF.out]; rfl, Below.alloc (Below.refl _ _) (Nat.le_refl _) _⟩
end Go.Proofs.YtajkkmnojfghoaaDoor
namespace Go.Proofs.YtajkkmnojfghoaaDoor
set_option linter.unusedSimpArgs false
set_option linter.unusedVariables false
set_option maxRecDepth 100000
open Go.RowKit

theorem scan_one (n : Nd) : scanL [n] = if n.op < 1 ∨ 9 < n.op then 1 else if ¬ n.op = 1 ∧ ¬ n.c.eqb z4 = true then 2 else 0 := by
  rw [scanL]; rfl
set_option maxHeartbeats 4000000 in
theorem check_at (ns : List Nd) (b off cap : Nat) (hm : ns.length ≤ maxLen) (w : World) (hlt : b < w.heap.size) (hN : NsAt w b off ns) (h0 : 0 < ns.length) :
    Calls Tryd.prog 26 #[.slice (some ⟨b, off, none⟩) ns.length cap] w fun e w' => e = .returned (errV (faultL ns)) ∧ Below w.heap.size w w' := by
  have HM := (show Hid _ from hm)
  unfold maxLen at hm
  by_cases h60 : 60 < ns.length
  · have g60 : (60 : Int) < (ns.length : Int) := by omega
    have HF : Hid (faultL ns = 3) := by show _ = _; rw [faultL, if_pos h60]
    go_enter Tryd.func26, Tryd.ntmps26
    go_wp2
    go_ret
    exact ⟨by rw [HF.out]; rfl, Below.refl _ _⟩
  · have g60 : ¬ (60 : Int) < (ns.length : Int) := by omega
    go_enter Tryd.func26, Tryd.ntmps26
    go_wp2
    go_loopw [14] (fun v wr => ∃ i : Nat, i ≤ ns.length ∧ v = .int .i64 i ∧ Hid (scanL ns = scanL (ns.drop i)) ∧ Below w.heap.size w wr) (fun v _ => ns.length - (intOf v).toNat)
    case atStart => exact ⟨0, by omega, rfl, Eq.refl _, Below.refl _ _⟩
    case round =>
      obtain ⟨i, hi, rfl, HS, hB⟩ := hrel
      have hNr := hN.below hB hlt
      by_cases hil : i < ns.length
      · obtain ⟨n, hn⟩ : ∃ n, ns[i]? = some n := ⟨ns[i], List.getElem?_eq_getElem hil⟩
        obtain ⟨c0, c1, c2, c3, c4⟩ := hNr i n hn
        have HD : Hid _ := scan_drop ns i n hn
        have H1 : Hid _ := scan_one n
        have i0 : (0 : Int) ≤ (i : Int) := by omega
        have i1 : (i : Int) < (ns.length : Int) := by omega
        clear hn
        have hcn := checkNode_any n
        go_wp2_with fail
        refine (hcn _).mono ?_
        rintro e w1 ⟨rfl, hb1⟩
        have hB1 : Below w.heap.size w w1 := hB.trans ((Below.alloc (Below.refl _ _) (Nat.le_refl _) _).trans (hb1.mono (by simp)) |>.mono hB.size)
        clear hb1 hcn
        by_cases hs : scanL [n] = 0
        · have HS2 : Hid (scanL ns = scanL (ns.drop (i + 1))) := by
            show _ = _
            rw [HS.out, HD.out]
            rw [H1.out] at hs
            split
            · rename_i h; rw [if_pos h] at hs; cases hs
            · rename_i h
              rw [if_neg h] at hs
              split
              · rename_i h2; rw [if_pos h2] at hs; cases hs
              · rfl
          rw [hs, show errV 0 = .nilIface from rfl]
          clear hs HD H1 HS
          go_wp2
          exact ⟨⟨i + 1, by omega, by go_num, HS2, hB1⟩, by simp [intOf]; omega⟩
        · have HF : Hid (faultL ns = scanL [n]) := by
            show _ = _
            have e1 : scanL ns = scanL [n] := by
              rw [HS.out, HD.out]
              rw [H1.out] at hs ⊢
              split
              · rfl
              · rename_i h
                rw [if_neg h] at hs
                split
                · rfl
                · rename_i h2; rw [if_neg h2] at hs; exact absurd rfl hs
            rw [faultL, if_neg h60, e1, if_pos hs]
          rw [show errV (scanL [n]) = .iface 25 (.int .i64 (scanL [n])) from if_neg hs]
          have HE : Hid (errV (faultL ns) = .iface 25 (.int .i64 (scanL [n]))) := by show _ = _; rw [HF.out]; exact if_neg hs
          clear hs HD H1 HS HF
          generalize scanL [n] = er at *
          go_wp2
          go_ret
          exact ⟨by rw [HE.out]; rfl, hB1⟩
      · have hi2 : i = ns.length := by omega
        have e0 : scanL ns = 0 := by rw [HS.out, List.drop_eq_nil_of_le (by omega)]; rfl
        have HF : Hid _ := fault_beh ns h60 e0
        have HC : Hid (Calls Tryd.prog 54 #[.slice (some ⟨b, off, none⟩) ns.length cap, .int .i64 0] wr fun e w' => e = .returned (.tuple #[.int .i64 ((beh ns 1).1 : Nat), .bool (beh ns 1).2]) ∧ w' = wr) := by
          have := behind_at ns b off cap 0 HM.out (by omega) (by omega) wr hNr
          rw [List.drop_zero, Nat.zero_add] at this
          exact this
        subst hi2
        have hkl := beh_le ns 1
        clear e0 HS
        generalize beh ns 1 = x at *
        obtain ⟨k, y⟩ := x
        simp only at HC HF hkl
        go_wp2_with fail
        refine HC.out.mono ?_
        rintro e w1 ⟨rfl, rfl⟩
        cases y with
        | false =>
          have HF2 : Hid (faultL ns = 2) := by show _ = _; rw [HF.out]; rfl
          clear HF HC
          go_wp2
          go_ret
          exact ⟨by rw [HF2.out]; rfl, hB⟩
        | true =>
          by_cases hk : k < ns.length
          · have HF2 : Hid (faultL ns = 2) := by show _ = _; rw [HF.out, if_neg (by simp; omega)]
            have hk2 : (k : Int) < (ns.length : Int) := by omega
            clear HF HC
            go_wp2
            go_ret
            exact ⟨by rw [HF2.out]; rfl, hB⟩
          · have HF2 : Hid (faultL ns = 0) := by show _ = _; rw [HF.out, if_pos (by simp; omega)]
            have hk2 : ¬ (k : Int) < (ns.length : Int) := by omega
            clear HF HC
            go_wp2
            go_ret
            exact ⟨by rw [HF2.out]; rfl, hB⟩
set_option maxHeartbeats 1000000 in
theorem check_nil (a : Option Addr) (cap : Nat) (w : World) :
    Calls Tryd.prog 26 #[.slice a 0 cap] w fun e w' => e = .returned (errV 2) ∧ Below w.heap.size w w' := by
  go_enter Tryd.func26, Tryd.ntmps26
  go_wp2_with fail
  go_loop [14] (fun v => v = .int .i64 0) (fun _ => 0)
  case atStart => rfl
  case round =>
    subst hrel
    go_wp2_with fail
    refine (behind_nil a cap w).mono ?_
    rintro e w1 ⟨rfl, rfl⟩
    go_wp2
    go_ret
    exact ⟨rfl, Below.refl _ _⟩
theorem rcheck_any (ns : List Nd) (v : Value) (w : World) (hN : NsIn w v ns) :
    Calls Tryd.prog 26 #[v] w fun e w' => e = .returned (errV (faultL ns)) ∧ Below w.heap.size w w' := by
  obtain ⟨a, cap, rfl, hm, h | ⟨b, off, rfl, hlt, hn⟩⟩ := hN
  · subst h
    exact check_nil a cap w
  · by_cases h0 : 0 < ns.length
    · exact check_at ns b off cap hm w hlt hn h0
    · have : ns = [] := List.eq_nil_of_length_eq_zero (by omega)
      subst this
      exact check_nil _ cap w
end Go.Proofs.YtajkkmnojfghoaaDoor

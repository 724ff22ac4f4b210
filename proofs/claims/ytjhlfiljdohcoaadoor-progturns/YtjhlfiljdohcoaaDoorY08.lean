/- The landed prog: Of. Package rex: turnedNode, appendTurned, Turn. Small facts on lists of nodes in memory. The landed package rex: Turn. What is turned may be. What winnowfansame.Ints answers. -/
import Derived.Test.YtjhlfiljdohcoaaDoorY07
import Derived.Test.YtjhlfiljdohcoaaDoorY06
import Derived.Test.YtjhlfiljdohcoaaDoorY02
import Derived.Test.YtjhlfiljdohcoaaDoorY04
namespace Go.Proofs.YtjhlfiljdohcoaaDoor
set_option linter.unusedSimpArgs false
set_option linter.unusedVariables false
set_option maxRecDepth 100000
open Go.RowKit
theorem pof_bad (ns : List Nd) (v : Value) (w : World) (h : NsIn w v ns) (hf : ¬ faultL ns = 0) :
    Calls Tryd.prog 7 #[v] w fun e w' => ∃ a cap, e = .returned (.tuple #[.slice a 0 cap, errV (faultL ns)]) ∧ Below w.heap.size w w' := by
  have HC := hid (rcheck_any ns v w h)
  have e0 : errV (faultL ns) = .iface 45 (.int .i64 (faultL ns)) := by unfold errV; rw [if_neg hf]
  rw [e0] at HC
  have HE := hid e0
  clear h e0
  go_enter Tryd.func7, Tryd.ntmps7
  go_wp2_with fail
  refine Calls.mono HC.out ?_
  rintro e w1 ⟨rfl, hb1⟩
  have HB := hid hb1
  clear hb1 HC
  go_wp2
  go_ret2
  exact ⟨none, 0, by rw [HE.out]; rfl, HB.out⟩
set_option maxHeartbeats 2000000 in
theorem pof_tree (t : Rx) (ht : t.Ok) (v : Value) (w : World) (h : NsIn w v t.flat) (hf : faultL t.flat = 0) :
    Calls Tryd.prog 7 #[v] w fun e w' => ∃ u, e = .returned (.tuple #[u, .nilIface]) ∧ SsIn w' u t.prog ∧ Below w.heap.size w w' := by
  have HC := hid (rcheck_any t.flat v w h)
  rw [hf] at HC
  have e0 : errV 0 = .nilIface := rfl
  rw [e0] at HC
  clear e0
  obtain ⟨hl, hop, -⟩ := (faultL_zero t.flat).1 hf
  have hpos := t.flat_pos
  obtain ⟨a, cap, rfl, hm, h | ⟨b, off, rfl, hlt, hN⟩⟩ := h
  · rw [h] at hpos; simp at hpos
  have hcl := t.cod_len 0
  have HP := hid (bpart_tree b off cap t ht [] [] (fun n hn => (hop n hn).1) (by simpa using hl))
  rw [show ([] : List Nd) ++ t.flat ++ [] = t.flat from by simp] at HP
  have HN := hid hN
  clear hN hop hf hm
  go_enter Tryd.func7, Tryd.ntmps7
  go_wp2_with fail
  refine Calls.mono HC.out ?_
  rintro e w1 ⟨rfl, hb1⟩
  have HB1 := hid hb1
  clear hb1 HC
  go_wp2_with fail
  obtain ⟨o, ho⟩ : ∃ o : Obj, o = .cells #[.slice (some ⟨b, off, none⟩) t.flat.length cap, .slice none 0 0] 61 := ⟨_, rfl⟩
  have hBB : BB (w1.alloc o) w1.heap.size (.slice (some ⟨b, off, none⟩) t.flat.length cap) [] := by
    refine ⟨.slice none 0 0, ?_, ⟨rfl, Or.inl ⟨rfl, rfl⟩⟩⟩
    show (w1.alloc o).heap[w1.heap.size]? = _
    rw [ho]
    exact heap_alloc_new w1 _
  have hb1 : b < w1.heap.size := Nat.lt_of_lt_of_le hlt HB1.out.size
  have hN1 : NsAt (w1.alloc o) b off t.flat := (HN.out.below HB1.out hlt).below ((Below.refl _ _).alloc (Nat.le_refl _) _) hb1
  have HP1 := hid (HP.out w1.heap.size [] (w1.alloc o) hBB hb1 hN1 (by simp; omega))
  rw [← ho]
  clear hBB hN1 ho HN HP
  refine Calls.mono HP1.out ?_
  rintro e w2 ⟨rfl, h2, hb2⟩
  have HA := hid (add_any _ _ _ stD w2 h2 (by simp; omega))
  have HB2 : Hid (Below w1.heap.size w1 w2) := ((Below.refl _ _).alloc (Nat.le_refl _) o).trans hb2
  clear h2 hb2 HP1
  go_wp2_with fail
  refine Calls.mono HA.out ?_
  rintro e w3 ⟨rfl, h3, hb3⟩
  have HB3 : Hid (Below w.heap.size w w3) := HB1.out.trans ((HB2.out.trans hb3).mono HB1.out.size)
  obtain ⟨sv, hbl, hso⟩ := h3.of
  obtain ⟨c0, c1, f1⟩ := hbl.all
  have HI : Hid (SsIn w3 sv t.prog) := by
    show SsIn w3 sv t.prog
    have := hso.isIn (by unfold maxLen; simp; omega)
    simpa [Rx.prog] using this
  obtain ⟨a3, cap3, hsv⟩ := hso.len
  rw [show (([] : List St) ++ t.cod ([] : List St).length ++ [stD]).length = (t.cod 0).length + 1 from by simp] at hsv
  subst hsv
  clear h3 hb3 hbl hso HB2 HB1 HA
  go_wp2
  go_ret2
  exact ⟨_, rfl, HI.out, HB3.out⟩
theorem pof_any (ns : List Nd) (v : Value) (w : World) (h : NsIn w v ns) (hf : faultL ns = 0) :
    Calls Tryd.prog 7 #[v] w fun e w' => ∃ a len cap, e = .returned (.tuple #[.slice a len cap, .nilIface]) ∧ Below w.heap.size w w' := by
  obtain ⟨t, ht, rfl⟩ := tree_of ns ((faultL_zero ns).1 hf).2.2
  refine (pof_tree t ht v w h hf).mono ?_
  rintro e w' ⟨u, rfl, hu, hb⟩
  obtain ⟨a, cap, rfl, _⟩ := ssIn_form hu
  exact ⟨a, _, cap, rfl, hb⟩
end Go.Proofs.YtjhlfiljdohcoaaDoor
namespace Go.Proofs.YtjhlfiljdohcoaaDoor
set_option linter.unusedSimpArgs false
set_option linter.unusedVariables false
set_option maxRecDepth 100000
open Go.RowKit

set_option maxHeartbeats 1000000 in
theorem turnedNode_any (n : Nd) (w : World) :
    Calls Tryd.prog 59 #[n.v] w fun e w' => e = .returned n.flip.v ∧ Below w.heap.size w w' := by
  obtain ⟨op, c⟩ := n
  by_cases h8 : op = 8
  · subst h8
    go_enter Tryd.func59, Tryd.ntmps59
    go_wp2
    refine bodyPost_ret (v := (Nd.flip ⟨8, c⟩).v) (by simp [results, Tryd.results59, go_sem, Nd.flip, flipOp]) rfl ⟨rfl, ?_⟩
    exact ((Below.refl _ _).alloc (Nat.le_refl _) _).alloc (by simp) _
  by_cases h9 : op = 9
  · subst h9
    go_enter Tryd.func59, Tryd.ntmps59
    go_wp2
    refine bodyPost_ret (v := (Nd.flip ⟨9, c⟩).v) (by simp [results, Tryd.results59, go_sem, Nd.flip, flipOp]) rfl ⟨rfl, ?_⟩
    exact ((Below.refl _ _).alloc (Nat.le_refl _) _).alloc (by simp) _
  have p8 : (op == 8) = false := by simp [h8]
  have p9 : (op == 9) = false := by simp [h9]
  have HF : Hid (Nd.flip ⟨op, c⟩ = ⟨op, c⟩) := by show _ = _; simp [Nd.flip, flipOp, h8, h9]
  rw [HF.out]
  clear h8 h9
  go_enter Tryd.func59, Tryd.ntmps59
  go_wp2
  refine bodyPost_ret (v := (Nd.mk op c).v) (by simp [results, Tryd.results59, go_sem]) rfl ⟨rfl, ?_⟩
  exact ((Below.refl _ _).alloc (Nat.le_refl _) _).alloc (by simp) _
def ndObj (op : Int) (c : C4) : Obj := .cells #[.int .i64 op, .int .u64 c.a, .int .u64 c.b, .int .u64 c.c, .int .u64 c.d] 33 (0, 0)
/-- The world ahead of the append. -/
structure AppSet (B : Nat) (w : World) (v : Value) (ms : List Nd) (n : Nd) (w2 : World) (g : Nat) : Prop where
  b : Below B w w2
  s : B ≤ w2.heap.size
  o : NsOwn w2 B v ms
  c : ∀ j u, (nsCells [n.flip])[j]? = some u → w2.cell? ⟨g, j, none⟩ = some u
  own : ∀ k, v.ownBlock = some k → B ≤ k
theorem app_set {B : Nat} {w w1 : World} {v : Value} {ms : List Nd} {n : Nd} (hB : B ≤ w.heap.size) (hO : NsOwn w B v ms) (h1 : Below w.heap.size w w1) : AppSet B w v ms n (w1.alloc (ndObj n.flip.op n.flip.c)) w1.heap.size := by
  have hs := h1.size
  have b2 : Below w.heap.size w (w1.alloc (ndObj n.flip.op n.flip.c)) := h1.alloc hs _
  have e : (w1.alloc (ndObj n.flip.op n.flip.c)).heap[w1.heap.size]? = some (ndObj n.flip.op n.flip.c) := by show (w1.heap.push _)[w1.heap.size]? = _; simp
  refine ⟨b2.mono hB, ?_, hO.below b2, ?_, ?_⟩
  · have := b2.size; omega
  · intro j u hj
    rw [Lib.cell_of_heap e]
    simp only [nsCells, List.append_nil] at hj
    simpa using hj
  · intro k hk
    rcases hO.2 with ⟨hv, _⟩ | ⟨g, cap, cur, hv, hg, _⟩
    · rw [hv] at hk; cases hk
    · rw [hv] at hk
      injection hk with hk
      simp only at hk
      omega
/-- The contract of a call at i: what is turned stands behind what was there. -/
def AppOk (ns : List Nd) (b off cap i : Nat) (t : List Nd) : Prop := ∀ (B : Nat) (w : World) (v : Value) (ms : List Nd), b < B → B ≤ w.heap.size → NsAt w b off ns → NsOwn w B v ms → ms.length + t.length ≤ 60 →
  Calls Tryd.prog 34 #[v, .slice (some ⟨b, off, none⟩) ns.length cap, .int .i64 i] w fun e w' => ∃ u, e = .returned u ∧ Below B w w' ∧ NsOwn w' B u (ms ++ t)
set_option maxHeartbeats 4000000 in
theorem app_leaf (ns : List Nd) (b off cap : Nat) (hm : ns.length ≤ 60) (i : Nat) (n : Nd) (hn : ns[i]? = some n) (h0 : prt n.op = 0) : AppOk ns b off cap i [n.flip] := by
  intro B w v ms hb hB hN hO h60
  have hil : i < ns.length := by
    rcases Nat.lt_or_ge i ns.length with h' | h'
    · exact h'
    · rw [List.getElem?_eq_none h'] at hn; cases hn
  obtain ⟨c0, c1, c2, c3, c4⟩ := hN i n hn
  have i0 : (0 : Int) ≤ (i : Int) := by omega
  have i1 : (i : Int) < (ns.length : Int) := by omega
  have CT : Hid _ := turnedNode_any n
  have A1 : Hid (∀ w1, Below w.heap.size w w1 → AppSet B w v ms n (w1.alloc (ndObj n.flip.op n.flip.c)) w1.heap.size) := fun w1 h1 => app_set hB hO h1
  have A2 : Hid (∀ w3, Below B w w3 → NsAt w3 b off ns) := fun w3 h3 => hN.below h3 hb
  have A3 : Hid (∀ w3, Below B w w3 → w3.cell? ⟨b, off + i * 5, none⟩ = some (.int .i64 n.op)) := fun w3 h3 => ((hN.below h3 hb) i n hn).1
  have p3 : (n.op == 3) = false := by rw [beq_eq_false_iff_ne]; intro e; rw [e] at h0; simp [prt] at h0
  have p4 : (n.op == 4) = false := by rw [beq_eq_false_iff_ne]; intro e; rw [e] at h0; simp [prt] at h0
  have p5 : (n.op == 5) = false := by rw [beq_eq_false_iff_ne]; intro e; rw [e] at h0; simp [prt] at h0
  have p6 : (n.op == 6) = false := by rw [beq_eq_false_iff_ne]; intro e; rw [e] at h0; simp [prt] at h0
  have p7 : (n.op == 7) = false := by rw [beq_eq_false_iff_ne]; intro e; rw [e] at h0; simp [prt] at h0
  have H60 : Hid _ := h60
  clear hn h0 hO hN h60
  go_enter Tryd.func34, Tryd.ntmps34
  go_wp2_with fail
  refine Calls.mono (CT.out _) ?_
  rintro e w1 ⟨rfl, hb1⟩
  have S1 : Hid _ := A1.out w1 hb1
  clear hb1
  go_wp2_with (at_builtin; refine wpList_append_ns (by rfl) _ _ (by rfl) B _ (by rfl) ms S1.out.o w1.heap.size _ _ _ (by rfl) (by rfl) S1.out.c (by simp) (by have := H60.out; simp at this ⊢; omega) S1.out.s ?_; intro g3 cap3 w3 ho3 hg3 hb3 hl3; have O3 : Hid _ := ho3; have B3 : Hid (Below B w w3) := S1.out.b.grown hg3 S1.out.s S1.out.own; have q3 := A3.out w3 B3.out; clear ho3 hg3 hb3 hl3)
  go_ret
  exact ⟨_, rfl, B3.out, O3.out⟩
theorem own_len (ms : List Nd) (n : Nd) : (ms ++ [n]).length = ms.length + 1 := by simp
set_option maxHeartbeats 4000000 in
theorem app_one (ns : List Nd) (b off cap : Nat) (hm : ns.length ≤ 60) (i : Nat) (n : Nd) (hn : ns[i]? = some n) (h0 : prt n.op = 1) (t : List Nd) (ht : AppOk ns b off cap (i + 1) t) : AppOk ns b off cap i (n.flip :: t) := by
  intro B w v ms hb hB hN hO h60
  have hil : i < ns.length := by
    rcases Nat.lt_or_ge i ns.length with h' | h'
    · exact h'
    · rw [List.getElem?_eq_none h'] at hn; cases hn
  obtain ⟨c0, c1, c2, c3, c4⟩ := hN i n hn
  have i0 : (0 : Int) ≤ (i : Int) := by omega
  have i1 : (i : Int) < (ns.length : Int) := by omega
  have CT : Hid _ := turnedNode_any n
  have A1 : Hid (∀ w1, Below w.heap.size w w1 → AppSet B w v ms n (w1.alloc (ndObj n.flip.op n.flip.c)) w1.heap.size) := fun w1 h1 => app_set hB hO h1
  have A2 : Hid (∀ w3, Below B w w3 → NsAt w3 b off ns) := fun w3 h3 => hN.below h3 hb
  have A3 : Hid (∀ w3, Below B w w3 → w3.cell? ⟨b, off + i * 5, none⟩ = some (.int .i64 n.op)) := fun w3 h3 => ((hN.below h3 hb) i n hn).1
  have C1 : Hid (∀ w3 u, Below B w w3 → NsOwn w3 B u (ms ++ [n.flip]) → Calls Tryd.prog 34 #[u, .slice (some ⟨b, off, none⟩) ns.length cap, .int .i64 ((i : Int) + 1)] w3 fun e w' => ∃ u, e = .returned u ∧ Below B w3 w' ∧ NsOwn w' B u (ms ++ (n.flip :: t))) := by
    intro w3 u h3 ho
    have := ht B w3 u (ms ++ [n.flip]) hb (Nat.le_trans hB h3.size) (A2.out w3 h3) ho (by simp at h60 ⊢; omega)
    rw [arg_succ, List.append_assoc] at this
    exact this
  have H60 : Hid (ms.length + [n.flip].length ≤ 60) := by show _ ≤ _; simp at h60 ⊢; omega
  have h3 := (prt_one n.op).1 h0
  obtain ⟨op, c⟩ := n
  simp only at *
  clear hn h0 hO hN h60 ht A2
  rcases h3 with rfl | rfl | rfl
  · go_enter Tryd.func34, Tryd.ntmps34
    go_wp2_with fail
    refine Calls.mono (CT.out _) ?_
    rintro e w1 ⟨rfl, hb1⟩
    have S1 : Hid _ := A1.out w1 hb1
    clear hb1
    go_wp2_with (at_builtin; refine wpList_append_ns (by rfl) _ _ (by rfl) B _ (by rfl) ms S1.out.o w1.heap.size _ _ _ (by rfl) (by rfl) S1.out.c (by simp) (by have := H60.out; simp at this ⊢; omega) S1.out.s ?_; intro g3 cap3 w3 ho3 hg3 hb3 hl3; have O3 : Hid _ := ho3; have B3 : Hid (Below B w w3) := S1.out.b.grown hg3 S1.out.s S1.out.own; have q3 := A3.out w3 B3.out; clear ho3 hg3 hb3 hl3)
    refine Calls.mono (C1.out _ _ B3.out O3.out) ?_
    rintro e w4 ⟨u, rfl, h4, o4⟩
    have B4 : Hid _ := And.intro h4 o4
    clear h4 o4
    go_wp2
    go_ret
    exact ⟨_, rfl, B3.out.trans B4.out.1, B4.out.2⟩
  · go_enter Tryd.func34, Tryd.ntmps34
    go_wp2_with fail
    refine Calls.mono (CT.out _) ?_
    rintro e w1 ⟨rfl, hb1⟩
    have S1 : Hid _ := A1.out w1 hb1
    clear hb1
    go_wp2_with (at_builtin; refine wpList_append_ns (by rfl) _ _ (by rfl) B _ (by rfl) ms S1.out.o w1.heap.size _ _ _ (by rfl) (by rfl) S1.out.c (by simp) (by have := H60.out; simp at this ⊢; omega) S1.out.s ?_; intro g3 cap3 w3 ho3 hg3 hb3 hl3; have O3 : Hid _ := ho3; have B3 : Hid (Below B w w3) := S1.out.b.grown hg3 S1.out.s S1.out.own; have q3 := A3.out w3 B3.out; clear ho3 hg3 hb3 hl3)
    refine Calls.mono (C1.out _ _ B3.out O3.out) ?_
    rintro e w4 ⟨u, rfl, h4, o4⟩
    have B4 : Hid _ := And.intro h4 o4
    clear h4 o4
    go_wp2
    go_ret
    exact ⟨_, rfl, B3.out.trans B4.out.1, B4.out.2⟩
  · go_enter Tryd.func34, Tryd.ntmps34
    go_wp2_with fail
    refine Calls.mono (CT.out _) ?_
    rintro e w1 ⟨rfl, hb1⟩
    have S1 : Hid _ := A1.out w1 hb1
    clear hb1
    go_wp2_with (at_builtin; refine wpList_append_ns (by rfl) _ _ (by rfl) B _ (by rfl) ms S1.out.o w1.heap.size _ _ _ (by rfl) (by rfl) S1.out.c (by simp) (by have := H60.out; simp at this ⊢; omega) S1.out.s ?_; intro g3 cap3 w3 ho3 hg3 hb3 hl3; have O3 : Hid _ := ho3; have B3 : Hid (Below B w w3) := S1.out.b.grown hg3 S1.out.s S1.out.own; have q3 := A3.out w3 B3.out; clear ho3 hg3 hb3 hl3)
    refine Calls.mono (C1.out _ _ B3.out O3.out) ?_
    rintro e w4 ⟨u, rfl, h4, o4⟩
    have B4 : Hid _ := And.intro h4 o4
    clear h4 o4
    go_wp2
    go_ret
    exact ⟨_, rfl, B3.out.trans B4.out.1, B4.out.2⟩
set_option maxHeartbeats 4000000 in
theorem app_cat (ns : List Nd) (b off cap : Nat) (hm : ns.length ≤ 60) (i : Nat) (n : Nd) (hn : ns[i]? = some n) (h0 : n.op = 3) (k : Nat) (t u : List Nd) (ht : AppOk ns b off cap (i + 1) t) (hu : AppOk ns b off cap k u)
    (hE : ∀ w : World, NsAt w b off ns → Calls Tryd.prog 46 #[.slice (some ⟨b, off, none⟩) ns.length cap, .int .i64 (i + 1 : Nat)] w fun e w' => e = .returned (.tuple #[.int .i64 k, .bool true]) ∧ w' = w) : AppOk ns b off cap i (n.flip :: (u ++ t)) := by
  intro B w v ms hb hB hN hO h60
  have hil : i < ns.length := by
    rcases Nat.lt_or_ge i ns.length with h' | h'
    · exact h'
    · rw [List.getElem?_eq_none h'] at hn; cases hn
  obtain ⟨c0, c1, c2, c3, c4⟩ := hN i n hn
  have i0 : (0 : Int) ≤ (i : Int) := by omega
  have i1 : (i : Int) < (ns.length : Int) := by omega
  have CT : Hid _ := turnedNode_any n
  have A1 : Hid (∀ w1, Below w.heap.size w w1 → AppSet B w v ms n (w1.alloc (ndObj n.flip.op n.flip.c)) w1.heap.size) := fun w1 h1 => app_set hB hO h1
  have A2 : Hid (∀ w3, Below B w w3 → NsAt w3 b off ns) := fun w3 h3 => hN.below h3 hb
  have A3 : Hid (∀ w3, Below B w w3 → w3.cell? ⟨b, off + i * 5, none⟩ = some (.int .i64 n.op)) := fun w3 h3 => ((hN.below h3 hb) i n hn).1
  have C1 : Hid (∀ w3 u0, Below B w w3 → NsOwn w3 B u0 (ms ++ [n.flip]) → Calls Tryd.prog 34 #[u0, .slice (some ⟨b, off, none⟩) ns.length cap, .int .i64 (k : Int)] w3 fun e w' => ∃ u0, e = .returned u0 ∧ Below B w3 w' ∧ NsOwn w' B u0 (ms ++ [n.flip] ++ u)) := by
    intro w3 u0 h3 ho
    have := hu B w3 u0 (ms ++ [n.flip]) hb (Nat.le_trans hB h3.size) (A2.out w3 h3) ho (by simp at h60 ⊢; omega)
    exact this
  have C2 : Hid (∀ w3 u0, Below B w w3 → NsOwn w3 B u0 (ms ++ [n.flip] ++ u) → Calls Tryd.prog 34 #[u0, .slice (some ⟨b, off, none⟩) ns.length cap, .int .i64 ((i : Int) + 1)] w3 fun e w' => ∃ u0, e = .returned u0 ∧ Below B w3 w' ∧ NsOwn w' B u0 (ms ++ [n.flip] ++ u ++ t)) := by
    intro w3 u0 h3 ho
    have := ht B w3 u0 (ms ++ [n.flip] ++ u) hb (Nat.le_trans hB h3.size) (A2.out w3 h3) ho (by simp at h60 ⊢; omega)
    rw [arg_succ] at this
    exact this
  have CE : Hid (∀ w3, Below B w w3 → Calls Tryd.prog 46 #[.slice (some ⟨b, off, none⟩) ns.length cap, .int .i64 ((i : Int) + 1)] w3 fun e w' => e = .returned (.tuple #[.int .i64 k, .bool true]) ∧ w' = w3) := by
    intro w3 h3
    have := hE w3 (A2.out w3 h3)
    rw [arg_succ] at this
    exact this
  have H60 : Hid (ms.length + [n.flip].length ≤ 60) := by show _ ≤ _; simp at h60 ⊢; omega
  have HR : Hid (ms ++ (n.flip :: (u ++ t)) = ms ++ [n.flip] ++ u ++ t) := by show _ = _; simp
  obtain ⟨op, c⟩ := n
  simp only at *
  subst h0
  clear hn hO hN h60 ht hu hE A2
  go_enter Tryd.func34, Tryd.ntmps34
  go_wp2_with fail
  refine Calls.mono (CT.out _) ?_
  rintro e w1 ⟨rfl, hb1⟩
  have S1 : Hid _ := A1.out w1 hb1
  clear hb1
  go_wp2_with (at_builtin; refine wpList_append_ns (by rfl) _ _ (by rfl) B _ (by rfl) ms S1.out.o w1.heap.size _ _ _ (by rfl) (by rfl) S1.out.c (by simp) (by have := H60.out; simp at this ⊢; omega) S1.out.s ?_; intro g3 cap3 w3 ho3 hg3 hb3 hl3; have O3 : Hid _ := ho3; have B3 : Hid (Below B w w3) := S1.out.b.grown hg3 S1.out.s S1.out.own; have q3 := A3.out w3 B3.out; clear ho3 hg3 hb3 hl3)
  refine Calls.mono (CE.out _ B3.out) ?_
  rintro e w3 ⟨rfl, rfl⟩
  go_wp2_with fail
  refine Calls.mono (C1.out _ _ B3.out O3.out) ?_
  rintro e w4 ⟨u1, rfl, h4, o4⟩
  have B4 : Hid (Below B w w4) := B3.out.trans h4
  have O4 : Hid _ := o4
  clear h4 o4
  go_wp2_with fail
  refine Calls.mono (C2.out _ _ B4.out O4.out) ?_
  rintro e w5 ⟨u2, rfl, h5, o5⟩
  have B5 : Hid (Below B w w5) := B4.out.trans h5
  have O5 : Hid _ := o5
  clear h5 o5
  go_wp2
  go_ret
  exact ⟨_, rfl, B5.out, by rw [HR.out]; exact O5.out⟩
set_option maxHeartbeats 4000000 in
theorem app_or (ns : List Nd) (b off cap : Nat) (hm : ns.length ≤ 60) (i : Nat) (n : Nd) (hn : ns[i]? = some n) (h0 : n.op = 4) (k : Nat) (t u : List Nd) (ht : AppOk ns b off cap (i + 1) t) (hu : AppOk ns b off cap k u)
    (hE : ∀ w : World, NsAt w b off ns → Calls Tryd.prog 46 #[.slice (some ⟨b, off, none⟩) ns.length cap, .int .i64 (i + 1 : Nat)] w fun e w' => e = .returned (.tuple #[.int .i64 k, .bool true]) ∧ w' = w) : AppOk ns b off cap i (n.flip :: (t ++ u)) := by
  intro B w v ms hb hB hN hO h60
  have hil : i < ns.length := by
    rcases Nat.lt_or_ge i ns.length with h' | h'
    · exact h'
    · rw [List.getElem?_eq_none h'] at hn; cases hn
  obtain ⟨c0, c1, c2, c3, c4⟩ := hN i n hn
  have i0 : (0 : Int) ≤ (i : Int) := by omega
  have i1 : (i : Int) < (ns.length : Int) := by omega
  have CT : Hid _ := turnedNode_any n
  have A1 : Hid (∀ w1, Below w.heap.size w w1 → AppSet B w v ms n (w1.alloc (ndObj n.flip.op n.flip.c)) w1.heap.size) := fun w1 h1 => app_set hB hO h1
  have A2 : Hid (∀ w3, Below B w w3 → NsAt w3 b off ns) := fun w3 h3 => hN.below h3 hb
  have A3 : Hid (∀ w3, Below B w w3 → w3.cell? ⟨b, off + i * 5, none⟩ = some (.int .i64 n.op)) := fun w3 h3 => ((hN.below h3 hb) i n hn).1
  have C1 : Hid (∀ w3 u0, Below B w w3 → NsOwn w3 B u0 (ms ++ [n.flip]) → Calls Tryd.prog 34 #[u0, .slice (some ⟨b, off, none⟩) ns.length cap, .int .i64 ((i : Int) + 1)] w3 fun e w' => ∃ u0, e = .returned u0 ∧ Below B w3 w' ∧ NsOwn w' B u0 (ms ++ [n.flip] ++ t)) := by
    intro w3 u0 h3 ho
    have := ht B w3 u0 (ms ++ [n.flip]) hb (Nat.le_trans hB h3.size) (A2.out w3 h3) ho (by simp at h60 ⊢; omega)
    rw [arg_succ] at this
    exact this
  have C2 : Hid (∀ w3 u0, Below B w w3 → NsOwn w3 B u0 (ms ++ [n.flip] ++ t) → Calls Tryd.prog 34 #[u0, .slice (some ⟨b, off, none⟩) ns.length cap, .int .i64 (k : Int)] w3 fun e w' => ∃ u0, e = .returned u0 ∧ Below B w3 w' ∧ NsOwn w' B u0 (ms ++ [n.flip] ++ t ++ u)) := by
    intro w3 u0 h3 ho
    have := hu B w3 u0 (ms ++ [n.flip] ++ t) hb (Nat.le_trans hB h3.size) (A2.out w3 h3) ho (by simp at h60 ⊢; omega)
    exact this
  have CE : Hid (∀ w3, Below B w w3 → Calls Tryd.prog 46 #[.slice (some ⟨b, off, none⟩) ns.length cap, .int .i64 ((i : Int) + 1)] w3 fun e w' => e = .returned (.tuple #[.int .i64 k, .bool true]) ∧ w' = w3) := by
    intro w3 h3
    have := hE w3 (A2.out w3 h3)
    rw [arg_succ] at this
    exact this
  have H60 : Hid (ms.length + [n.flip].length ≤ 60) := by show _ ≤ _; simp at h60 ⊢; omega
  have HR : Hid (ms ++ (n.flip :: (t ++ u)) = ms ++ [n.flip] ++ t ++ u) := by show _ = _; simp
  obtain ⟨op, c⟩ := n
  simp only at *
  subst h0
  clear hn hO hN h60 ht hu hE A2
  go_enter Tryd.func34, Tryd.ntmps34
  go_wp2_with fail
  refine Calls.mono (CT.out _) ?_
  rintro e w1 ⟨rfl, hb1⟩
  have S1 : Hid _ := A1.out w1 hb1
  clear hb1
  go_wp2_with (at_builtin; refine wpList_append_ns (by rfl) _ _ (by rfl) B _ (by rfl) ms S1.out.o w1.heap.size _ _ _ (by rfl) (by rfl) S1.out.c (by simp) (by have := H60.out; simp at this ⊢; omega) S1.out.s ?_; intro g3 cap3 w3 ho3 hg3 hb3 hl3; have O3 : Hid _ := ho3; have B3 : Hid (Below B w w3) := S1.out.b.grown hg3 S1.out.s S1.out.own; have q3 := A3.out w3 B3.out; clear ho3 hg3 hb3 hl3)
  refine Calls.mono (CE.out _ B3.out) ?_
  rintro e w3 ⟨rfl, rfl⟩
  go_wp2_with fail
  refine Calls.mono (C1.out _ _ B3.out O3.out) ?_
  rintro e w4 ⟨u1, rfl, h4, o4⟩
  have B4 : Hid (Below B w w4) := B3.out.trans h4
  have O4 : Hid _ := o4
  clear h4 o4
  go_wp2_with fail
  refine Calls.mono (C2.out _ _ B4.out O4.out) ?_
  rintro e w5 ⟨u2, rfl, h5, o5⟩
  have B5 : Hid (Below B w w5) := B4.out.trans h5
  have O5 : Hid _ := o5
  clear h5 o5
  go_wp2
  go_ret
  exact ⟨_, rfl, B5.out, by rw [HR.out]; exact O5.out⟩
theorem app_at (ns : List Nd) (b off cap : Nat) (hm : ns.length ≤ 60) : ∀ (f i j : Nat), f ≤ ns.length + 1 → endF ns f i = some j → AppOk ns b off cap i (turF ns f i) := by
  intro f
  induction f with
  | zero => intro i j _ h; simp [endF] at h
  | succ f ih =>
    intro i j hf h
    obtain ⟨n, hn, hil, hc⟩ := part_cases ns f i j h
    rw [turF_at ns f i n hn]
    rcases hc with ⟨h0, rfl⟩ | ⟨h0, h1⟩ | ⟨h0, k, h1, h2⟩
    · have e3 : ¬ n.op = 3 := by intro e; rw [e] at h0; simp [prt] at h0
      have e4 : ¬ n.op = 4 := by intro e; rw [e] at h0; simp [prt] at h0
      rw [if_neg (by omega), if_neg e3, if_neg e4]
      exact app_leaf ns b off cap hm i n hn h0
    · rw [if_pos h0]
      exact app_one ns b off cap hm i n hn h0 _ (ih _ _ (by omega) h1)
    · rw [if_neg (by omega), endE_of ns f (i + 1) k (by omega) h1, Option.getD_some]
      have hE : ∀ w : World, NsAt w b off ns → Calls Tryd.prog 46 #[.slice (some ⟨b, off, none⟩) ns.length cap, .int .i64 (i + 1 : Nat)] w fun e w' => e = .returned (.tuple #[.int .i64 k, .bool true]) ∧ w' = w := fun w hN => behind_k ns b off cap hm w hN (i + 1) f k h1
      rcases (prt_two n.op).1 h0 with e3 | e4
      · rw [if_pos e3]
        exact app_cat ns b off cap hm i n hn e3 k _ _ (ih _ _ (by omega) h1) (ih _ _ (by omega) h2) hE
      · rw [if_neg (by omega), if_pos e4]
        exact app_or ns b off cap hm i n hn e4 k _ _ (ih _ _ (by omega) h1) (ih _ _ (by omega) h2) hE
end Go.Proofs.YtjhlfiljdohcoaaDoor
namespace Go.Proofs.YtjhlfiljdohcoaaDoor
set_option linter.unusedSimpArgs false
set_option linter.unusedVariables false
set_option maxRecDepth 100000
open Go.RowKit

theorem nsIn_nil (w : World) : NsIn w (.slice none 0 0) [] := ⟨none, 0, rfl, by simp, Or.inl rfl⟩
theorem nsIn_form {w : World} {v : Value} {ns : List Nd} (h : NsIn w v ns) : ∃ a cap, v = .slice a ns.length cap ∧ ns.length ≤ maxLen := by
  obtain ⟨a, cap, h1, h2, _⟩ := h
  exact ⟨a, cap, h1, h2⟩
theorem nsEq_refl (x : List Nd) : nsEq x x = true := (nsEq_iff x x).2 rfl
end Go.Proofs.YtjhlfiljdohcoaaDoor
namespace Go.Proofs.YtjhlfiljdohcoaaDoor
set_option linter.unusedSimpArgs false
set_option linter.unusedVariables false
set_option maxRecDepth 100000
open Go.RowKit
set_option maxHeartbeats 4000000 in
theorem rturn_any (ns : List Nd) (v : Value) (w : World) (hN : NsIn w v ns) :
    Calls Tryd.prog 14 #[v] w fun e w' => ∃ u, e = .returned (.tuple #[u, errV (faultL ns)]) ∧ Below w.heap.size w w' ∧ NsIn w' u (if faultL ns = 0 then turE ns else []) := by
  have CC : Hid _ := rcheck_any ns v w hN
  have hinfo : (Tryd.prog.info? 33).map (fun i => (i.zero, i.size, i.bytes)) = some (some (.agg #[.int .i64 0, .int .u64 0, .int .u64 0, .int .u64 0, .int .u64 0]), 5, 40) := by kernel_rfl
  obtain ⟨i0, hi, hz0, hz1, hz2⟩ := info_parts hinfo
  clear hinfo
  by_cases hf : faultL ns = 0
  · obtain ⟨hl, hr, hv⟩ := (faultL_zero ns).1 hf
    obtain ⟨a, cap, rfl, hm, h | ⟨b, off, rfl, hlt, hn⟩⟩ := hN
    · subst h; rw [endE_nil] at hv; cases hv
    have C2 : Hid (∀ w1 w' u, Below w.heap.size w w1 → Below w1.heap.size w1 w' → NsOwn w' w1.heap.size u [] → Calls Tryd.prog 34 #[u, .slice (some ⟨b, off, none⟩) ns.length cap, .int .i64 0] w' fun e w'' => ∃ u, e = .returned u ∧ Below w1.heap.size w' w'' ∧ NsOwn w'' w1.heap.size u (turE ns)) := by
      intro w1 w' u h1 h2 ho
      have := app_at ns b off cap hl (ns.length + 1) 0 ns.length (Nat.le_refl _) hv w1.heap.size w' u [] (Nat.lt_of_lt_of_le hlt h1.size) h2.size ((hn.below h1 hlt).below h2 (Nat.lt_of_lt_of_le hlt h1.size)) ho (by rw [turF_len ns _ 0 _ (Nat.le_refl _) hv]; simp; omega)
      exact this
    have HL : Hid ((turE ns).length ≤ maxLen) := by show _ ≤ _; rw [turE_len ns hv]; unfold maxLen; omega
    rw [hf] at CC ⊢
    rw [if_pos rfl]
    rw [show errV 0 = .nilIface from rfl] at CC ⊢
    clear hr hv hn hf
    go_enter Tryd.func14, Tryd.ntmps14
    go_wp2_with fail
    refine Calls.mono CC.out ?_
    rintro e w1 ⟨rfl, hb⟩
    have B1 : Hid _ := hb
    clear hb
    go_wp2_with (at_make; refine wpList_make_own _ (by rfl) _ _ 22 (by rfl) w1.heap.size 33 i0 _ 5 Tryd.underlying22 hi hz0 hz1 _ _ _ ns.length (by rfl) (by rfl) (by rfl) (by rw [hz2]; omega) (by unfold maxLen; omega) (Nat.le_refl _) ?_; intro w2 ho2 hg2; have O2 : Hid (NsOwn w2 w1.heap.size _ []) := ho2; have B2 : Hid (Below w1.heap.size w1 w2) := (Below.refl _ _).grown hg2 (Nat.le_refl _) (fun k hk => by cases hk); clear ho2 hg2)
    refine Calls.mono (C2.out w1 _ _ B1.out B2.out O2.out) ?_
    rintro e w3 ⟨u, rfl, h3, o3⟩
    have B3 : Hid (Below w.heap.size w w3) := (B1.out.trans (B2.out.mono B1.out.size)).trans (h3.mono B1.out.size)
    have O3 : Hid _ := o3
    clear h3 o3
    go_wp2
    go_ret2
    exact ⟨_, rfl, B3.out, NsOwn.isIn O3.out HL.out⟩
  · obtain ⟨a, cap, rfl, hm, _⟩ := hN
    rw [if_neg hf]
    rw [show errV (faultL ns) = .iface 45 (.int .i64 (faultL ns)) from if_neg hf] at CC ⊢
    clear hf
    generalize faultL ns = ft at *
    go_enter Tryd.func14, Tryd.ntmps14
    go_wp2_with fail
    refine Calls.mono CC.out ?_
    rintro e w1 ⟨rfl, hb⟩
    have B1 : Hid _ := hb
    clear hb
    go_wp2
    go_ret2
    exact ⟨_, rfl, B1.out, nsIn_nil _⟩
end Go.Proofs.YtjhlfiljdohcoaaDoor
namespace Go.Proofs.YtjhlfiljdohcoaaDoor
set_option linter.unusedSimpArgs false
set_option linter.unusedVariables false
set_option maxRecDepth 100000
open Go.RowKit
theorem flip_wf {n : Nd} (h : n.flip.wf) : n.wf := by
  obtain ⟨h1, h2⟩ := h
  refine ⟨?_, h2⟩
  have e : n.flip.op = flipOp n.op := rfl
  rw [e] at h1
  unfold flipOp at h1
  split at h1
  · rename_i h; rw [h]; rfl
  · split at h1
    · rename_i h; rw [h]; rfl
    · exact h1
theorem turE_wf (ns : List Nd) (hv : endE ns 0 = some ns.length) (hw : ∀ n ∈ ns, n.wf) : ∀ n ∈ turE ns, n.wf := by
  obtain ⟨t, ht, rfl⟩ := tree_of ns hv
  intro n hn
  rw [turE, turE_flat t ht] at hn
  exact flip_wf (hw _ ((Rx.turn_mem t n).1 hn))
end Go.Proofs.YtjhlfiljdohcoaaDoor
namespace Go.Proofs.YtjhlfiljdohcoaaDoor
set_option linter.unusedSimpArgs false
set_option linter.unusedVariables false
set_option maxRecDepth 100000
open Go.RowKit
set_option maxHeartbeats 1000000 in
theorem ints_len (x y : List Nat) (a1 a2 : Option Addr) (c1 c2 : Nat) (h1 : x.length ≤ maxLen) (h2 : y.length ≤ maxLen) (hne : x.length ≠ y.length) (w : World) :
    Calls Tryd.prog 10 #[.slice a1 x.length c1, .slice a2 y.length c2] w fun e w' => e = .returned (.bool (x == y)) ∧ Below w.heap.size w w' := by
  have e : (x == y) = false := by
    rw [beq_eq_false_iff_ne]
    intro e
    exact hne (by rw [e])
  rw [e]
  have hb : ((x.length : Int) != (y.length : Int)) = true := by rw [bne_iff_ne]; omega
  clear hne e
  go_enter Tryd.func10, Tryd.ntmps10
  go_wp2
  go_ret
  exact ⟨rfl, Below.refl _ _⟩
set_option maxHeartbeats 4000000 in
theorem ints_same (x y : List Nat) (b1 o1 b2 o2 : Nat) (c1 c2 : Nat) (h1 : x.length ≤ maxLen) (hlen : x.length = y.length) (w : World) (hl1 : b1 < w.heap.size) (hl2 : b2 < w.heap.size) (hx : IsAt w b1 o1 x) (hy : IsAt w b2 o2 y) :
    Calls Tryd.prog 10 #[.slice (some ⟨b1, o1, none⟩) x.length c1, .slice (some ⟨b2, o2, none⟩) x.length c2] w fun e w' => e = .returned (.bool (x == y)) ∧ Below w.heap.size w w' := by
  unfold maxLen at h1
  have HL := (show Hid _ from hlen)
  clear hlen
  go_enter Tryd.func10, Tryd.ntmps10
  go_wp2
  go_loopw [5] (fun v wr => ∃ i : Nat, i ≤ x.length ∧ v = .int .i64 i ∧ Hid ((x == y) = (x.drop i == y.drop i)) ∧ Below w.heap.size w wr) (fun v _ => x.length - (intOf v).toNat)
  case atStart => exact ⟨0, by omega, rfl, Eq.refl _, Below.refl _ _⟩
  case round =>
    obtain ⟨i, hi, rfl, HS, hB⟩ := hrel
    by_cases hil : i < x.length
    · obtain ⟨n, hn⟩ : ∃ n, x[i]? = some n := ⟨x[i], List.getElem?_eq_getElem hil⟩
      obtain ⟨m, hm⟩ : ∃ m, y[i]? = some m := ⟨y[i]'(by rw [← HL.out]; exact hil), List.getElem?_eq_getElem (by rw [← HL.out]; exact hil)⟩
      have a0 := (hx.below hB hl1) i n hn
      have d0 := (hy.below hB hl2) i m hm
      have HD : Hid ((x.drop i == y.drop i) = (n == m && x.drop (i + 1) == y.drop (i + 1))) := by show _ = _; rw [drop_at x i n hn, drop_at y i m hm]; rfl
      have i0 : (0 : Int) ≤ (i : Int) := by omega
      have i1 : (i : Int) < (x.length : Int) := by omega
      clear hn hm
      by_cases hq : n = m
      · subst hq
        have HF : Hid ((x == y) = (x.drop (i + 1) == y.drop (i + 1))) := by show _ = _; rw [HS.out, HD.out]; simp
        go_wp2_with fail
        try go_quiet (fail)
        go_wp2
        exact ⟨⟨i + 1, by omega, by go_num, HF, by first | exact hB | exact hB.trans ((below_drewN' wr _).mono hB.size)⟩, by simp [intOf]; omega⟩
      · have HF : Hid ((x == y) = false) := by show _ = _; rw [HS.out, HD.out]; simp [hq]
        have pq : ((n : Int) != (m : Int)) = true := by rw [bne_iff_ne]; omega
        clear hq
        go_wp2_with fail
        try go_quiet (fail)
        go_wp2
        go_ret
        exact ⟨by rw [HF.out]; rfl, by first | exact hB | exact hB.trans ((below_drewN' wr _).mono hB.size)⟩
    · have HF : Hid ((x == y) = true) := by
        show _ = _
        have e1 : x.drop i = [] := List.drop_eq_nil_of_le (by omega)
        have e2 : y.drop i = [] := List.drop_eq_nil_of_le (by have := HL.out; omega)
        rw [HS.out, e1, e2]; rfl
      go_wp2
      go_ret
      exact ⟨by rw [HF.out]; rfl, hB⟩
set_option maxHeartbeats 1000000 in
theorem ints_nil (a1 a2 : Option Addr) (c1 c2 : Nat) (w : World) :
    Calls Tryd.prog 10 #[.slice a1 0 c1, .slice a2 0 c2] w fun e w' => e = .returned (.bool true) ∧ Below w.heap.size w w' := by
  go_enter Tryd.func10, Tryd.ntmps10
  go_wp2
  go_loop [5] (fun v => v = .int .i64 0) (fun _ => 0)
  case atStart => rfl
  case round =>
    subst hrel
    go_wp2
    go_ret
    exact ⟨rfl, Below.refl _ _⟩
theorem ints_any (x y : List Nat) (v u : Value) (w : World) (hx : IsIn w v x) (hy : IsIn w u y) :
    Calls Tryd.prog 10 #[v, u] w fun e w' => e = .returned (.bool (x == y)) ∧ Below w.heap.size w w' := by
  obtain ⟨a1, c1, rfl, h1, hx⟩ := hx
  obtain ⟨a2, c2, rfl, h2, hy⟩ := hy
  by_cases hlen : x.length = y.length
  · rcases hx with hx | ⟨b1, o1, rfl, hl1, hx⟩
    · subst hx
      have : y = [] := List.eq_nil_of_length_eq_zero (by simpa using hlen.symm)
      subst this
      exact ints_nil a1 a2 c1 c2 w
    · rcases hy with hy | ⟨b2, o2, rfl, hl2, hy⟩
      · subst hy
        have : x = [] := List.eq_nil_of_length_eq_zero (by simpa using hlen)
        subst this
        exact ints_nil _ a2 c1 c2 w
      · rw [← hlen]
        exact ints_same x y b1 o1 b2 o2 c1 c2 h1 hlen w hl1 hl2 hx hy
  · exact ints_len x y a1 a2 c1 c2 h1 h2 hlen w
end Go.Proofs.YtjhlfiljdohcoaaDoor

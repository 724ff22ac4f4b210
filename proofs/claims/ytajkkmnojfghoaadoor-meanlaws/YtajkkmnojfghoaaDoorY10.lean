/- Package rex: turnedNode, appendTurned, Turn. Package rex: Turn; what is asked of Empty and Turn. What the document's own functions answer: Parts, EndOf. What the document's own functions answer: EmptyOf. -/
import Derived.Test.YtajkkmnojfghoaaDoorY09
import Derived.Test.YtajkkmnojfghoaaDoorY04
import Derived.Test.YtajkkmnojfghoaaDoorY02
namespace Go.Proofs.YtajkkmnojfghoaaDoor
set_option linter.unusedSimpArgs false
set_option linter.unusedVariables false
set_option maxRecDepth 100000
open Go.RowKit

set_option maxHeartbeats 1000000 in
theorem turnedNode_any (n : Nd) (w : World) :
    Calls Tryd.prog 75 #[n.v] w fun e w' => e = .returned n.flip.v ∧ Below w.heap.size w w' := by
  obtain ⟨op, c⟩ := n
  by_cases h8 : op = 8
  · subst h8
    go_enter Tryd.func75, Tryd.ntmps75
    go_wp2
    refine bodyPost_ret (v := (Nd.flip ⟨8, c⟩).v) (by simp [results, Tryd.results75, go_sem, Nd.flip, flipOp]) rfl ⟨rfl, ?_⟩
    exact ((Below.refl _ _).alloc (Nat.le_refl _) _).alloc (by simp) _
  by_cases h9 : op = 9
  · subst h9
    go_enter Tryd.func75, Tryd.ntmps75
    go_wp2
    refine bodyPost_ret (v := (Nd.flip ⟨9, c⟩).v) (by simp [results, Tryd.results75, go_sem, Nd.flip, flipOp]) rfl ⟨rfl, ?_⟩
    exact ((Below.refl _ _).alloc (Nat.le_refl _) _).alloc (by simp) _
  have p8 : (op == 8) = false := by simp [h8]
  have p9 : (op == 9) = false := by simp [h9]
  have HF : Hid (Nd.flip ⟨op, c⟩ = ⟨op, c⟩) := by show _ = _; simp [Nd.flip, flipOp, h8, h9]
  rw [HF.out]
  clear h8 h9
  go_enter Tryd.func75, Tryd.ntmps75
  go_wp2
  refine bodyPost_ret (v := (Nd.mk op c).v) (by simp [results, Tryd.results75, go_sem]) rfl ⟨rfl, ?_⟩
  exact ((Below.refl _ _).alloc (Nat.le_refl _) _).alloc (by simp) _
def ndObj (op : Int) (c : C4) : Obj := .cells #[.int .i64 op, .int .u64 c.a, .int .u64 c.b, .int .u64 c.c, .int .u64 c.d] 56 (0, 0)
/-- The world ahead of the append. -/
structure AppSet (B : Nat) (w : World) (v : Value) (ms : List Nd) (n : Nd) (w2 : World) (g : Nat) : Prop where
  b : Below B w w2
  s : B ≤ w2.heap.size
  o : NsOwn w2 B v ms
  c : ∀ j u, (nsCells [n.flip])[j]? = some u → w2.cell? ⟨g, j, none⟩ = some u
  own : ∀ k, v.ownBlock = some k → B ≤ k
theorem app_set {B : Nat} {w w1 : World} {v : Value} {ms : List Nd} {n : Nd} (hB : B ≤ w.heap.size) (hO : NsOwn w B v ms) (h1 : Below w.heap.size w w1) : AppSet B w v ms n (w1.alloc (ndObj n.flip.op n.flip.c)) w1.heap.size := by
  have hs := h1.size
  have b2 : Below w.heap.size w (w1.alloc (ndObj n.flip.op n.flip.c)) := h1.alloc hs _
  have e : (w1.alloc (ndObj n.flip.op n.flip.c)).heap[w1.heap.size]? = some (ndObj n.flip.op n.flip.c) := by show (w1.heap.push _)[w1.heap.size]? = _; simp
  refine ⟨b2.mono hB, ?_, hO.below b2, ?_, ?_⟩
  · have := b2.size; omega
  · intro j u hj
    rw [Lib.cell_of_heap e]
    simp only [nsCells, List.append_nil] at hj
    simpa using hj
  · intro k hk
    rcases hO.2 with ⟨hv, _⟩ | ⟨g, cap, cur, hv, hg, _⟩
    · rw [hv] at hk; cases hk
    · rw [hv] at hk
      injection hk with hk
      simp only at hk
      omega
/-- The contract of a call at i: what is turned stands behind what was there. -/
def AppOk (ns : List Nd) (b off cap i : Nat) (t : List Nd) : Prop := ∀ (B : Nat) (w : World) (v : Value) (ms : List Nd), b < B → B ≤ w.heap.size → NsAt w b off ns → NsOwn w B v ms → ms.length + t.length ≤ 60 →
  Calls Tryd.prog 57 #[v, .slice (some ⟨b, off, none⟩) ns.length cap, .int .i64 i] w fun e w' => ∃ u, e = .returned u ∧ Below B w w' ∧ NsOwn w' B u (ms ++ t)
set_option maxHeartbeats 4000000 in
theorem app_leaf (ns : List Nd) (b off cap : Nat) (hm : ns.length ≤ 60) (i : Nat) (n : Nd) (hn : ns[i]? = some n) (h0 : prt n.op = 0) : AppOk ns b off cap i [n.flip] := by
  intro B w v ms hb hB hN hO h60
  have hil : i < ns.length := by
    rcases Nat.lt_or_ge i ns.length with h' | h'
    · exact h'
    · rw [List.getElem?_eq_none h'] at hn; cases hn
  obtain ⟨c0, c1, c2, c3, c4⟩ := hN i n hn
  have i0 : (0 : Int) ≤ (i : Int) := by omega
  have i1 : (i : Int) < (ns.length : Int) := by omega
  have CT : Hid _ := turnedNode_any n
  have A1 : Hid (∀ w1, Below w.heap.size w w1 → AppSet B w v ms n (w1.alloc (ndObj n.flip.op n.flip.c)) w1.heap.size) := fun w1 h1 => app_set hB hO h1
  have A2 : Hid (∀ w3, Below B w w3 → NsAt w3 b off ns) := fun w3 h3 => hN.below h3 hb
  have A3 : Hid (∀ w3, Below B w w3 → w3.cell? ⟨b, off + i * 5, none⟩ = some (.int .i64 n.op)) := fun w3 h3 => ((hN.below h3 hb) i n hn).1
  have p3 : (n.op == 3) = false := by rw [beq_eq_false_iff_ne]; intro e; rw [e] at h0; simp [prt] at h0
  have p4 : (n.op == 4) = false := by rw [beq_eq_false_iff_ne]; intro e; rw [e] at h0; simp [prt] at h0
  have p5 : (n.op == 5) = false := by rw [beq_eq_false_iff_ne]; intro e; rw [e] at h0; simp [prt] at h0
  have p6 : (n.op == 6) = false := by rw [beq_eq_false_iff_ne]; intro e; rw [e] at h0; simp [prt] at h0
  have p7 : (n.op == 7) = false := by rw [beq_eq_false_iff_ne]; intro e; rw [e] at h0; simp [prt] at h0
  have H60 : Hid _ := h60
  clear hn h0 hO hN h60
  go_enter Tryd.func57, Tryd.ntmps57
  go_wp2_with fail
  refine Calls.mono (CT.out _) ?_
  rintro e w1 ⟨rfl, hb1⟩
  have S1 : Hid _ := A1.out w1 hb1
  clear hb1
  go_wp2_with (at_builtin; refine wpList_append_ns (by rfl) _ _ (by rfl) B _ (by rfl) ms S1.out.o w1.heap.size _ _ _ (by rfl) (by rfl) S1.out.c (by simp) (by have := H60.out; simp at this ⊢; omega) S1.out.s ?_; intro g3 cap3 w3 ho3 hg3 hb3 hl3; have O3 : Hid _ := ho3; have B3 : Hid (Below B w w3) := S1.out.b.grown hg3 S1.out.s S1.out.own; have q3 := A3.out w3 B3.out; clear ho3 hg3 hb3 hl3)
  go_ret
  exact ⟨_, rfl, B3.out, O3.out⟩
theorem own_len (ms : List Nd) (n : Nd) : (ms ++ [n]).length = ms.length + 1 := by simp
set_option maxHeartbeats 4000000 in
theorem app_one (ns : List Nd) (b off cap : Nat) (hm : ns.length ≤ 60) (i : Nat) (n : Nd) (hn : ns[i]? = some n) (h0 : prt n.op = 1) (t : List Nd) (ht : AppOk ns b off cap (i + 1) t) : AppOk ns b off cap i (n.flip :: t) := by
  intro B w v ms hb hB hN hO h60
  have hil : i < ns.length := by
    rcases Nat.lt_or_ge i ns.length with h' | h'
    · exact h'
    · rw [List.getElem?_eq_none h'] at hn; cases hn
  obtain ⟨c0, c1, c2, c3, c4⟩ := hN i n hn
  have i0 : (0 : Int) ≤ (i : Int) := by omega
  have i1 : (i : Int) < (ns.length : Int) := by omega
  have CT : Hid _ := turnedNode_any n
  have A1 : Hid (∀ w1, Below w.heap.size w w1 → AppSet B w v ms n (w1.alloc (ndObj n.flip.op n.flip.c)) w1.heap.size) := fun w1 h1 => app_set hB hO h1
  have A2 : Hid (∀ w3, Below B w w3 → NsAt w3 b off ns) := fun w3 h3 => hN.below h3 hb
  have A3 : Hid (∀ w3, Below B w w3 → w3.cell? ⟨b, off + i * 5, none⟩ = some (.int .i64 n.op)) := fun w3 h3 => ((hN.below h3 hb) i n hn).1
  have C1 : Hid (∀ w3 u, Below B w w3 → NsOwn w3 B u (ms ++ [n.flip]) → Calls Tryd.prog 57 #[u, .slice (some ⟨b, off, none⟩) ns.length cap, .int .i64 ((i : Int) + 1)] w3 fun e w' => ∃ u, e = .returned u ∧ Below B w3 w' ∧ NsOwn w' B u (ms ++ (n.flip :: t))) := by
    intro w3 u h3 ho
    have := ht B w3 u (ms ++ [n.flip]) hb (Nat.le_trans hB h3.size) (A2.out w3 h3) ho (by simp at h60 ⊢; omega)
    rw [arg_succ, List.append_assoc] at this
    exact this
  have H60 : Hid (ms.length + [n.flip].length ≤ 60) := by show _ ≤ _; simp at h60 ⊢; omega
  have h3 := (prt_one n.op).1 h0
  obtain ⟨op, c⟩ := n
  simp only at *
  clear hn h0 hO hN h60 ht A2
  rcases h3 with rfl | rfl | rfl
  · go_enter Tryd.func57, Tryd.ntmps57
    go_wp2_with fail
    refine Calls.mono (CT.out _) ?_
    rintro e w1 ⟨rfl, hb1⟩
    have S1 : Hid _ := A1.out w1 hb1
    clear hb1
    go_wp2_with (at_builtin; refine wpList_append_ns (by rfl) _ _ (by rfl) B _ (by rfl) ms S1.out.o w1.heap.size _ _ _ (by rfl) (by rfl) S1.out.c (by simp) (by have := H60.out; simp at this ⊢; omega) S1.out.s ?_; intro g3 cap3 w3 ho3 hg3 hb3 hl3; have O3 : Hid _ := ho3; have B3 : Hid (Below B w w3) := S1.out.b.grown hg3 S1.out.s S1.out.own; have q3 := A3.out w3 B3.out; clear ho3 hg3 hb3 hl3)
    refine Calls.mono (C1.out _ _ B3.out O3.out) ?_
    rintro e w4 ⟨u, rfl, h4, o4⟩
    have B4 : Hid _ := And.intro h4 o4
    clear h4 o4
    go_wp2
    go_ret
    exact ⟨_, rfl, B3.out.trans B4.out.1, B4.out.2⟩
  · go_enter Tryd.func57, Tryd.ntmps57
    go_wp2_with fail
    refine Calls.mono (CT.out _) ?_
    rintro e w1 ⟨rfl, hb1⟩
    have S1 : Hid _ := A1.out w1 hb1
    clear hb1
    go_wp2_with (at_builtin; refine wpList_append_ns (by rfl) _ _ (by rfl) B _ (by rfl) ms S1.out.o w1.heap.size _ _ _ (by rfl) (by rfl) S1.out.c (by simp) (by have := H60.out; simp at this ⊢; omega) S1.out.s ?_; intro g3 cap3 w3 ho3 hg3 hb3 hl3; have O3 : Hid _ := ho3; have B3 : Hid (Below B w w3) := S1.out.b.grown hg3 S1.out.s S1.out.own; have q3 := A3.out w3 B3.out; clear ho3 hg3 hb3 hl3)
    refine Calls.mono (C1.out _ _ B3.out O3.out) ?_
    rintro e w4 ⟨u, rfl, h4, o4⟩
    have B4 : Hid _ := And.intro h4 o4
    clear h4 o4
    go_wp2
    go_ret
    exact ⟨_, rfl, B3.out.trans B4.out.1, B4.out.2⟩
  · go_enter Tryd.func57, Tryd.ntmps57
    go_wp2_with fail
    refine Calls.mono (CT.out _) ?_
    rintro e w1 ⟨rfl, hb1⟩
    have S1 : Hid _ := A1.out w1 hb1
    clear hb1
    go_wp2_with (at_builtin; refine wpList_append_ns (by rfl) _ _ (by rfl) B _ (by rfl) ms S1.out.o w1.heap.size _ _ _ (by rfl) (by rfl) S1.out.c (by simp) (by have := H60.out; simp at this ⊢; omega) S1.out.s ?_; intro g3 cap3 w3 ho3 hg3 hb3 hl3; have O3 : Hid _ := ho3; have B3 : Hid (Below B w w3) := S1.out.b.grown hg3 S1.out.s S1.out.own; have q3 := A3.out w3 B3.out; clear ho3 hg3 hb3 hl3)
    refine Calls.mono (C1.out _ _ B3.out O3.out) ?_
    rintro e w4 ⟨u, rfl, h4, o4⟩
    have B4 : Hid _ := And.intro h4 o4
    clear h4 o4
    go_wp2
    go_ret
    exact ⟨_, rfl, B3.out.trans B4.out.1, B4.out.2⟩
set_option maxHeartbeats 4000000 in
theorem app_cat (ns : List Nd) (b off cap : Nat) (hm : ns.length ≤ 60) (i : Nat) (n : Nd) (hn : ns[i]? = some n) (h0 : n.op = 3) (k : Nat) (t u : List Nd) (ht : AppOk ns b off cap (i + 1) t) (hu : AppOk ns b off cap k u)
    (hE : ∀ w : World, NsAt w b off ns → Calls Tryd.prog 54 #[.slice (some ⟨b, off, none⟩) ns.length cap, .int .i64 (i + 1 : Nat)] w fun e w' => e = .returned (.tuple #[.int .i64 k, .bool true]) ∧ w' = w) : AppOk ns b off cap i (n.flip :: (u ++ t)) := by
  intro B w v ms hb hB hN hO h60
  have hil : i < ns.length := by
    rcases Nat.lt_or_ge i ns.length with h' | h'
    · exact h'
    · rw [List.getElem?_eq_none h'] at hn; cases hn
  obtain ⟨c0, c1, c2, c3, c4⟩ := hN i n hn
  have i0 : (0 : Int) ≤ (i : Int) := by omega
  have i1 : (i : Int) < (ns.length : Int) := by omega
  have CT : Hid _ := turnedNode_any n
  have A1 : Hid (∀ w1, Below w.heap.size w w1 → AppSet B w v ms n (w1.alloc (ndObj n.flip.op n.flip.c)) w1.heap.size) := fun w1 h1 => app_set hB hO h1
  have A2 : Hid (∀ w3, Below B w w3 → NsAt w3 b off ns) := fun w3 h3 => hN.below h3 hb
  have A3 : Hid (∀ w3, Below B w w3 → w3.cell? ⟨b, off + i * 5, none⟩ = some (.int .i64 n.op)) := fun w3 h3 => ((hN.below h3 hb) i n hn).1
  have C1 : Hid (∀ w3 u0, Below B w w3 → NsOwn w3 B u0 (ms ++ [n.flip]) → Calls Tryd.prog 57 #[u0, .slice (some ⟨b, off, none⟩) ns.length cap, .int .i64 (k : Int)] w3 fun e w' => ∃ u0, e = .returned u0 ∧ Below B w3 w' ∧ NsOwn w' B u0 (ms ++ [n.flip] ++ u)) := by
    intro w3 u0 h3 ho
    have := hu B w3 u0 (ms ++ [n.flip]) hb (Nat.le_trans hB h3.size) (A2.out w3 h3) ho (by simp at h60 ⊢; omega)
    exact this
  have C2 : Hid (∀ w3 u0, Below B w w3 → NsOwn w3 B u0 (ms ++ [n.flip] ++ u) → Calls Tryd.prog 57 #[u0, .slice (some ⟨b, off, none⟩) ns.length cap, .int .i64 ((i : Int) + 1)] w3 fun e w' => ∃ u0, e = .returned u0 ∧ Below B w3 w' ∧ NsOwn w' B u0 (ms ++ [n.flip] ++ u ++ t)) := by
    intro w3 u0 h3 ho
    have := ht B w3 u0 (ms ++ [n.flip] ++ u) hb (Nat.le_trans hB h3.size) (A2.out w3 h3) ho (by simp at h60 ⊢; omega)
    rw [arg_succ] at this
    exact this
  have CE : Hid (∀ w3, Below B w w3 → Calls Tryd.prog 54 #[.slice (some ⟨b, off, none⟩) ns.length cap, .int .i64 ((i : Int) + 1)] w3 fun e w' => e = .returned (.tuple #[.int .i64 k, .bool true]) ∧ w' = w3) := by
    intro w3 h3
    have := hE w3 (A2.out w3 h3)
    rw [arg_succ] at this
    exact this
  have H60 : Hid (ms.length + [n.flip].length ≤ 60) := by show _ ≤ _; simp at h60 ⊢; omega
  have HR : Hid (ms ++ (n.flip :: (u ++ t)) = ms ++ [n.flip] ++ u ++ t) := by show _ = _; simp
  obtain ⟨op, c⟩ := n
  simp only at *
  subst h0
  clear hn hO hN h60 ht hu hE A2
  go_enter Tryd.func57, Tryd.ntmps57
  go_wp2_with fail
  refine Calls.mono (CT.out _) ?_
  rintro e w1 ⟨rfl, hb1⟩
  have S1 : Hid _ := A1.out w1 hb1
  clear hb1
  go_wp2_with (at_builtin; refine wpList_append_ns (by rfl) _ _ (by rfl) B _ (by rfl) ms S1.out.o w1.heap.size _ _ _ (by rfl) (by rfl) S1.out.c (by simp) (by have := H60.out; simp at this ⊢; omega) S1.out.s ?_; intro g3 cap3 w3 ho3 hg3 hb3 hl3; have O3 : Hid _ := ho3; have B3 : Hid (Below B w w3) := S1.out.b.grown hg3 S1.out.s S1.out.own; have q3 := A3.out w3 B3.out; clear ho3 hg3 hb3 hl3)
  refine Calls.mono (CE.out _ B3.out) ?_
  rintro e w3 ⟨rfl, rfl⟩
  go_wp2_with fail
  refine Calls.mono (C1.out _ _ B3.out O3.out) ?_
  rintro e w4 ⟨u1, rfl, h4, o4⟩
  have B4 : Hid (Below B w w4) := B3.out.trans h4
  have O4 : Hid _ := o4
  clear h4 o4
  go_wp2_with fail
  refine Calls.mono (C2.out _ _ B4.out O4.out) ?_
  rintro e w5 ⟨u2, rfl, h5, o5⟩
  have B5 : Hid (Below B w w5) := B4.out.trans h5
  have O5 : Hid _ := o5
  clear h5 o5
  go_wp2
  go_ret
  exact ⟨_, rfl, B5.out, by rw [HR.out]; exact O5.out⟩
set_option maxHeartbeats 4000000 in
theorem app_or (ns : List Nd) (b off cap : Nat) (hm : ns.length ≤ 60) (i : Nat) (n : Nd) (hn : ns[i]? = some n) (h0 : n.op = 4) (k : Nat) (t u : List Nd) (ht : AppOk ns b off cap (i + 1) t) (hu : AppOk ns b off cap k u)
    (hE : ∀ w : World, NsAt w b off ns → Calls Tryd.prog 54 #[.slice (some ⟨b, off, none⟩) ns.length cap, .int .i64 (i + 1 : Nat)] w fun e w' => e = .returned (.tuple #[.int .i64 k, .bool true]) ∧ w' = w) : AppOk ns b off cap i (n.flip :: (t ++ u)) := by
  intro B w v ms hb hB hN hO h60
  have hil : i < ns.length := by
    rcases Nat.lt_or_ge i ns.length with h' | h'
    · exact h'
    · rw [List.getElem?_eq_none h'] at hn; cases hn
  obtain ⟨c0, c1, c2, c3, c4⟩ := hN i n hn
  have i0 : (0 : Int) ≤ (i : Int) := by omega
  have i1 : (i : Int) < (ns.length : Int) := by omega
  have CT : Hid _ := turnedNode_any n
  have A1 : Hid (∀ w1, Below w.heap.size w w1 → AppSet B w v ms n (w1.alloc (ndObj n.flip.op n.flip.c)) w1.heap.size) := fun w1 h1 => app_set hB hO h1
  have A2 : Hid (∀ w3, Below B w w3 → NsAt w3 b off ns) := fun w3 h3 => hN.below h3 hb
  have A3 : Hid (∀ w3, Below B w w3 → w3.cell? ⟨b, off + i * 5, none⟩ = some (.int .i64 n.op)) := fun w3 h3 => ((hN.below h3 hb) i n hn).1
  have C1 : Hid (∀ w3 u0, Below B w w3 → NsOwn w3 B u0 (ms ++ [n.flip]) → Calls Tryd.prog 57 #[u0, .slice (some ⟨b, off, none⟩) ns.length cap, .int .i64 ((i : Int) + 1)] w3 fun e w' => ∃ u0, e = .returned u0 ∧ Below B w3 w' ∧ NsOwn w' B u0 (ms ++ [n.flip] ++ t)) := by
    intro w3 u0 h3 ho
    have := ht B w3 u0 (ms ++ [n.flip]) hb (Nat.le_trans hB h3.size) (A2.out w3 h3) ho (by simp at h60 ⊢; omega)
    rw [arg_succ] at this
    exact this
  have C2 : Hid (∀ w3 u0, Below B w w3 → NsOwn w3 B u0 (ms ++ [n.flip] ++ t) → Calls Tryd.prog 57 #[u0, .slice (some ⟨b, off, none⟩) ns.length cap, .int .i64 (k : Int)] w3 fun e w' => ∃ u0, e = .returned u0 ∧ Below B w3 w' ∧ NsOwn w' B u0 (ms ++ [n.flip] ++ t ++ u)) := by
    intro w3 u0 h3 ho
    have := hu B w3 u0 (ms ++ [n.flip] ++ t) hb (Nat.le_trans hB h3.size) (A2.out w3 h3) ho (by simp at h60 ⊢; omega)
    exact this
  have CE : Hid (∀ w3, Below B w w3 → Calls Tryd.prog 54 #[.slice (some ⟨b, off, none⟩) ns.length cap, .int .i64 ((i : Int) + 1)] w3 fun e w' => e = .returned (.tuple #[.int .i64 k, .bool true]) ∧ w' = w3) := by
    intro w3 h3
    have := hE w3 (A2.out w3 h3)
    rw [arg_succ] at this
    exact this
  have H60 : Hid (ms.length + [n.flip].length ≤ 60) := by show _ ≤ _; simp at h60 ⊢; omega
  have HR : Hid (ms ++ (n.flip :: (t ++ u)) = ms ++ [n.flip] ++ t ++ u) := by show _ = _; simp
  obtain ⟨op, c⟩ := n
  simp only at *
  subst h0
  clear hn hO hN h60 ht hu hE A2
  go_enter Tryd.func57, Tryd.ntmps57
  go_wp2_with fail
  refine Calls.mono (CT.out _) ?_
  rintro e w1 ⟨rfl, hb1⟩
  have S1 : Hid _ := A1.out w1 hb1
  clear hb1
  go_wp2_with (at_builtin; refine wpList_append_ns (by rfl) _ _ (by rfl) B _ (by rfl) ms S1.out.o w1.heap.size _ _ _ (by rfl) (by rfl) S1.out.c (by simp) (by have := H60.out; simp at this ⊢; omega) S1.out.s ?_; intro g3 cap3 w3 ho3 hg3 hb3 hl3; have O3 : Hid _ := ho3; have B3 : Hid (Below B w w3) := S1.out.b.grown hg3 S1.out.s S1.out.own; have q3 := A3.out w3 B3.out; clear ho3 hg3 hb3 hl3)
  refine Calls.mono (CE.out _ B3.out) ?_
  rintro e w3 ⟨rfl, rfl⟩
  go_wp2_with fail
  refine Calls.mono (C1.out _ _ B3.out O3.out) ?_
  rintro e w4 ⟨u1, rfl, h4, o4⟩
  have B4 : Hid (Below B w w4) := B3.out.trans h4
  have O4 : Hid _ := o4
  clear h4 o4
  go_wp2_with fail
  refine Calls.mono (C2.out _ _ B4.out O4.out) ?_
  rintro e w5 ⟨u2, rfl, h5, o5⟩
  have B5 : Hid (Below B w w5) := B4.out.trans h5
  have O5 : Hid _ := o5
  clear h5 o5
  go_wp2
  go_ret
  exact ⟨_, rfl, B5.out, by rw [HR.out]; exact O5.out⟩
theorem app_at (ns : List Nd) (b off cap : Nat) (hm : ns.length ≤ 60) : ∀ (f i j : Nat), f ≤ ns.length + 1 → endF ns f i = some j → AppOk ns b off cap i (turF ns f i) := by
  intro f
  induction f with
  | zero => intro i j _ h; simp [endF] at h
  | succ f ih =>
    intro i j hf h
    obtain ⟨n, hn, hil, hc⟩ := part_cases ns f i j h
    rw [turF_at ns f i n hn]
    rcases hc with ⟨h0, rfl⟩ | ⟨h0, h1⟩ | ⟨h0, k, h1, h2⟩
    · have e3 : ¬ n.op = 3 := by intro e; rw [e] at h0; simp [prt] at h0
      have e4 : ¬ n.op = 4 := by intro e; rw [e] at h0; simp [prt] at h0
      rw [if_neg (by omega), if_neg e3, if_neg e4]
      exact app_leaf ns b off cap hm i n hn h0
    · rw [if_pos h0]
      exact app_one ns b off cap hm i n hn h0 _ (ih _ _ (by omega) h1)
    · rw [if_neg (by omega), endE_of ns f (i + 1) k (by omega) h1, Option.getD_some]
      have hE : ∀ w : World, NsAt w b off ns → Calls Tryd.prog 54 #[.slice (some ⟨b, off, none⟩) ns.length cap, .int .i64 (i + 1 : Nat)] w fun e w' => e = .returned (.tuple #[.int .i64 k, .bool true]) ∧ w' = w := fun w hN => behind_k ns b off cap hm w hN (i + 1) f k h1
      rcases (prt_two n.op).1 h0 with e3 | e4
      · rw [if_pos e3]
        exact app_cat ns b off cap hm i n hn e3 k _ _ (ih _ _ (by omega) h1) (ih _ _ (by omega) h2) hE
      · rw [if_neg (by omega), if_pos e4]
        exact app_or ns b off cap hm i n hn e4 k _ _ (ih _ _ (by omega) h1) (ih _ _ (by omega) h2) hE
end Go.Proofs.YtajkkmnojfghoaaDoor
namespace Go.Proofs.YtajkkmnojfghoaaDoor
set_option linter.unusedSimpArgs false
set_option linter.unusedVariables false
set_option maxRecDepth 100000
open Go.RowKit

set_option maxHeartbeats 4000000 in
theorem rturn_any (ns : List Nd) (v : Value) (w : World) (hN : NsIn w v ns) :
    Calls Tryd.prog 30 #[v] w fun e w' => ∃ u, e = .returned (.tuple #[u, errV (faultL ns)]) ∧ Below w.heap.size w w' ∧ NsIn w' u (if faultL ns = 0 then turE ns else []) := by
  have CC : Hid _ := rcheck_any ns v w hN
  have hinfo : (Tryd.prog.info? 56).map (fun i => (i.zero, i.size, i.bytes)) = some (some (.agg #[.int .i64 0, .int .u64 0, .int .u64 0, .int .u64 0, .int .u64 0]), 5, 40) := by kernel_rfl
  obtain ⟨i0, hi, hz0, hz1, hz2⟩ := info_parts hinfo
  clear hinfo
  by_cases hf : faultL ns = 0
  · obtain ⟨hl, hr, hv⟩ := (faultL_zero ns).1 hf
    obtain ⟨a, cap, rfl, hm, h | ⟨b, off, rfl, hlt, hn⟩⟩ := hN
    · subst h; rw [endE_nil] at hv; cases hv
    have C2 : Hid (∀ w1 w' u, Below w.heap.size w w1 → Below w1.heap.size w1 w' → NsOwn w' w1.heap.size u [] → Calls Tryd.prog 57 #[u, .slice (some ⟨b, off, none⟩) ns.length cap, .int .i64 0] w' fun e w'' => ∃ u, e = .returned u ∧ Below w1.heap.size w' w'' ∧ NsOwn w'' w1.heap.size u (turE ns)) := by
      intro w1 w' u h1 h2 ho
      have := app_at ns b off cap hl (ns.length + 1) 0 ns.length (Nat.le_refl _) hv w1.heap.size w' u [] (Nat.lt_of_lt_of_le hlt h1.size) h2.size ((hn.below h1 hlt).below h2 (Nat.lt_of_lt_of_le hlt h1.size)) ho (by rw [turF_len ns _ 0 _ (Nat.le_refl _) hv]; simp; omega)
      exact this
    have HL : Hid ((turE ns).length ≤ maxLen) := by show _ ≤ _; rw [turE_len ns hv]; unfold maxLen; omega
    rw [hf] at CC ⊢
    rw [if_pos rfl]
    rw [show errV 0 = .nilIface from rfl] at CC ⊢
    clear hr hv hn hf
    go_enter Tryd.func30, Tryd.ntmps30
    go_wp2_with fail
    refine Calls.mono CC.out ?_
    rintro e w1 ⟨rfl, hb⟩
    have B1 : Hid _ := hb
    clear hb
    go_wp2_with (at_make; refine wpList_make_own _ (by rfl) _ _ 40 (by rfl) w1.heap.size 56 i0 _ 5 Tryd.underlying40 hi hz0 hz1 _ _ _ ns.length (by rfl) (by rfl) (by rfl) (by rw [hz2]; omega) (by unfold maxLen; omega) (Nat.le_refl _) ?_; intro w2 ho2 hg2; have O2 : Hid (NsOwn w2 w1.heap.size _ []) := ho2; have B2 : Hid (Below w1.heap.size w1 w2) := (Below.refl _ _).grown hg2 (Nat.le_refl _) (fun k hk => by cases hk); clear ho2 hg2)
    refine Calls.mono (C2.out w1 _ _ B1.out B2.out O2.out) ?_
    rintro e w3 ⟨u, rfl, h3, o3⟩
    have B3 : Hid (Below w.heap.size w w3) := (B1.out.trans (B2.out.mono B1.out.size)).trans (h3.mono B1.out.size)
    have O3 : Hid _ := o3
    clear h3 o3
    go_wp2
    go_ret2
    exact ⟨_, rfl, B3.out, NsOwn.isIn O3.out HL.out⟩
  · obtain ⟨a, cap, rfl, hm, _⟩ := hN
    rw [if_neg hf]
    rw [show errV (faultL ns) = .iface 25 (.int .i64 (faultL ns)) from if_neg hf] at CC ⊢
    clear hf
    generalize faultL ns = ft at *
    go_enter Tryd.func30, Tryd.ntmps30
    go_wp2_with fail
    refine Calls.mono CC.out ?_
    rintro e w1 ⟨rfl, hb⟩
    have B1 : Hid _ := hb
    clear hb
    go_wp2
    go_ret2
    exact ⟨_, rfl, B1.out, nsIn_nil _⟩
theorem rexT : RexT where
  empty := fun ns v w hN _ => rempty_any ns v w hN
  turn := fun ns v w hN _ => rturn_any ns v w hN
end Go.Proofs.YtajkkmnojfghoaaDoor
namespace Go.Proofs.YtajkkmnojfghoaaDoor
set_option linter.unusedSimpArgs false
set_option linter.unusedVariables false
set_option maxRecDepth 100000
open Go.RowKit

set_option maxHeartbeats 400000 in
theorem parts_any (op : Int) (w : World) :
    Calls Tryd.prog 55 #[.int .i64 op] w fun e w' => e = .returned (.int .i64 (prt op)) ∧ w' = w := by
  by_cases h3 : op = 3
  · subst h3
    go_enter Tryd.func55, Tryd.ntmps55
    go_wp2
    go_ret
    exact ⟨rfl, rfl⟩
  · have b3 : (op == 3) = false := by simp [h3]
    by_cases h4 : op = 4
    · subst h4
      go_enter Tryd.func55, Tryd.ntmps55
      go_wp2
      go_ret
      exact ⟨rfl, rfl⟩
    · have b4 : (op == 4) = false := by simp [h4]
      by_cases h5 : op = 5
      · subst h5
        go_enter Tryd.func55, Tryd.ntmps55
        go_wp2
        go_ret
        exact ⟨rfl, rfl⟩
      · have b5 : (op == 5) = false := by simp [h5]
        by_cases h6 : op = 6
        · subst h6
          go_enter Tryd.func55, Tryd.ntmps55
          go_wp2
          go_ret
          exact ⟨rfl, rfl⟩
        · have b6 : (op == 6) = false := by simp [h6]
          by_cases h7 : op = 7
          · subst h7
            go_enter Tryd.func55, Tryd.ntmps55
            go_wp2
            go_ret
            exact ⟨rfl, rfl⟩
          · have b7 : (op == 7) = false := by simp [h7]
            have e0 : prt op = 0 := by unfold prt; simp [h3, h4, h5, h6, h7]
            rw [e0]
            clear h3 h4 h5 h6 h7 e0
            go_enter Tryd.func55, Tryd.ntmps55
            go_wp2
            go_ret
            exact ⟨rfl, rfl⟩
set_option maxHeartbeats 1000000 in
theorem endOf_walk (ns : List Nd) (b off cap f i : Nat) (hm : ns.length ≤ maxLen) (w : World) (hN : NsAt w b off ns)
    (ih : ∀ j, ns.length + 1 ≤ f + j → Calls Tryd.prog 32 #[.slice (some ⟨b, off, none⟩) ns.length cap, .int .i64 j] w fun e w' => e = .returned (.int .i64 (endI (endF ns f j))) ∧ w' = w)
    (hf : ns.length + 1 ≤ f + 1 + i) :
    Calls Tryd.prog 32 #[.slice (some ⟨b, off, none⟩) ns.length cap, .int .i64 i] w fun e w' => e = .returned (.int .i64 (endI (endF ns (f + 1) i))) ∧ w' = w := by
  have IH := (show Hid _ from ih)
  unfold maxLen at hm
  clear ih
  by_cases hi : i < ns.length
  · obtain ⟨n, hn⟩ : ∃ n, ns[i]? = some n := ⟨ns[i], List.getElem?_eq_getElem hi⟩
    obtain ⟨c0, _⟩ := hN i n hn
    have HF : Hid _ := endF_fin ns f i n hn
    have hp := prt_le n.op
    have i0 : (0 : Int) ≤ (i : Int) := by omega
    have i1 : (i : Int) < (ns.length : Int) := by omega
    have hd : decide (ns.length ≤ i) = false := by simp; omega
    clear hn
    go_enter Tryd.func32, Tryd.ntmps32
    go_wp2_with fail
    refine (parts_any _ _).mono ?_
    rintro e w1 ⟨rfl, rfl⟩
    generalize hpr : prt n.op = pr at *
    clear hpr
    go_wp2_with fail
    go_loop [1, 5] (fun v u => ∃ (m : Nat) (o : Option Nat), m ≤ 2 ∧ u = .int .i64 m ∧ v = .int .i64 (endI o) ∧ Hid (fin ns f m o = endF ns (f + 1) i) ∧ Hid (∀ j, o = some j → i < j ∧ j ≤ ns.length)) (fun _ u => (intOf u).toNat)
    case atStart => exact ⟨pr, some (i + 1), by omega, rfl, by go_num, HF.out.symm, fun j hj => by simp at hj; omega⟩
    case round =>
      obtain ⟨m, o, hm2, rfl, rfl, HX, HJ⟩ := hrel
      cases m with
      | zero =>
        go_wp2
        go_ret
        exact ⟨by rw [← HX.out]; rfl, rfl⟩
      | succ m =>
        have m0 : (0 : Int) < ((m + 1 : Nat) : Int) := by omega
        cases o with
        | none =>
          simp only [endI]
          go_wp2
          go_ret
          exact ⟨by rw [← HX.out, fin_none]; rfl, rfl⟩
        | some j =>
          have hj := HJ.out j rfl
          simp only [endI]
          go_wp2_with fail
          refine (IH.out j (by omega)).mono ?_
          rintro e w1 ⟨rfl, rfl⟩
          go_wp2
          refine ⟨⟨m, endF ns f j, by omega, by go_num, rfl, ?_, ?_⟩, by simp [intOf]⟩
          · rw [← HX.out]; exact (Eq.refl (fin ns f m (endF ns f j)))
          · intro k hk
            have := endF_gt ns f j k hk
            omega
  · have hd : decide (ns.length ≤ i) = true := by simp; omega
    have HF : Hid (endF ns (f + 1) i = none) := by
      show _ = _
      rw [endF, List.getElem?_eq_none (by omega)]
    go_enter Tryd.func32, Tryd.ntmps32
    go_wp2
    go_ret
    exact ⟨by rw [HF.out]; rfl, rfl⟩
set_option maxHeartbeats 1000000 in
theorem endOf_out (ns : List Nd) (a : Option Addr) (cap i : Nat) (hm : ns.length ≤ maxLen) (w : World) (hi : ns.length ≤ i) :
    Calls Tryd.prog 32 #[.slice a ns.length cap, .int .i64 i] w fun e w' => e = .returned (.int .i64 (-1)) ∧ w' = w := by
  unfold maxLen at hm
  have hd : decide (ns.length ≤ i) = true := by simp; omega
  go_enter Tryd.func32, Tryd.ntmps32
  go_wp2
  go_ret
  exact ⟨rfl, rfl⟩
theorem endOf_at (ns : List Nd) (b off cap : Nat) (hm : ns.length ≤ maxLen) (w : World) (hN : NsAt w b off ns) : ∀ (f i : Nat), ns.length + 1 ≤ f + i →
    Calls Tryd.prog 32 #[.slice (some ⟨b, off, none⟩) ns.length cap, .int .i64 i] w fun e w' => e = .returned (.int .i64 (endI (endF ns f i))) ∧ w' = w := by
  intro f
  induction f with
  | zero =>
    intro i h
    exact endOf_out ns _ cap i hm w (by omega)
  | succ f ih =>
    intro i h
    exact endOf_walk ns b off cap f i hm w hN ih (by omega)
theorem endOf_any (ns : List Nd) (v : Value) (i : Nat) (w : World) (hN : NsIn w v ns) :
    Calls Tryd.prog 32 #[v, .int .i64 i] w fun e w' => e = .returned (.int .i64 (endI (endE ns i))) ∧ w' = w := by
  obtain ⟨a, cap, rfl, hm, h | ⟨b, off, rfl, hlt, hn⟩⟩ := hN
  · subst h
    rw [endE_nil]
    exact endOf_out [] a cap i hm w (by simp)
  · exact endOf_at ns b off cap hm w hn (ns.length + 1) i (by omega)
end Go.Proofs.YtajkkmnojfghoaaDoor
namespace Go.Proofs.YtajkkmnojfghoaaDoor
set_option linter.unusedSimpArgs false
set_option linter.unusedVariables false
set_option maxRecDepth 100000
open Go.RowKit

theorem endOf_k (ns : List Nd) (v : Value) (i f k : Nat) (w : World) (hN : NsIn w v ns) (hf : f ≤ ns.length + 1) (h : endF ns f i = some k) :
    Calls Tryd.prog 32 #[v, .int .i64 i] w fun e w' => e = .returned (.int .i64 k) ∧ w' = w := by
  have h1 := endOf_any ns v i w hN
  rw [endE_of ns f i k hf h] at h1
  exact h1
set_option maxHeartbeats 4000000 in
theorem emptyOf_at (ns : List Nd) (b off cap : Nat) (hm : ns.length ≤ maxLen) (w : World) (hlt : b < w.heap.size) (hN : NsAt w b off ns) : ∀ (f i j : Nat), f ≤ ns.length + 1 → endF ns f i = some j →
    Calls Tryd.prog 27 #[.slice (some ⟨b, off, none⟩) ns.length cap, .int .i64 i] w fun e w' => e = .returned (.bool (empF ns f i)) ∧ w' = w := by
  have HIn : Hid (NsIn w (.slice (some ⟨b, off, none⟩) ns.length cap) ns) := ⟨_, cap, rfl, hm, Or.inr ⟨b, off, rfl, hlt, hN⟩⟩
  unfold maxLen at hm
  intro f
  induction f with
  | zero => intro i j _ h; simp [endF] at h
  | succ f ih =>
    intro i j hf h
    have IH := (show Hid _ from ih)
    clear ih
    obtain ⟨n, hn, hil, hc⟩ := part_cases ns f i j h
    have HC := (show Hid _ from hc)
    have HE : Hid _ := empF_at ns f i n hn
    obtain ⟨c0, _⟩ := hN i n hn
    have i0 : (0 : Int) ≤ (i : Int) := by omega
    have i1 : (i : Int) < (ns.length : Int) := by omega
    have hs := arg_succ i
    have HS := (show Hid _ from hs)
    clear hc hn h hs
    by_cases o1 : n.op = 1
    · have p1 : (n.op == 1) = true := by simp [o1]
      have HX : Hid (empF ns (f + 1) i = false) := by show _ = _; rw [HE.out, if_pos o1]
      clear o1
      go_enter Tryd.func27, Tryd.ntmps27
      go_wp2
      go_ret
      exact ⟨by rw [HX.out]; rfl, rfl⟩
    · have p1 : (n.op == 1) = false := by simp [o1]
      by_cases o3 : n.op = 3
      · have p3 : (n.op == 3) = true := by simp [o3]
        obtain ⟨k, hk1, hk2⟩ : ∃ k, endF ns f (i + 1) = some k ∧ endF ns f k = some j := by
          rcases HC.out with ⟨h0, _⟩ | ⟨h0, _⟩ | ⟨_, h0⟩
          · rw [o3] at h0; simp [prt] at h0
          · rw [o3] at h0; simp [prt] at h0
          · exact h0
        have HX : Hid (empF ns (f + 1) i = (empF ns f (i + 1) && empF ns f k)) := by
          show _ = _
          rw [HE.out, if_neg o1, if_pos o3, endE_of ns f (i + 1) k (by omega) hk1]; rfl
        have c1 := IH.out (i + 1) k (by omega) hk1
        have c2 := endOf_k ns _ (i + 1) f k w HIn.out (by omega) hk1
        have c3 := IH.out k j (by omega) hk2
        rw [HS.out] at c1 c2
        have C1 := (show Hid _ from c1)
        have C2 := (show Hid _ from c2)
        have C3 := (show Hid _ from c3)
        clear o1 o3 c1 c2 c3 hk1 hk2
        generalize empF ns f (i + 1) = x at *
        generalize empF ns f k = y at *
        cases x
        all_goals
          go_enter Tryd.func27, Tryd.ntmps27
          go_wp2_with fail
          refine Calls.mono C1.out ?_
          rintro e w1 ⟨rfl, rfl⟩
          go_wp2_with fail
          refine Calls.mono C2.out ?_
          rintro e w1 ⟨rfl, rfl⟩
          go_wp2_with fail
          refine Calls.mono C3.out ?_
          rintro e w1 ⟨rfl, rfl⟩
          go_wp2
          go_ret
          exact ⟨by rw [HX.out]; rfl, rfl⟩
      · have p3 : (n.op == 3) = false := by simp [o3]
        by_cases o4 : n.op = 4
        · have p4 : (n.op == 4) = true := by simp [o4]
          obtain ⟨k, hk1, hk2⟩ : ∃ k, endF ns f (i + 1) = some k ∧ endF ns f k = some j := by
            rcases HC.out with ⟨h0, _⟩ | ⟨h0, _⟩ | ⟨_, h0⟩
            · rw [o4] at h0; simp [prt] at h0
            · rw [o4] at h0; simp [prt] at h0
            · exact h0
          have HX : Hid (empF ns (f + 1) i = (empF ns f (i + 1) || empF ns f k)) := by
            show _ = _
            rw [HE.out, if_neg o1, if_neg o3, if_pos o4, endE_of ns f (i + 1) k (by omega) hk1]; rfl
          have c1 := IH.out (i + 1) k (by omega) hk1
          have c2 := endOf_k ns _ (i + 1) f k w HIn.out (by omega) hk1
          have c3 := IH.out k j (by omega) hk2
          rw [HS.out] at c1 c2
          have C1 := (show Hid _ from c1)
          have C2 := (show Hid _ from c2)
          have C3 := (show Hid _ from c3)
          clear o1 o3 o4 c1 c2 c3 hk1 hk2
          generalize empF ns f (i + 1) = x at *
          generalize empF ns f k = y at *
          cases x
          all_goals
            go_enter Tryd.func27, Tryd.ntmps27
            go_wp2_with fail
            refine Calls.mono C1.out ?_
            rintro e w1 ⟨rfl, rfl⟩
            go_wp2_with fail
            refine Calls.mono C2.out ?_
            rintro e w1 ⟨rfl, rfl⟩
            go_wp2_with fail
            refine Calls.mono C3.out ?_
            rintro e w1 ⟨rfl, rfl⟩
            go_wp2
            go_ret
            exact ⟨by rw [HX.out]; rfl, rfl⟩
        · have p4 : (n.op == 4) = false := by simp [o4]
          by_cases o6 : n.op = 6
          · have p6 : (n.op == 6) = true := by simp [o6]
            have hk1 : endF ns f (i + 1) = some j := by
              rcases HC.out with ⟨h0, _⟩ | ⟨_, h0⟩ | ⟨h0, _⟩
              · rw [o6] at h0; simp [prt] at h0
              · exact h0
              · rw [o6] at h0; simp [prt] at h0
            have HX : Hid (empF ns (f + 1) i = empF ns f (i + 1)) := by
              show _ = _
              rw [HE.out, if_neg o1, if_neg o3, if_neg o4, if_pos o6]
            have c1 := IH.out (i + 1) j (by omega) hk1
            rw [HS.out] at c1
            have C1 := (show Hid _ from c1)
            clear o1 o3 o4 o6 c1 hk1
            go_enter Tryd.func27, Tryd.ntmps27
            go_wp2_with fail
            refine Calls.mono C1.out ?_
            rintro e w1 ⟨rfl, rfl⟩
            go_wp2
            go_ret
            exact ⟨by rw [HX.out]; rfl, rfl⟩
          · have p6 : (n.op == 6) = false := by simp [o6]
            have HX : Hid (empF ns (f + 1) i = true) := by
              show _ = _
              rw [HE.out, if_neg o1, if_neg o3, if_neg o4, if_neg o6]
            clear o1 o3 o4 o6
            go_enter Tryd.func27, Tryd.ntmps27
            go_wp2
            go_ret
            exact ⟨by rw [HX.out]; rfl, rfl⟩
theorem emptyOf_any (ns : List Nd) (v : Value) (w : World) (hN : NsIn w v ns) (hv : endE ns 0 = some ns.length) :
    Calls Tryd.prog 27 #[v, .int .i64 0] w fun e w' => e = .returned (.bool (empE ns)) ∧ w' = w := by
  obtain ⟨a, cap, rfl, hm, h | ⟨b, off, rfl, hlt, hn⟩⟩ := hN
  · subst h
    rw [endE_nil] at hv; cases hv
  · exact emptyOf_at ns b off cap hm w hlt hn (ns.length + 1) 0 ns.length (by omega) hv
end Go.Proofs.YtajkkmnojfghoaaDoor

/- Package rex: turnedNode, appendTurned, Turn. -/
import Derived.Test.YtldiaokjgfoomaaDoorRw3
import Derived.Test.YtldiaokjgfoomaaDoorNdA
set_option linter.unusedSimpArgs false
set_option linter.unusedVariables false
set_option maxRecDepth 100000
namespace Go.Proofs.YtldiaokjgfoomaaDoor
open Go.RowKit

set_option maxHeartbeats 1000000 in
theorem turnedNode_any (n : Nd) (w : World) :
    Calls Tryd.prog 50 #[n.v] w fun e w' => e = .returned n.flip.v ∧ Below w.heap.size w w' := by
  obtain ⟨op, c⟩ := n
  by_cases h8 : op = 8
  · subst h8
    go_enter Tryd.func50, Tryd.ntmps50
    go_wp2
    refine bodyPost_ret (v := (Nd.flip ⟨8, c⟩).v) (by simp [results, Tryd.results50, go_sem, Nd.flip, flipOp]) rfl ⟨rfl, ?_⟩
    exact ((Below.refl _ _).alloc (Nat.le_refl _) _).alloc (by simp) _
  by_cases h9 : op = 9
  · subst h9
    go_enter Tryd.func50, Tryd.ntmps50
    go_wp2
    refine bodyPost_ret (v := (Nd.flip ⟨9, c⟩).v) (by simp [results, Tryd.results50, go_sem, Nd.flip, flipOp]) rfl ⟨rfl, ?_⟩
    exact ((Below.refl _ _).alloc (Nat.le_refl _) _).alloc (by simp) _
  have p8 : (op == 8) = false := by simp [h8]
  have p9 : (op == 9) = false := by simp [h9]
  have HF : Hid (Nd.flip ⟨op, c⟩ = ⟨op, c⟩) := by show _ = _; simp [Nd.flip, flipOp, h8, h9]
  rw [HF.out]
  clear h8 h9
  go_enter Tryd.func50, Tryd.ntmps50
  go_wp2
  refine bodyPost_ret (v := (Nd.mk op c).v) (by simp [results, Tryd.results50, go_sem]) rfl ⟨rfl, ?_⟩
  exact ((Below.refl _ _).alloc (Nat.le_refl _) _).alloc (by simp) _
def ndObj (op : Int) (c : C4) : Obj := .cells #[.int .i64 op, .int .u64 c.a, .int .u64 c.b, .int .u64 c.c, .int .u64 c.d] 60 (0, 0)
/-- The world ahead of the append. -/
structure AppSet (B : Nat) (w : World) (v : Value) (ms : List Nd) (n : Nd) (w2 : World) (g : Nat) : Prop where
  b : Below B w w2
  s : B ≤ w2.heap.size
  o : NsOwn w2 B v ms
  c : ∀ j u, (nsCells [n.flip])[j]? = some u → w2.cell? ⟨g, j, none⟩ = some u
  own : ∀ k, v.ownBlock = some k → B ≤ k
theorem app_set {B : Nat} {w w1 : World} {v : Value} {ms : List Nd} {n : Nd} (hB : B ≤ w.heap.size) (hO : NsOwn w B v ms) (h1 : Below w.heap.size w w1) : AppSet B w v ms n (w1.alloc (ndObj n.flip.op n.flip.c)) w1.heap.size := by
  have hs := h1.size
  have b2 : Below w.heap.size w (w1.alloc (ndObj n.flip.op n.flip.c)) := h1.alloc hs _
  have e : (w1.alloc (ndObj n.flip.op n.flip.c)).heap[w1.heap.size]? = some (ndObj n.flip.op n.flip.c) := by show (w1.heap.push _)[w1.heap.size]? = _; simp
  refine ⟨b2.mono hB, ?_, hO.below b2, ?_, ?_⟩
  · have := b2.size; omega
  · intro j u hj
    rw [Lib.cell_of_heap e]
    simp only [nsCells, List.append_nil] at hj
    simpa using hj
  · intro k hk
    rcases hO.2 with ⟨hv, _⟩ | ⟨g, cap, cur, hv, hg, _⟩
    · rw [hv] at hk; cases hk
    · rw [hv] at hk
      injection hk with hk
      simp only at hk
      omega
/-- The contract of a call at i: what is turned stands behind what was there. -/
def AppOk (ns : List Nd) (b off cap i : Nat) (t : List Nd) : Prop := ∀ (B : Nat) (w : World) (v : Value) (ms : List Nd), b < B → B ≤ w.heap.size → NsAt w b off ns → NsOwn w B v ms → ms.length + t.length ≤ 60 →
  Calls Tryd.prog 42 #[v, .slice (some ⟨b, off, none⟩) ns.length cap, .int .i64 i] w fun e w' => ∃ u, e = .returned u ∧ Below B w w' ∧ NsOwn w' B u (ms ++ t)
set_option maxHeartbeats 4000000 in
theorem app_leaf (ns : List Nd) (b off cap : Nat) (hm : ns.length ≤ 60) (i : Nat) (n : Nd) (hn : ns[i]? = some n) (h0 : prt n.op = 0) : AppOk ns b off cap i [n.flip] := by
  intro B w v ms hb hB hN hO h60
  have hil : i < ns.length := by
    rcases Nat.lt_or_ge i ns.length with h' | h'
    · exact h'
    · rw [List.getElem?_eq_none h'] at hn; cases hn
  obtain ⟨c0, c1, c2, c3, c4⟩ := hN i n hn
  have i0 : (0 : Int) ≤ (i : Int) := by omega
  have i1 : (i : Int) < (ns.length : Int) := by omega
  have CT : Hid _ := turnedNode_any n
  have A1 : Hid (∀ w1, Below w.heap.size w w1 → AppSet B w v ms n (w1.alloc (ndObj n.flip.op n.flip.c)) w1.heap.size) := fun w1 h1 => app_set hB hO h1
  have A2 : Hid (∀ w3, Below B w w3 → NsAt w3 b off ns) := fun w3 h3 => hN.below h3 hb
  have A3 : Hid (∀ w3, Below B w w3 → w3.cell? ⟨b, off + i * 5, none⟩ = some (.int .i64 n.op)) := fun w3 h3 => ((hN.below h3 hb) i n hn).1
  have p3 : (n.op == 3) = false := by rw [beq_eq_false_iff_ne]; intro e; rw [e] at h0; simp [prt] at h0
  have p4 : (n.op == 4) = false := by rw [beq_eq_false_iff_ne]; intro e; rw [e] at h0; simp [prt] at h0
  have p5 : (n.op == 5) = false := by rw [beq_eq_false_iff_ne]; intro e; rw [e] at h0; simp [prt] at h0
  have p6 : (n.op == 6) = false := by rw [beq_eq_false_iff_ne]; intro e; rw [e] at h0; simp [prt] at h0
  have p7 : (n.op == 7) = false := by rw [beq_eq_false_iff_ne]; intro e; rw [e] at h0; simp [prt] at h0
  have H60 : Hid _ := h60
  clear hn h0 hO hN h60
  go_enter Tryd.func42, Tryd.ntmps42
  go_wp2_with fail
  refine Calls.mono (CT.out _) ?_
  rintro e w1 ⟨rfl, hb1⟩
  have S1 : Hid _ := A1.out w1 hb1
  clear hb1
  go_wp2_with (at_builtin; refine wpList_append_ns (by rfl) _ _ (by rfl) B _ (by rfl) ms S1.out.o w1.heap.size _ _ _ (by rfl) (by rfl) S1.out.c (by simp) (by have := H60.out; simp at this ⊢; omega) S1.out.s ?_; intro g3 cap3 w3 ho3 hg3 hb3 hl3; have O3 : Hid _ := ho3; have B3 : Hid (Below B w w3) := S1.out.b.grown hg3 S1.out.s S1.out.own; have q3 := A3.out w3 B3.out; clear ho3 hg3 hb3 hl3)
  go_ret
  exact ⟨_, rfl, B3.out, O3.out⟩
theorem own_len (ms : List Nd) (n : Nd) : (ms ++ [n]).length = ms.length + 1 := by simp
set_option maxHeartbeats 4000000 in
theorem app_one (ns : List Nd) (b off cap : Nat) (hm : ns.length ≤ 60) (i : Nat) (n : Nd) (hn : ns[i]? = some n) (h0 : prt n.op = 1) (t : List Nd) (ht : AppOk ns b off cap (i + 1) t) : AppOk ns b off cap i (n.flip :: t) := by
  intro B w v ms hb hB hN hO h60
  have hil : i < ns.length := by
    rcases Nat.lt_or_ge i ns.length with h' | h'
    · exact h'
    · rw [List.getElem?_eq_none h'] at hn; cases hn
  obtain ⟨c0, c1, c2, c3, c4⟩ := hN i n hn
  have i0 : (0 : Int) ≤ (i : Int) := by omega
  have i1 : (i : Int) < (ns.length : Int) := by omega
  have CT : Hid _ := turnedNode_any n
  have A1 : Hid (∀ w1, Below w.heap.size w w1 → AppSet B w v ms n (w1.alloc (ndObj n.flip.op n.flip.c)) w1.heap.size) := fun w1 h1 => app_set hB hO h1
  have A2 : Hid (∀ w3, Below B w w3 → NsAt w3 b off ns) := fun w3 h3 => hN.below h3 hb
  have A3 : Hid (∀ w3, Below B w w3 → w3.cell? ⟨b, off + i * 5, none⟩ = some (.int .i64 n.op)) := fun w3 h3 => ((hN.below h3 hb) i n hn).1
  have C1 : Hid (∀ w3 u, Below B w w3 → NsOwn w3 B u (ms ++ [n.flip]) → Calls Tryd.prog 42 #[u, .slice (some ⟨b, off, none⟩) ns.length cap, .int .i64 ((i : Int) + 1)] w3 fun e w' => ∃ u, e = .returned u ∧ Below B w3 w' ∧ NsOwn w' B u (ms ++ (n.flip :: t))) := by
    intro w3 u h3 ho
    have := ht B w3 u (ms ++ [n.flip]) hb (Nat.le_trans hB h3.size) (A2.out w3 h3) ho (by simp at h60 ⊢; omega)
    rw [arg_succ, List.append_assoc] at this
    exact this
  have H60 : Hid (ms.length + [n.flip].length ≤ 60) := by show _ ≤ _; simp at h60 ⊢; omega
  have h3 := (prt_one n.op).1 h0
  obtain ⟨op, c⟩ := n
  simp only at *
  clear hn h0 hO hN h60 ht A2
  rcases h3 with rfl | rfl | rfl
  · go_enter Tryd.func42, Tryd.ntmps42
    go_wp2_with fail
    refine Calls.mono (CT.out _) ?_
    rintro e w1 ⟨rfl, hb1⟩
    have S1 : Hid _ := A1.out w1 hb1
    clear hb1
    go_wp2_with (at_builtin; refine wpList_append_ns (by rfl) _ _ (by rfl) B _ (by rfl) ms S1.out.o w1.heap.size _ _ _ (by rfl) (by rfl) S1.out.c (by simp) (by have := H60.out; simp at this ⊢; omega) S1.out.s ?_; intro g3 cap3 w3 ho3 hg3 hb3 hl3; have O3 : Hid _ := ho3; have B3 : Hid (Below B w w3) := S1.out.b.grown hg3 S1.out.s S1.out.own; have q3 := A3.out w3 B3.out; clear ho3 hg3 hb3 hl3)
    refine Calls.mono (C1.out _ _ B3.out O3.out) ?_
    rintro e w4 ⟨u, rfl, h4, o4⟩
    have B4 : Hid _ := And.intro h4 o4
    clear h4 o4
    go_wp2
    go_ret
    exact ⟨_, rfl, B3.out.trans B4.out.1, B4.out.2⟩
  · go_enter Tryd.func42, Tryd.ntmps42
    go_wp2_with fail
    refine Calls.mono (CT.out _) ?_
    rintro e w1 ⟨rfl, hb1⟩
    have S1 : Hid _ := A1.out w1 hb1
    clear hb1
    go_wp2_with (at_builtin; refine wpList_append_ns (by rfl) _ _ (by rfl) B _ (by rfl) ms S1.out.o w1.heap.size _ _ _ (by rfl) (by rfl) S1.out.c (by simp) (by have := H60.out; simp at this ⊢; omega) S1.out.s ?_; intro g3 cap3 w3 ho3 hg3 hb3 hl3; have O3 : Hid _ := ho3; have B3 : Hid (Below B w w3) := S1.out.b.grown hg3 S1.out.s S1.out.own; have q3 := A3.out w3 B3.out; clear ho3 hg3 hb3 hl3)
    refine Calls.mono (C1.out _ _ B3.out O3.out) ?_
    rintro e w4 ⟨u, rfl, h4, o4⟩
    have B4 : Hid _ := And.intro h4 o4
    clear h4 o4
    go_wp2
    go_ret
    exact ⟨_, rfl, B3.out.trans B4.out.1, B4.out.2⟩
  · go_enter Tryd.func42, Tryd.ntmps42
    go_wp2_with fail
    refine Calls.mono (CT.out _) ?_
    rintro e w1 ⟨rfl, hb1⟩
    have S1 : Hid _ := A1.out w1 hb1
    clear hb1
    go_wp2_with (at_builtin; refine wpList_append_ns (by rfl) _ _ (by rfl) B _ (by rfl) ms S1.out.o w1.heap.size _ _ _ (by rfl) (by rfl) S1.out.c (by simp) (by have := H60.out; simp at this ⊢; omega) S1.out.s ?_; intro g3 cap3 w3 ho3 hg3 hb3 hl3; have O3 : Hid _ := ho3; have B3 : Hid (Below B w w3) := S1.out.b.grown hg3 S1.out.s S1.out.own; have q3 := A3.out w3 B3.out; clear ho3 hg3 hb3 hl3)
    refine Calls.mono (C1.out _ _ B3.out O3.out) ?_
    rintro e w4 ⟨u, rfl, h4, o4⟩
    have B4 : Hid _ := And.intro h4 o4
    clear h4 o4
    go_wp2
    go_ret
    exact ⟨_, rfl, B3.out.trans B4.out.1, B4.out.2⟩
set_option maxHeartbeats 4000000 in
theorem app_cat (ns : List Nd) (b off cap : Nat) (hm : ns.length ≤ 60) (i : Nat) (n : Nd) (hn : ns[i]? = some n) (h0 : n.op = 3) (k : Nat) (t u : List Nd) (ht : AppOk ns b off cap (i + 1) t) (hu : AppOk ns b off cap k u)
    (hE : ∀ w : World, NsAt w b off ns → Calls Tryd.prog 39 #[.slice (some ⟨b, off, none⟩) ns.length cap, .int .i64 (i + 1 : Nat)] w fun e w' => e = .returned (.tuple #[.int .i64 k, .bool true]) ∧ w' = w) : AppOk ns b off cap i (n.flip :: (u ++ t)) := by
  intro B w v ms hb hB hN hO h60
  have hil : i < ns.length := by
    rcases Nat.lt_or_ge i ns.length with h' | h'
    · exact h'
    · rw [List.getElem?_eq_none h'] at hn; cases hn
  obtain ⟨c0, c1, c2, c3, c4⟩ := hN i n hn
  have i0 : (0 : Int) ≤ (i : Int) := by omega
  have i1 : (i : Int) < (ns.length : Int) := by omega
  have CT : Hid _ := turnedNode_any n
  have A1 : Hid (∀ w1, Below w.heap.size w w1 → AppSet B w v ms n (w1.alloc (ndObj n.flip.op n.flip.c)) w1.heap.size) := fun w1 h1 => app_set hB hO h1
  have A2 : Hid (∀ w3, Below B w w3 → NsAt w3 b off ns) := fun w3 h3 => hN.below h3 hb
  have A3 : Hid (∀ w3, Below B w w3 → w3.cell? ⟨b, off + i * 5, none⟩ = some (.int .i64 n.op)) := fun w3 h3 => ((hN.below h3 hb) i n hn).1
  have C1 : Hid (∀ w3 u0, Below B w w3 → NsOwn w3 B u0 (ms ++ [n.flip]) → Calls Tryd.prog 42 #[u0, .slice (some ⟨b, off, none⟩) ns.length cap, .int .i64 (k : Int)] w3 fun e w' => ∃ u0, e = .returned u0 ∧ Below B w3 w' ∧ NsOwn w' B u0 (ms ++ [n.flip] ++ u)) := by
    intro w3 u0 h3 ho
    have := hu B w3 u0 (ms ++ [n.flip]) hb (Nat.le_trans hB h3.size) (A2.out w3 h3) ho (by simp at h60 ⊢; omega)
    exact this
  have C2 : Hid (∀ w3 u0, Below B w w3 → NsOwn w3 B u0 (ms ++ [n.flip] ++ u) → Calls Tryd.prog 42 #[u0, .slice (some ⟨b, off, none⟩) ns.length cap, .int .i64 ((i : Int) + 1)] w3 fun e w' => ∃ u0, e = .returned u0 ∧ Below B w3 w' ∧ NsOwn w' B u0 (ms ++ [n.flip] ++ u ++ t)) := by
    intro w3 u0 h3 ho
    have := ht B w3 u0 (ms ++ [n.flip] ++ u) hb (Nat.le_trans hB h3.size) (A2.out w3 h3) ho (by simp at h60 ⊢; omega)
    rw [arg_succ] at this
    exact this
  have CE : Hid (∀ w3, Below B w w3 → Calls Tryd.prog 39 #[.slice (some ⟨b, off, none⟩) ns.length cap, .int .i64 ((i : Int) + 1)] w3 fun e w' => e = .returned (.tuple #[.int .i64 k, .bool true]) ∧ w' = w3) := by
    intro w3 h3
    have := hE w3 (A2.out w3 h3)
    rw [arg_succ] at this
    exact this
  have H60 : Hid (ms.length + [n.flip].length ≤ 60) := by show _ ≤ _; simp at h60 ⊢; omega
  have HR : Hid (ms ++ (n.flip :: (u ++ t)) = ms ++ [n.flip] ++ u ++ t) := by show _ = _; simp
  obtain ⟨op, c⟩ := n
  simp only at *
  subst h0
  clear hn hO hN h60 ht hu hE A2
  go_enter Tryd.func42, Tryd.ntmps42
  go_wp2_with fail
  refine Calls.mono (CT.out _) ?_
  rintro e w1 ⟨rfl, hb1⟩
  have S1 : Hid _ := A1.out w1 hb1
  clear hb1
  go_wp2_with (at_builtin; refine wpList_append_ns (by rfl) _ _ (by rfl) B _ (by rfl) ms S1.out.o w1.heap.size _ _ _ (by rfl) (by rfl) S1.out.c (by simp) (by have := H60.out; simp at this ⊢; omega) S1.out.s ?_; intro g3 cap3 w3 ho3 hg3 hb3 hl3; have O3 : Hid _ := ho3; have B3 : Hid (Below B w w3) := S1.out.b.grown hg3 S1.out.s S1.out.own; have q3 := A3.out w3 B3.out; clear ho3 hg3 hb3 hl3)
  refine Calls.mono (CE.out _ B3.out) ?_
  rintro e w3 ⟨rfl, rfl⟩
  go_wp2_with fail
  refine Calls.mono (C1.out _ _ B3.out O3.out) ?_
  rintro e w4 ⟨u1, rfl, h4, o4⟩
  have B4 : Hid (Below B w w4) := B3.out.trans h4
  have O4 : Hid _ := o4
  clear h4 o4
  go_wp2_with fail
  refine Calls.mono (C2.out _ _ B4.out O4.out) ?_
  rintro e w5 ⟨u2, rfl, h5, o5⟩
  have B5 : Hid (Below B w w5) := B4.out.trans h5
  have O5 : Hid _ := o5
  clear h5 o5
  go_wp2
  go_ret
  exact ⟨_, rfl, B5.out, by rw [HR.out]; exact O5.out⟩
set_option maxHeartbeats 4000000 in
theorem app_or (ns : List Nd) (b off cap : Nat) (hm : ns.length ≤ 60) (i : Nat) (n : Nd) (hn : ns[i]? = some n) (h0 : n.op = 4) (k : Nat) (t u : List Nd) (ht : AppOk ns b off cap (i + 1) t) (hu : AppOk ns b off cap k u)
    (hE : ∀ w : World, NsAt w b off ns → Calls Tryd.prog 39 #[.slice (some ⟨b, off, none⟩) ns.length cap, .int .i64 (i + 1 : Nat)] w fun e w' => e = .returned (.tuple #[.int .i64 k, .bool true]) ∧ w' = w) : AppOk ns b off cap i (n.flip :: (t ++ u)) := by
  intro B w v ms hb hB hN hO h60
  have hil : i < ns.length := by
    rcases Nat.lt_or_ge i ns.length with h' | h'
    · exact h'
    · rw [List.getElem?_eq_none h'] at hn; cases hn
  obtain ⟨c0, c1, c2, c3, c4⟩ := hN i n hn
  have i0 : (0 : Int) ≤ (i : Int) := by omega
  have i1 : (i : Int) < (ns.length : Int) := by omega
  have CT : Hid _ := turnedNode_any n
  have A1 : Hid (∀ w1, Below w.heap.size w w1 → AppSet B w v ms n (w1.alloc (ndObj n.flip.op n.flip.c)) w1.heap.size) := fun w1 h1 => app_set hB hO h1
  have A2 : Hid (∀ w3, Below B w w3 → NsAt w3 b off ns) := fun w3 h3 => hN.below h3 hb
  have A3 : Hid (∀ w3, Below B w w3 → w3.cell? ⟨b, off + i * 5, none⟩ = some (.int .i64 n.op)) := fun w3 h3 => ((hN.below h3 hb) i n hn).1
  have C1 : Hid (∀ w3 u0, Below B w w3 → NsOwn w3 B u0 (ms ++ [n.flip]) → Calls Tryd.prog 42 #[u0, .slice (some ⟨b, off, none⟩) ns.length cap, .int .i64 ((i : Int) + 1)] w3 fun e w' => ∃ u0, e = .returned u0 ∧ Below B w3 w' ∧ NsOwn w' B u0 (ms ++ [n.flip] ++ t)) := by
    intro w3 u0 h3 ho
    have := ht B w3 u0 (ms ++ [n.flip]) hb (Nat.le_trans hB h3.size) (A2.out w3 h3) ho (by simp at h60 ⊢; omega)
    rw [arg_succ] at this
    exact this
  have C2 : Hid (∀ w3 u0, Below B w w3 → NsOwn w3 B u0 (ms ++ [n.flip] ++ t) → Calls Tryd.prog 42 #[u0, .slice (some ⟨b, off, none⟩) ns.length cap, .int .i64 (k : Int)] w3 fun e w' => ∃ u0, e = .returned u0 ∧ Below B w3 w' ∧ NsOwn w' B u0 (ms ++ [n.flip] ++ t ++ u)) := by
    intro w3 u0 h3 ho
    have := hu B w3 u0 (ms ++ [n.flip] ++ t) hb (Nat.le_trans hB h3.size) (A2.out w3 h3) ho (by simp at h60 ⊢; omega)
    exact this
  have CE : Hid (∀ w3, Below B w w3 → Calls Tryd.prog 39 #[.slice (some ⟨b, off, none⟩) ns.length cap, .int .i64 ((i : Int) + 1)] w3 fun e w' => e = .returned (.tuple #[.int .i64 k, .bool true]) ∧ w' = w3) := by
    intro w3 h3
    have := hE w3 (A2.out w3 h3)
    rw [arg_succ] at this
    exact this
  have H60 : Hid (ms.length + [n.flip].length ≤ 60) := by show _ ≤ _; simp at h60 ⊢; omega
  have HR : Hid (ms ++ (n.flip :: (t ++ u)) = ms ++ [n.flip] ++ t ++ u) := by show _ = _; simp
  obtain ⟨op, c⟩ := n
  simp only at *
  subst h0
  clear hn hO hN h60 ht hu hE A2
  go_enter Tryd.func42, Tryd.ntmps42
  go_wp2_with fail
  refine Calls.mono (CT.out _) ?_
  rintro e w1 ⟨rfl, hb1⟩
  have S1 : Hid _ := A1.out w1 hb1
  clear hb1
  go_wp2_with (at_builtin; refine wpList_append_ns (by rfl) _ _ (by rfl) B _ (by rfl) ms S1.out.o w1.heap.size _ _ _ (by rfl) (by rfl) S1.out.c (by simp) (by have := H60.out; simp at this ⊢; omega) S1.out.s ?_; intro g3 cap3 w3 ho3 hg3 hb3 hl3; have O3 : Hid _ := ho3; have B3 : Hid (Below B w w3) := S1.out.b.grown hg3 S1.out.s S1.out.own; have q3 := A3.out w3 B3.out; clear ho3 hg3 hb3 hl3)
  refine Calls.mono (CE.out _ B3.out) ?_
  rintro e w3 ⟨rfl, rfl⟩
  go_wp2_with fail
  refine Calls.mono (C1.out _ _ B3.out O3.out) ?_
  rintro e w4 ⟨u1, rfl, h4, o4⟩
  have B4 : Hid (Below B w w4) := B3.out.trans h4
  have O4 : Hid _ := o4
  clear h4 o4
  go_wp2_with fail
  refine Calls.mono (C2.out _ _ B4.out O4.out) ?_
  rintro e w5 ⟨u2, rfl, h5, o5⟩
  have B5 : Hid (Below B w w5) := B4.out.trans h5
  have O5 : Hid _ := o5
  clear h5 o5
  go_wp2
  go_ret
  exact ⟨_, rfl, B5.out, by rw [HR.out]; exact O5.out⟩
theorem app_at (ns : List Nd) (b off cap : Nat) (hm : ns.length ≤ 60) : ∀ (f i j : Nat), f ≤ ns.length + 1 → endF ns f i = some j → AppOk ns b off cap i (turF ns f i) := by
  intro f
  induction f with
  | zero => intro i j _ h; simp [endF] at h
  | succ f ih =>
    intro i j hf h
    obtain ⟨n, hn, hil, hc⟩ := part_cases ns f i j h
    rw [turF_at ns f i n hn]
    rcases hc with ⟨h0, rfl⟩ | ⟨h0, h1⟩ | ⟨h0, k, h1, h2⟩
    · have e3 : ¬ n.op = 3 := by intro e; rw [e] at h0; simp [prt] at h0
      have e4 : ¬ n.op = 4 := by intro e; rw [e] at h0; simp [prt] at h0
      rw [if_neg (by omega), if_neg e3, if_neg e4]
      exact app_leaf ns b off cap hm i n hn h0
    · rw [if_pos h0]
      exact app_one ns b off cap hm i n hn h0 _ (ih _ _ (by omega) h1)
    · rw [if_neg (by omega), endE_of ns f (i + 1) k (by omega) h1, Option.getD_some]
      have hE : ∀ w : World, NsAt w b off ns → Calls Tryd.prog 39 #[.slice (some ⟨b, off, none⟩) ns.length cap, .int .i64 (i + 1 : Nat)] w fun e w' => e = .returned (.tuple #[.int .i64 k, .bool true]) ∧ w' = w := fun w hN => behind_k ns b off cap hm w hN (i + 1) f k h1
      rcases (prt_two n.op).1 h0 with e3 | e4
      · rw [if_pos e3]
        exact app_cat ns b off cap hm i n hn e3 k _ _ (ih _ _ (by omega) h1) (ih _ _ (by omega) h2) hE
      · rw [if_neg (by omega), if_pos e4]
        exact app_or ns b off cap hm i n hn e4 k _ _ (ih _ _ (by omega) h1) (ih _ _ (by omega) h2) hE
end Go.Proofs.YtldiaokjgfoomaaDoor

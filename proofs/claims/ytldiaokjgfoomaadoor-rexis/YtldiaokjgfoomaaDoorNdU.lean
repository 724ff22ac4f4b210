/- What the document's own functions answer: TurnOf. -/
import Derived.Test.YtldiaokjgfoomaaDoorNdE
import Derived.Test.YtldiaokjgfoomaaDoorNdA
set_option linter.unusedSimpArgs false
set_option linter.unusedVariables false
set_option maxRecDepth 100000
namespace Go.Proofs.YtldiaokjgfoomaaDoor
open Go.RowKit

/-- A block that holds a node. -/
def ndObT (op : Int) (c : C4) : Obj := .cells #[.int .i64 op, .int .u64 c.a, .int .u64 c.b, .int .u64 c.c, .int .u64 c.d] 60 (0, 0)
structure TurSet (w w2 : World) (op : Int) (c : C4) : Prop where
  b : Below w.heap.size w w2
  s : w2.heap.size = w.heap.size + 2
  c0 : w2.cell? ⟨w.heap.size, 0, none⟩ = some (.int .i64 op)
  o : NsOwn w2 w.heap.size (.slice (some ⟨w.heap.size + 1, 0, none⟩) 1 1) [⟨op, c⟩]
theorem tur_set (w : World) (op : Int) (c : C4) : TurSet w ((w.alloc (ndObT op c)).alloc (ndObT op c)) op c := by
  have hh1 : (w.alloc (ndObT op c)).heap.size = w.heap.size + 1 := by simp
  have e1 : (w.alloc (ndObT op c)).heap[w.heap.size]? = some (ndObT op c) := by show (w.heap.push _)[w.heap.size]? = _; simp
  have e2 : ((w.alloc (ndObT op c)).alloc (ndObT op c)).heap[w.heap.size]? = some (ndObT op c) := (Below.heap_alloc _ _ _ (by omega)).trans e1
  have e3 : ((w.alloc (ndObT op c)).alloc (ndObT op c)).heap[w.heap.size + 1]? = some (ndObT op c) := by
    have : ((w.alloc (ndObT op c)).alloc (ndObT op c)).heap[(w.alloc (ndObT op c)).heap.size]? = some (ndObT op c) := by
      generalize w.alloc (ndObT op c) = w1
      show (w1.heap.push _)[w1.heap.size]? = _
      simp
    rwa [hh1] at this
  refine ⟨?_, ?_, ?_, ?_⟩
  · exact Below.alloc (Below.alloc (Below.refl _ _) (Nat.le_refl _) _) (by omega) _
  · simp
  · rw [Lib.cell_of_heap e2]; rfl
  · refine ⟨rfl, Or.inr ⟨w.heap.size + 1, 1, _, rfl, by omega, e3, Nat.le_refl 1, by decide, rfl, rfl⟩⟩
structure TurMid (w w2 w3 w4 : World) (op : Int) (c : C4) : Prop where
  b : Below w.heap.size w w4
  c0 : w4.cell? ⟨w.heap.size, 0, none⟩ = some (.int .i64 op)
  o : NsOwn w4 w.heap.size (.slice (some ⟨w.heap.size + 1, 0, none⟩) 1 1) [⟨op, c⟩]
  k : ∀ g j u, w2.heap.size ≤ g → g < w3.heap.size → w3.cell? ⟨g, j, none⟩ = some u → w4.cell? ⟨g, j, none⟩ = some u
theorem tur_mid {w w2 w3 w4 : World} {op : Int} {c : C4} (h : TurSet w w2 op c) (h3 : Below w2.heap.size w2 w3) (h4 : Below w3.heap.size w3 w4) : TurMid w w2 w3 w4 op c := by
  have hs := h.s
  have s3 := h3.size
  have B : Below w2.heap.size w2 w4 := h3.trans (h4.mono s3)
  refine ⟨h.b.trans (B.mono (by omega)), ?_, h.o.below B, ?_⟩
  · exact (B.cell (p := ⟨w.heap.size, 0, none⟩) (by simp only; omega)).trans h.c0
  · intro g j u _ hg hc
    exact (h4.cell (p := ⟨g, j, none⟩) hg).trans hc
set_option maxHeartbeats 4000000 in
theorem turnOf_leaf (ns : List Nd) (b off cap : Nat) (hm : ns.length ≤ maxLen) (w : World) (hlt : b < w.heap.size) (hN : NsAt w b off ns) (i : Nat) (n : Nd) (hn : ns[i]? = some n) (h0 : prt n.op = 0) (h8 : n.op ≠ 8) (h9 : n.op ≠ 9) :
    Calls Tryd.prog 23 #[.slice (some ⟨b, off, none⟩) ns.length cap, .int .i64 i] w fun e w' => ∃ v, e = .returned v ∧ Below w.heap.size w w' ∧ NsOwn w' w.heap.size v [n.flip] := by
  have hil : i < ns.length := by
    rcases Nat.lt_or_ge i ns.length with h' | h'
    · exact h'
    · rw [List.getElem?_eq_none h'] at hn; cases hn
  obtain ⟨c0, c1, c2, c3, c4⟩ := hN i n hn
  have i0 : (0 : Int) ≤ (i : Int) := by omega
  have i1 : (i : Int) < (ns.length : Int) := by omega
  have p8 : (n.op == 8) = false := by simp [h8]
  have p9 : (n.op == 9) = false := by simp [h9]
  have HF : Hid (n.flip = n) := by show _ = _; simp [Nd.flip, flipOp, h8, h9]
  have HP := (show Hid _ from parts_any n.op)
  have TS := (show Hid _ from tur_set w n.op n.c)
  have H0 := (show Hid _ from h0)
  clear hn h0 h8 h9
  go_enter Tryd.func23, Tryd.ntmps23
  go_wp2_with fail
  refine Calls.mono (HP.out _) ?_
  rintro e w1 ⟨rfl, rfl⟩
  rw [H0.out]
  go_wp2
  go_ret
  exact ⟨_, rfl, TS.out.b, by rw [HF.out]; exact TS.out.o⟩
set_option maxHeartbeats 4000000 in
theorem turnOf_flip (ns : List Nd) (b off cap : Nat) (hm : ns.length ≤ maxLen) (w : World) (hlt : b < w.heap.size) (hN : NsAt w b off ns) (i : Nat) (n : Nd) (hn : ns[i]? = some n) (h8 : n.op = 8 ∨ n.op = 9) :
    Calls Tryd.prog 23 #[.slice (some ⟨b, off, none⟩) ns.length cap, .int .i64 i] w fun e w' => ∃ v, e = .returned v ∧ Below w.heap.size w w' ∧ NsOwn w' w.heap.size v [n.flip] := by
  have hil : i < ns.length := by
    rcases Nat.lt_or_ge i ns.length with h' | h'
    · exact h'
    · rw [List.getElem?_eq_none h'] at hn; cases hn
  obtain ⟨c0, c1, c2, c3, c4⟩ := hN i n hn
  have i0 : (0 : Int) ≤ (i : Int) := by omega
  have i1 : (i : Int) < (ns.length : Int) := by omega
  obtain ⟨op, c⟩ := n
  clear hn
  simp only at *
  rcases h8 with rfl | rfl
  · have TS := (show Hid _ from tur_set w 9 c)
    go_enter Tryd.func23, Tryd.ntmps23
    go_wp2
    go_ret
    exact ⟨_, rfl, TS.out.b, TS.out.o⟩
  · have TS := (show Hid _ from tur_set w 8 c)
    go_enter Tryd.func23, Tryd.ntmps23
    go_wp2
    go_ret
    exact ⟨_, rfl, TS.out.b, TS.out.o⟩
/-- The contract of a call at i. -/
def TurOk (ns : List Nd) (b off cap i : Nat) (t : List Nd) : Prop := ∀ w : World, b < w.heap.size → NsAt w b off ns →
  Calls Tryd.prog 23 #[.slice (some ⟨b, off, none⟩) ns.length cap, .int .i64 i] w fun e w' => ∃ v, e = .returned v ∧ Below w.heap.size w w' ∧ NsOwn w' w.heap.size v t
set_option maxHeartbeats 4000000 in
theorem turnOf_one (ns : List Nd) (b off cap : Nat) (hm40 : ns.length * 40 ≤ 140737488355328) (w : World) (hlt : b < w.heap.size) (hN : NsAt w b off ns) (i : Nat) (n : Nd) (hn : ns[i]? = some n) (h0 : prt n.op = 1) (t : List Nd) (ht : TurOk ns b off cap (i + 1) t) (ht0 : 0 < t.length) (htl : t.length < ns.length) :
    Calls Tryd.prog 23 #[.slice (some ⟨b, off, none⟩) ns.length cap, .int .i64 i] w fun e w' => ∃ v, e = .returned v ∧ Below w.heap.size w w' ∧ NsOwn w' w.heap.size v (n.flip :: t) := by
  have hil : i < ns.length := by
    rcases Nat.lt_or_ge i ns.length with h' | h'
    · exact h'
    · rw [List.getElem?_eq_none h'] at hn; cases hn
  obtain ⟨c0, c1, c2, c3, c4⟩ := hN i n hn
  have i0 : (0 : Int) ≤ (i : Int) := by omega
  have i1 : (i : Int) < (ns.length : Int) := by omega
  have h8 : n.op ≠ 8 := by intro e; rw [e] at h0; simp [prt] at h0
  have h9 : n.op ≠ 9 := by intro e; rw [e] at h0; simp [prt] at h0
  have p8 : (n.op == 8) = false := by simp [h8]
  have p9 : (n.op == 9) = false := by simp [h9]
  have HF : Hid (n.flip = n) := by show _ = _; simp [Nd.flip, flipOp, h8, h9]
  obtain ⟨w2, TS, HP⟩ : ∃ w2, Hid (TurSet w w2 n.op n.c) ∧ Hid (Calls Tryd.prog 40 #[.int .i64 n.op] ((w.alloc (ndObT n.op n.c)).alloc (ndObT n.op n.c)) fun e w' => e = .returned (.int .i64 1) ∧ w' = w2) := by
    refine ⟨_, tur_set w n.op n.c, ?_⟩
    have := parts_any n.op ((w.alloc (ndObT n.op n.c)).alloc (ndObT n.op n.c))
    rw [h0] at this
    exact this
  have C1 : Hid _ := ht w2 (Nat.lt_of_lt_of_le hlt TS.out.b.size) (hN.below TS.out.b hlt)
  rw [arg_succ] at C1
  have HM := (show Hid _ from hm40)
  have HL := (show Hid _ from And.intro ht0 htl)
  have hm : ns.length ≤ 3518437208883 := by omega
  clear hn h0 h8 h9 hN ht hm40 ht0 htl
  go_enter Tryd.func23, Tryd.ntmps23
  go_wp2_with fail
  refine Calls.mono HP.out ?_
  rintro e w1 ⟨rfl, rfl⟩
  go_wp2_with fail
  refine Calls.mono C1.out ?_
  rintro e w3 ⟨v, rfl, hb3, ho3⟩
  obtain ⟨g, cap3, rfl, hg1, hg2, hc3⟩ := ho3.form HL.out.1
  have B3 := (show Hid _ from hb3)
  have O3 := (show Hid _ from TS.out.o.below hb3)
  have S3 := (show Hid _ from hc3)
  have BB : Hid (Below w.heap.size w w3) := TS.out.b.trans (hb3.mono (by have := TS.out.s; omega))
  clear hb3 ho3 hg1 hg2 hc3
  go_wp2_with (at_builtin; refine wpList_append_ns (by rfl) _ _ (by rfl) w.heap.size _ (by rfl) _ O3.out g _ _ t (by rfl) (by rfl) S3.out HL.out.1 (by have := HL.out; have := HM.out; simp; omega) BB.out.size ?_; intro g4 cap4 w4 ho4 hg4 hb4 hl4)
  go_ret
  refine ⟨_, rfl, BB.out.grown hg4 BB.out.size (fun k hk => ?_), ?_⟩
  · injection hk with hk
    simp only at hk
    omega
  · rw [HF.out]
    exact ho4
set_option maxHeartbeats 4000000 in
theorem turnOf_two (ns : List Nd) (b off cap : Nat) (hm40 : ns.length * 40 ≤ 140737488355328) (w : World) (hlt : b < w.heap.size) (hN : NsAt w b off ns) (i : Nat) (n : Nd) (hn : ns[i]? = some n) (h0 : prt n.op = 2) (k : Nat) (t u : List Nd) (ht : TurOk ns b off cap (i + 1) t) (hu : TurOk ns b off cap k u)
    (hE : ∀ w : World, b < w.heap.size → NsAt w b off ns → Calls Tryd.prog 27 #[.slice (some ⟨b, off, none⟩) ns.length cap, .int .i64 (i + 1 : Nat)] w fun e w' => e = .returned (.int .i64 k) ∧ w' = w)
    (ht0 : 0 < t.length) (hu0 : 0 < u.length) (htl : t.length + u.length < ns.length) :
    Calls Tryd.prog 23 #[.slice (some ⟨b, off, none⟩) ns.length cap, .int .i64 i] w fun e w' => ∃ v, e = .returned v ∧ Below w.heap.size w w' ∧ NsOwn w' w.heap.size v (n.flip :: (if n.op = 3 then u ++ t else t ++ u)) := by
  have hil : i < ns.length := by
    rcases Nat.lt_or_ge i ns.length with h' | h'
    · exact h'
    · rw [List.getElem?_eq_none h'] at hn; cases hn
  obtain ⟨c0, c1, c2, c3, c4⟩ := hN i n hn
  have i0 : (0 : Int) ≤ (i : Int) := by omega
  have i1 : (i : Int) < (ns.length : Int) := by omega
  have h8 : n.op ≠ 8 := by intro e; rw [e] at h0; simp [prt] at h0
  have h9 : n.op ≠ 9 := by intro e; rw [e] at h0; simp [prt] at h0
  have p8 : (n.op == 8) = false := by simp [h8]
  have p9 : (n.op == 9) = false := by simp [h9]
  have HF : Hid (n.flip = n) := by show _ = _; simp [Nd.flip, flipOp, h8, h9]
  obtain ⟨w2, TS, HP⟩ : ∃ w2, Hid (TurSet w w2 n.op n.c) ∧ Hid (Calls Tryd.prog 40 #[.int .i64 n.op] ((w.alloc (ndObT n.op n.c)).alloc (ndObT n.op n.c)) fun e w' => e = .returned (.int .i64 2) ∧ w' = w2) := by
    refine ⟨_, tur_set w n.op n.c, ?_⟩
    have := parts_any n.op ((w.alloc (ndObT n.op n.c)).alloc (ndObT n.op n.c))
    rw [h0] at this
    exact this
  have C1 : Hid _ := ht w2 (Nat.lt_of_lt_of_le hlt TS.out.b.size) (hN.below TS.out.b hlt)
  have CU := (show Hid _ from hu)
  have CE := (show Hid _ from hE)
  rw [arg_succ] at C1 CE
  have HN := (show Hid _ from hN)
  have HM := (show Hid _ from hm40)
  have HL := (show Hid _ from And.intro ht0 (And.intro hu0 htl))
  have hm : ns.length ≤ 3518437208883 := by omega
  clear hn h0 h8 h9 hN ht hm40 ht0 htl hu hE hu0
  by_cases h3 : n.op = 3
  · have p3 : (n.op == 3) = true := by simp [h3]
    rw [if_pos h3, HF.out]
    have H3 := (show Hid _ from h3)
    clear h3
    go_enter Tryd.func23, Tryd.ntmps23
    go_wp2_with fail
    refine Calls.mono HP.out ?_
    rintro e w2 ⟨rfl, rfl⟩
    go_wp2_with fail
    refine Calls.mono C1.out ?_
    rintro e w3 ⟨v, rfl, hb3, ho3⟩
    obtain ⟨g, cap3, rfl, hg1, hg2, hc3⟩ := ho3.form HL.out.1
    have BB : Hid (Below w.heap.size w w3) := TS.out.b.trans (hb3.mono (by have := TS.out.s; omega))
    have B3 := (show Hid _ from hb3)
    have G3 := (show Hid _ from And.intro hg1 (And.intro hg2 hc3))
    have C5 : Hid _ := CE.out w3 (Nat.lt_of_lt_of_le hlt BB.out.size) (NsAt.below HN.out BB.out hlt)
    have C6 : Hid _ := CU.out w3 (Nat.lt_of_lt_of_le hlt BB.out.size) (NsAt.below HN.out BB.out hlt)
    clear hb3 ho3 hg1 hg2 hc3
    go_wp2_with fail
    refine Calls.mono C5.out ?_
    rintro e w3 ⟨rfl, rfl⟩
    go_wp2_with fail
    refine Calls.mono C6.out ?_
    rintro e w4 ⟨v, rfl, hb4, ho4⟩
    obtain ⟨gu, cap4, rfl, hg1, hg2, hc4⟩ := ho4.form HL.out.2.1
    have TM := (show Hid _ from tur_mid TS.out B3.out hb4)
    have c5 := TM.out.c0
    have T4 : Hid (∀ (j : Nat) u, (nsCells t)[j]? = some u → w4.cell? ⟨g, j, none⟩ = some u) := fun j u hj => TM.out.k g j u G3.out.1 G3.out.2.1 (G3.out.2.2 j u hj)
    have U4 := (show Hid _ from hc4)
    have GU : Hid ((w.heap.size + 2 ≤ g ∧ g < w4.heap.size) ∧ w.heap.size + 2 ≤ gu ∧ gu < w4.heap.size) := by
      have := TS.out.s
      have := B3.out.size
      have := hb4.size
      have := G3.out.1
      have := G3.out.2.1
      refine ⟨⟨?_, ?_⟩, ?_, hg2⟩ <;> omega
    clear hb4 ho4 hg1 hg2 hc4
    go_wp2_with (at_builtin; first
      | (refine wpList_append_ns (by rfl) _ _ (by rfl) w.heap.size _ (by rfl) _ TM.out.o gu _ _ u (by rfl) (by rfl) U4.out HL.out.2.1 (by have := HL.out; have := HM.out; simp; omega) TM.out.b.size ?_; intro g5 cap5 w5 ho5 hg5 hb5 hl5; have O5 := (show Hid _ from ho5); have W5 : Hid (w4.grownBy w5 (some (w.heap.size + 1))) := hg5; clear ho5 hg5)
      | (refine wpList_append_ns (by rfl) _ _ (by rfl) w.heap.size _ (by rfl) _ O5.out g _ _ t (by rfl) (by rfl) (grown_cells W5.out (by have := GU.out; omega) (by have := GU.out; omega) T4.out) HL.out.1 (by have := HL.out; have := HM.out; simp; omega) (Nat.le_trans TM.out.b.size W5.out.size) ?_; intro g6 cap6 w6 ho6 hg6 hb6 hl6))
    go_ret
    refine ⟨_, rfl, (TM.out.b.grown W5.out TM.out.b.size (fun k hk => ?_)).grown hg6 (Nat.le_trans TM.out.b.size W5.out.size) (fun k hk => ?_), ?_⟩
    · injection hk with hk
      try simp only at hk
      omega
    · injection hk with hk
      try simp only at hk
      omega
    · exact ho6
  · have p3 : (n.op == 3) = false := by simp [h3]
    rw [if_neg h3, HF.out]
    have H3 := (show Hid _ from h3)
    clear h3
    go_enter Tryd.func23, Tryd.ntmps23
    go_wp2_with fail
    refine Calls.mono HP.out ?_
    rintro e w2 ⟨rfl, rfl⟩
    go_wp2_with fail
    refine Calls.mono C1.out ?_
    rintro e w3 ⟨v, rfl, hb3, ho3⟩
    obtain ⟨g, cap3, rfl, hg1, hg2, hc3⟩ := ho3.form HL.out.1
    have BB : Hid (Below w.heap.size w w3) := TS.out.b.trans (hb3.mono (by have := TS.out.s; omega))
    have B3 := (show Hid _ from hb3)
    have G3 := (show Hid _ from And.intro hg1 (And.intro hg2 hc3))
    have C5 : Hid _ := CE.out w3 (Nat.lt_of_lt_of_le hlt BB.out.size) (NsAt.below HN.out BB.out hlt)
    have C6 : Hid _ := CU.out w3 (Nat.lt_of_lt_of_le hlt BB.out.size) (NsAt.below HN.out BB.out hlt)
    clear hb3 ho3 hg1 hg2 hc3
    go_wp2_with fail
    refine Calls.mono C5.out ?_
    rintro e w3 ⟨rfl, rfl⟩
    go_wp2_with fail
    refine Calls.mono C6.out ?_
    rintro e w4 ⟨v, rfl, hb4, ho4⟩
    obtain ⟨gu, cap4, rfl, hg1, hg2, hc4⟩ := ho4.form HL.out.2.1
    have TM := (show Hid _ from tur_mid TS.out B3.out hb4)
    have c5 := TM.out.c0
    have T4 : Hid (∀ (j : Nat) u, (nsCells t)[j]? = some u → w4.cell? ⟨g, j, none⟩ = some u) := fun j u hj => TM.out.k g j u G3.out.1 G3.out.2.1 (G3.out.2.2 j u hj)
    have U4 := (show Hid _ from hc4)
    have GU : Hid ((w.heap.size + 2 ≤ g ∧ g < w4.heap.size) ∧ w.heap.size + 2 ≤ gu ∧ gu < w4.heap.size) := by
      have := TS.out.s
      have := B3.out.size
      have := hb4.size
      have := G3.out.1
      have := G3.out.2.1
      refine ⟨⟨?_, ?_⟩, ?_, hg2⟩ <;> omega
    clear hb4 ho4 hg1 hg2 hc4
    go_wp2_with (at_builtin; first
      | (refine wpList_append_ns (by rfl) _ _ (by rfl) w.heap.size _ (by rfl) _ TM.out.o g _ _ t (by rfl) (by rfl) T4.out HL.out.1 (by have := HL.out; have := HM.out; simp; omega) TM.out.b.size ?_; intro g5 cap5 w5 ho5 hg5 hb5 hl5; have O5 := (show Hid _ from ho5); have W5 : Hid (w4.grownBy w5 (some (w.heap.size + 1))) := hg5; clear ho5 hg5)
      | (refine wpList_append_ns (by rfl) _ _ (by rfl) w.heap.size _ (by rfl) _ O5.out gu _ _ u (by rfl) (by rfl) (grown_cells W5.out (by have := GU.out; omega) (by have := GU.out; omega) U4.out) HL.out.2.1 (by have := HL.out; have := HM.out; simp; omega) (Nat.le_trans TM.out.b.size W5.out.size) ?_; intro g6 cap6 w6 ho6 hg6 hb6 hl6))
    go_ret
    refine ⟨_, rfl, (TM.out.b.grown W5.out TM.out.b.size (fun k hk => ?_)).grown hg6 (Nat.le_trans TM.out.b.size W5.out.size) (fun k hk => ?_), ?_⟩
    · injection hk with hk
      try simp only at hk
      omega
    · injection hk with hk
      try simp only at hk
      omega
    · exact ho6
theorem turnOf_at (ns : List Nd) (b off cap : Nat) (hm40 : ns.length * 40 ≤ 140737488355328) : ∀ (f i j : Nat), f ≤ ns.length + 1 → endF ns f i = some j → TurOk ns b off cap i (turF ns f i)
  | 0, i, j, _, h => by simp [endF] at h
  | f + 1, i, j, hf, h => by
    have hml : ns.length ≤ maxLen := by unfold maxLen; omega
    obtain ⟨n, hn, hil, hc⟩ := part_cases ns f i j h
    have gj := endF_gt ns (f + 1) i j h
    intro w hlt hN
    rw [turF_at ns f i n hn]
    rcases hc with ⟨h0, rfl⟩ | ⟨h0, h1⟩ | ⟨h0, k, h1, h2⟩
    · have e3 : ¬ n.op = 3 := by intro e; rw [e] at h0; simp [prt] at h0
      have e4 : ¬ n.op = 4 := by intro e; rw [e] at h0; simp [prt] at h0
      rw [if_neg (by omega), if_neg e3, if_neg e4]
      by_cases h8 : n.op = 8
      · exact turnOf_flip ns b off cap hml w hlt hN i n hn (Or.inl h8)
      · by_cases h9 : n.op = 9
        · exact turnOf_flip ns b off cap hml w hlt hN i n hn (Or.inr h9)
        · exact turnOf_leaf ns b off cap hml w hlt hN i n hn h0 h8 h9
    · rw [if_pos h0]
      have l1 := turF_len ns f _ _ (by omega) h1
      have g1 := endF_gt ns f _ _ h1
      exact turnOf_one ns b off cap hm40 w hlt hN i n hn h0 _ (turnOf_at ns b off cap hm40 f _ _ (by omega) h1) (by omega) (by omega)
    · have l1 := turF_len ns f _ _ (by omega) h1
      have g1 := endF_gt ns f _ _ h1
      have l2 := turF_len ns f _ _ (by omega) h2
      have g2 := endF_gt ns f _ _ h2
      have c := turnOf_two ns b off cap hm40 w hlt hN i n hn h0 k _ _ (turnOf_at ns b off cap hm40 f _ _ (by omega) h1) (turnOf_at ns b off cap hm40 f _ _ (by omega) h2) (fun w hlt hN => endOf_k ns _ (i + 1) f k w ⟨_, cap, rfl, hml, Or.inr ⟨b, off, rfl, hlt, hN⟩⟩ (by omega) h1) (by omega) (by omega) (by omega)
      rw [if_neg (by omega), endE_of ns f (i + 1) k (by omega) h1]
      rcases (prt_two n.op).1 h0 with e3 | e4
      · rw [if_pos e3] at c ⊢
        exact c
      · rw [if_neg (by omega)] at c
        rw [if_neg (by omega), if_pos e4]
        exact c
theorem turnOf_any (ns : List Nd) (v : Value) (w : World) (hN : NsIn w v ns) (hm40 : ns.length * 40 ≤ 140737488355328) (hv : endE ns 0 = some ns.length) :
    Calls Tryd.prog 23 #[v, .int .i64 0] w fun e w' => ∃ v, e = .returned v ∧ Below w.heap.size w w' ∧ NsOwn w' w.heap.size v (turE ns) := by
  obtain ⟨a, cap, rfl, hm, h | ⟨b, off, rfl, hlt, hn⟩⟩ := hN
  · subst h
    rw [endE_nil] at hv; cases hv
  · exact turnOf_at ns b off cap hm40 (ns.length + 1) 0 ns.length (by omega) hv w hlt hn
end Go.Proofs.YtldiaokjgfoomaaDoor

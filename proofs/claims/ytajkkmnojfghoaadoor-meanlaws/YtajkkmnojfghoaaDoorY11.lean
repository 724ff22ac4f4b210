/- What the document's own functions answer: TurnOf. What the document's own functions (package winnowfanref1) answer: In, With, OfText, Others, Count. What the document's own functions answer: Count. What the document's own functions answer: Fault. What winnowfansame.Nodes answers. -/
import Derived.Test.YtajkkmnojfghoaaDoorY10
import Derived.Test.YtajkkmnojfghoaaDoorY04
import Derived.Test.YtajkkmnojfghoaaDoorY01
import Derived.Test.YtajkkmnojfghoaaDoorY02
namespace Go.Proofs.YtajkkmnojfghoaaDoor
set_option linter.unusedSimpArgs false
set_option linter.unusedVariables false
set_option maxRecDepth 100000
open Go.RowKit

/-- A block that holds a node. -/
def ndObT (op : Int) (c : C4) : Obj := .cells #[.int .i64 op, .int .u64 c.a, .int .u64 c.b, .int .u64 c.c, .int .u64 c.d] 56 (0, 0)
structure TurSet (w w2 : World) (op : Int) (c : C4) : Prop where
  b : Below w.heap.size w w2
  s : w2.heap.size = w.heap.size + 2
  c0 : w2.cell? ⟨w.heap.size, 0, none⟩ = some (.int .i64 op)
  o : NsOwn w2 w.heap.size (.slice (some ⟨w.heap.size + 1, 0, none⟩) 1 1) [⟨op, c⟩]
theorem tur_set (w : World) (op : Int) (c : C4) : TurSet w ((w.alloc (ndObT op c)).alloc (ndObT op c)) op c := by
  have hh1 : (w.alloc (ndObT op c)).heap.size = w.heap.size + 1 := by simp
  have e1 : (w.alloc (ndObT op c)).heap[w.heap.size]? = some (ndObT op c) := by show (w.heap.push _)[w.heap.size]? = _; simp
  have e2 : ((w.alloc (ndObT op c)).alloc (ndObT op c)).heap[w.heap.size]? = some (ndObT op c) := (Below.heap_alloc _ _ _ (by omega)).trans e1
  have e3 : ((w.alloc (ndObT op c)).alloc (ndObT op c)).heap[w.heap.size + 1]? = some (ndObT op c) := by
    have : ((w.alloc (ndObT op c)).alloc (ndObT op c)).heap[(w.alloc (ndObT op c)).heap.size]? = some (ndObT op c) := by
      generalize w.alloc (ndObT op c) = w1
      show (w1.heap.push _)[w1.heap.size]? = _
      simp
    rwa [hh1] at this
  refine ⟨?_, ?_, ?_, ?_⟩
  · exact Below.alloc (Below.alloc (Below.refl _ _) (Nat.le_refl _) _) (by omega) _
  · simp
  · rw [Lib.cell_of_heap e2]; rfl
  · refine ⟨rfl, Or.inr ⟨w.heap.size + 1, 1, _, rfl, by omega, e3, Nat.le_refl 1, by decide, rfl, rfl⟩⟩
structure TurMid (w w2 w3 w4 : World) (op : Int) (c : C4) : Prop where
  b : Below w.heap.size w w4
  c0 : w4.cell? ⟨w.heap.size, 0, none⟩ = some (.int .i64 op)
  o : NsOwn w4 w.heap.size (.slice (some ⟨w.heap.size + 1, 0, none⟩) 1 1) [⟨op, c⟩]
  k : ∀ g j u, w2.heap.size ≤ g → g < w3.heap.size → w3.cell? ⟨g, j, none⟩ = some u → w4.cell? ⟨g, j, none⟩ = some u
theorem tur_mid {w w2 w3 w4 : World} {op : Int} {c : C4} (h : TurSet w w2 op c) (h3 : Below w2.heap.size w2 w3) (h4 : Below w3.heap.size w3 w4) : TurMid w w2 w3 w4 op c := by
  have hs := h.s
  have s3 := h3.size
  have B : Below w2.heap.size w2 w4 := h3.trans (h4.mono s3)
  refine ⟨h.b.trans (B.mono (by omega)), ?_, h.o.below B, ?_⟩
  · exact (B.cell (p := ⟨w.heap.size, 0, none⟩) (by simp only; omega)).trans h.c0
  · intro g j u _ hg hc
    exact (h4.cell (p := ⟨g, j, none⟩) hg).trans hc
set_option maxHeartbeats 4000000 in
theorem turnOf_leaf (ns : List Nd) (b off cap : Nat) (hm : ns.length ≤ maxLen) (w : World) (hlt : b < w.heap.size) (hN : NsAt w b off ns) (i : Nat) (n : Nd) (hn : ns[i]? = some n) (h0 : prt n.op = 0) (h8 : n.op ≠ 8) (h9 : n.op ≠ 9) :
    Calls Tryd.prog 28 #[.slice (some ⟨b, off, none⟩) ns.length cap, .int .i64 i] w fun e w' => ∃ v, e = .returned v ∧ Below w.heap.size w w' ∧ NsOwn w' w.heap.size v [n.flip] := by
  have hil : i < ns.length := by
    rcases Nat.lt_or_ge i ns.length with h' | h'
    · exact h'
    · rw [List.getElem?_eq_none h'] at hn; cases hn
  obtain ⟨c0, c1, c2, c3, c4⟩ := hN i n hn
  have i0 : (0 : Int) ≤ (i : Int) := by omega
  have i1 : (i : Int) < (ns.length : Int) := by omega
  have p8 : (n.op == 8) = false := by simp [h8]
  have p9 : (n.op == 9) = false := by simp [h9]
  have HF : Hid (n.flip = n) := by show _ = _; simp [Nd.flip, flipOp, h8, h9]
  have HP := (show Hid _ from parts_any n.op)
  have TS := (show Hid _ from tur_set w n.op n.c)
  have H0 := (show Hid _ from h0)
  clear hn h0 h8 h9
  go_enter Tryd.func28, Tryd.ntmps28
  go_wp2_with fail
  refine Calls.mono (HP.out _) ?_
  rintro e w1 ⟨rfl, rfl⟩
  rw [H0.out]
  go_wp2
  go_ret
  exact ⟨_, rfl, TS.out.b, by rw [HF.out]; exact TS.out.o⟩
set_option maxHeartbeats 4000000 in
theorem turnOf_flip (ns : List Nd) (b off cap : Nat) (hm : ns.length ≤ maxLen) (w : World) (hlt : b < w.heap.size) (hN : NsAt w b off ns) (i : Nat) (n : Nd) (hn : ns[i]? = some n) (h8 : n.op = 8 ∨ n.op = 9) :
    Calls Tryd.prog 28 #[.slice (some ⟨b, off, none⟩) ns.length cap, .int .i64 i] w fun e w' => ∃ v, e = .returned v ∧ Below w.heap.size w w' ∧ NsOwn w' w.heap.size v [n.flip] := by
  have hil : i < ns.length := by
    rcases Nat.lt_or_ge i ns.length with h' | h'
    · exact h'
    · rw [List.getElem?_eq_none h'] at hn; cases hn
  obtain ⟨c0, c1, c2, c3, c4⟩ := hN i n hn
  have i0 : (0 : Int) ≤ (i : Int) := by omega
  have i1 : (i : Int) < (ns.length : Int) := by omega
  obtain ⟨op, c⟩ := n
  clear hn
  simp only at *
  rcases h8 with rfl | rfl
  · have TS := (show Hid _ from tur_set w 9 c)
    go_enter Tryd.func28, Tryd.ntmps28
    go_wp2
    go_ret
    exact ⟨_, rfl, TS.out.b, TS.out.o⟩
  · have TS := (show Hid _ from tur_set w 8 c)
    go_enter Tryd.func28, Tryd.ntmps28
    go_wp2
    go_ret
    exact ⟨_, rfl, TS.out.b, TS.out.o⟩
/-- The contract of a call at i. -/
def TurOk (ns : List Nd) (b off cap i : Nat) (t : List Nd) : Prop := ∀ w : World, b < w.heap.size → NsAt w b off ns →
  Calls Tryd.prog 28 #[.slice (some ⟨b, off, none⟩) ns.length cap, .int .i64 i] w fun e w' => ∃ v, e = .returned v ∧ Below w.heap.size w w' ∧ NsOwn w' w.heap.size v t
set_option maxHeartbeats 4000000 in
theorem turnOf_one (ns : List Nd) (b off cap : Nat) (hm40 : ns.length * 40 ≤ 140737488355328) (w : World) (hlt : b < w.heap.size) (hN : NsAt w b off ns) (i : Nat) (n : Nd) (hn : ns[i]? = some n) (h0 : prt n.op = 1) (t : List Nd) (ht : TurOk ns b off cap (i + 1) t) (ht0 : 0 < t.length) (htl : t.length < ns.length) :
    Calls Tryd.prog 28 #[.slice (some ⟨b, off, none⟩) ns.length cap, .int .i64 i] w fun e w' => ∃ v, e = .returned v ∧ Below w.heap.size w w' ∧ NsOwn w' w.heap.size v (n.flip :: t) := by
  have hil : i < ns.length := by
    rcases Nat.lt_or_ge i ns.length with h' | h'
    · exact h'
    · rw [List.getElem?_eq_none h'] at hn; cases hn
  obtain ⟨c0, c1, c2, c3, c4⟩ := hN i n hn
  have i0 : (0 : Int) ≤ (i : Int) := by omega
  have i1 : (i : Int) < (ns.length : Int) := by omega
  have h8 : n.op ≠ 8 := by intro e; rw [e] at h0; simp [prt] at h0
  have h9 : n.op ≠ 9 := by intro e; rw [e] at h0; simp [prt] at h0
  have p8 : (n.op == 8) = false := by simp [h8]
  have p9 : (n.op == 9) = false := by simp [h9]
  have HF : Hid (n.flip = n) := by show _ = _; simp [Nd.flip, flipOp, h8, h9]
  obtain ⟨w2, TS, HP⟩ : ∃ w2, Hid (TurSet w w2 n.op n.c) ∧ Hid (Calls Tryd.prog 55 #[.int .i64 n.op] ((w.alloc (ndObT n.op n.c)).alloc (ndObT n.op n.c)) fun e w' => e = .returned (.int .i64 1) ∧ w' = w2) := by
    refine ⟨_, tur_set w n.op n.c, ?_⟩
    have := parts_any n.op ((w.alloc (ndObT n.op n.c)).alloc (ndObT n.op n.c))
    rw [h0] at this
    exact this
  have C1 : Hid _ := ht w2 (Nat.lt_of_lt_of_le hlt TS.out.b.size) (hN.below TS.out.b hlt)
  rw [arg_succ] at C1
  have HM := (show Hid _ from hm40)
  have HL := (show Hid _ from And.intro ht0 htl)
  have hm : ns.length ≤ 3518437208883 := by omega
  clear hn h0 h8 h9 hN ht hm40 ht0 htl
  go_enter Tryd.func28, Tryd.ntmps28
  go_wp2_with fail
  refine Calls.mono HP.out ?_
  rintro e w1 ⟨rfl, rfl⟩
  go_wp2_with fail
  refine Calls.mono C1.out ?_
  rintro e w3 ⟨v, rfl, hb3, ho3⟩
  obtain ⟨g, cap3, rfl, hg1, hg2, hc3⟩ := ho3.form HL.out.1
  have B3 := (show Hid _ from hb3)
  have O3 := (show Hid _ from TS.out.o.below hb3)
  have S3 := (show Hid _ from hc3)
  have BB : Hid (Below w.heap.size w w3) := TS.out.b.trans (hb3.mono (by have := TS.out.s; omega))
  clear hb3 ho3 hg1 hg2 hc3
  go_wp2_with (at_builtin; refine wpList_append_ns (by rfl) _ _ (by rfl) w.heap.size _ (by rfl) _ O3.out g _ _ t (by rfl) (by rfl) S3.out HL.out.1 (by have := HL.out; have := HM.out; simp; omega) BB.out.size ?_; intro g4 cap4 w4 ho4 hg4 hb4 hl4)
  go_ret
  refine ⟨_, rfl, BB.out.grown hg4 BB.out.size (fun k hk => ?_), ?_⟩
  · injection hk with hk
    simp only at hk
    omega
  · rw [HF.out]
    exact ho4
set_option maxHeartbeats 4000000 in
theorem turnOf_two (ns : List Nd) (b off cap : Nat) (hm40 : ns.length * 40 ≤ 140737488355328) (w : World) (hlt : b < w.heap.size) (hN : NsAt w b off ns) (i : Nat) (n : Nd) (hn : ns[i]? = some n) (h0 : prt n.op = 2) (k : Nat) (t u : List Nd) (ht : TurOk ns b off cap (i + 1) t) (hu : TurOk ns b off cap k u)
    (hE : ∀ w : World, b < w.heap.size → NsAt w b off ns → Calls Tryd.prog 32 #[.slice (some ⟨b, off, none⟩) ns.length cap, .int .i64 (i + 1 : Nat)] w fun e w' => e = .returned (.int .i64 k) ∧ w' = w)
    (ht0 : 0 < t.length) (hu0 : 0 < u.length) (htl : t.length + u.length < ns.length) :
    Calls Tryd.prog 28 #[.slice (some ⟨b, off, none⟩) ns.length cap, .int .i64 i] w fun e w' => ∃ v, e = .returned v ∧ Below w.heap.size w w' ∧ NsOwn w' w.heap.size v (n.flip :: (if n.op = 3 then u ++ t else t ++ u)) := by
  have hil : i < ns.length := by
    rcases Nat.lt_or_ge i ns.length with h' | h'
    · exact h'
    · rw [List.getElem?_eq_none h'] at hn; cases hn
  obtain ⟨c0, c1, c2, c3, c4⟩ := hN i n hn
  have i0 : (0 : Int) ≤ (i : Int) := by omega
  have i1 : (i : Int) < (ns.length : Int) := by omega
  have h8 : n.op ≠ 8 := by intro e; rw [e] at h0; simp [prt] at h0
  have h9 : n.op ≠ 9 := by intro e; rw [e] at h0; simp [prt] at h0
  have p8 : (n.op == 8) = false := by simp [h8]
  have p9 : (n.op == 9) = false := by simp [h9]
  have HF : Hid (n.flip = n) := by show _ = _; simp [Nd.flip, flipOp, h8, h9]
  obtain ⟨w2, TS, HP⟩ : ∃ w2, Hid (TurSet w w2 n.op n.c) ∧ Hid (Calls Tryd.prog 55 #[.int .i64 n.op] ((w.alloc (ndObT n.op n.c)).alloc (ndObT n.op n.c)) fun e w' => e = .returned (.int .i64 2) ∧ w' = w2) := by
    refine ⟨_, tur_set w n.op n.c, ?_⟩
    have := parts_any n.op ((w.alloc (ndObT n.op n.c)).alloc (ndObT n.op n.c))
    rw [h0] at this
    exact this
  have C1 : Hid _ := ht w2 (Nat.lt_of_lt_of_le hlt TS.out.b.size) (hN.below TS.out.b hlt)
  have CU := (show Hid _ from hu)
  have CE := (show Hid _ from hE)
  rw [arg_succ] at C1 CE
  have HN := (show Hid _ from hN)
  have HM := (show Hid _ from hm40)
  have HL := (show Hid _ from And.intro ht0 (And.intro hu0 htl))
  have hm : ns.length ≤ 3518437208883 := by omega
  clear hn h0 h8 h9 hN ht hm40 ht0 htl hu hE hu0
  by_cases h3 : n.op = 3
  · have p3 : (n.op == 3) = true := by simp [h3]
    rw [if_pos h3, HF.out]
    have H3 := (show Hid _ from h3)
    clear h3
    go_enter Tryd.func28, Tryd.ntmps28
    go_wp2_with fail
    refine Calls.mono HP.out ?_
    rintro e w2 ⟨rfl, rfl⟩
    go_wp2_with fail
    refine Calls.mono C1.out ?_
    rintro e w3 ⟨v, rfl, hb3, ho3⟩
    obtain ⟨g, cap3, rfl, hg1, hg2, hc3⟩ := ho3.form HL.out.1
    have BB : Hid (Below w.heap.size w w3) := TS.out.b.trans (hb3.mono (by have := TS.out.s; omega))
    have B3 := (show Hid _ from hb3)
    have G3 := (show Hid _ from And.intro hg1 (And.intro hg2 hc3))
    have C5 : Hid _ := CE.out w3 (Nat.lt_of_lt_of_le hlt BB.out.size) (NsAt.below HN.out BB.out hlt)
    have C6 : Hid _ := CU.out w3 (Nat.lt_of_lt_of_le hlt BB.out.size) (NsAt.below HN.out BB.out hlt)
    clear hb3 ho3 hg1 hg2 hc3
    go_wp2_with fail
    refine Calls.mono C5.out ?_
    rintro e w3 ⟨rfl, rfl⟩
    go_wp2_with fail
    refine Calls.mono C6.out ?_
    rintro e w4 ⟨v, rfl, hb4, ho4⟩
    obtain ⟨gu, cap4, rfl, hg1, hg2, hc4⟩ := ho4.form HL.out.2.1
    have TM := (show Hid _ from tur_mid TS.out B3.out hb4)
    have c5 := TM.out.c0
    have T4 : Hid (∀ (j : Nat) u, (nsCells t)[j]? = some u → w4.cell? ⟨g, j, none⟩ = some u) := fun j u hj => TM.out.k g j u G3.out.1 G3.out.2.1 (G3.out.2.2 j u hj)
    have U4 := (show Hid _ from hc4)
    have GU : Hid ((w.heap.size + 2 ≤ g ∧ g < w4.heap.size) ∧ w.heap.size + 2 ≤ gu ∧ gu < w4.heap.size) := by
      have := TS.out.s
      have := B3.out.size
      have := hb4.size
      have := G3.out.1
      have := G3.out.2.1
      refine ⟨⟨?_, ?_⟩, ?_, hg2⟩ <;> omega
    clear hb4 ho4 hg1 hg2 hc4
    go_wp2_with (at_builtin; first
      | (refine wpList_append_ns (by rfl) _ _ (by rfl) w.heap.size _ (by rfl) _ TM.out.o gu _ _ u (by rfl) (by rfl) U4.out HL.out.2.1 (by have := HL.out; have := HM.out; simp; omega) TM.out.b.size ?_; intro g5 cap5 w5 ho5 hg5 hb5 hl5; have O5 := (show Hid _ from ho5); have W5 : Hid (w4.grownBy w5 (some (w.heap.size + 1))) := hg5; clear ho5 hg5)
      | (refine wpList_append_ns (by rfl) _ _ (by rfl) w.heap.size _ (by rfl) _ O5.out g _ _ t (by rfl) (by rfl) (grown_cells W5.out (by have := GU.out; omega) (by have := GU.out; omega) T4.out) HL.out.1 (by have := HL.out; have := HM.out; simp; omega) (Nat.le_trans TM.out.b.size W5.out.size) ?_; intro g6 cap6 w6 ho6 hg6 hb6 hl6))
    go_ret
    refine ⟨_, rfl, (TM.out.b.grown W5.out TM.out.b.size (fun k hk => ?_)).grown hg6 (Nat.le_trans TM.out.b.size W5.out.size) (fun k hk => ?_), ?_⟩
    · injection hk with hk
      try simp only at hk
      omega
    · injection hk with hk
      try simp only at hk
      omega
    · exact ho6
  · have p3 : (n.op == 3) = false := by simp [h3]
    rw [if_neg h3, HF.out]
    have H3 := (show Hid _ from h3)
    clear h3
    go_enter Tryd.func28, Tryd.ntmps28
    go_wp2_with fail
    refine Calls.mono HP.out ?_
    rintro e w2 ⟨rfl, rfl⟩
    go_wp2_with fail
    refine Calls.mono C1.out ?_
    rintro e w3 ⟨v, rfl, hb3, ho3⟩
    obtain ⟨g, cap3, rfl, hg1, hg2, hc3⟩ := ho3.form HL.out.1
    have BB : Hid (Below w.heap.size w w3) := TS.out.b.trans (hb3.mono (by have := TS.out.s; omega))
    have B3 := (show Hid _ from hb3)
    have G3 := (show Hid _ from And.intro hg1 (And.intro hg2 hc3))
    have C5 : Hid _ := CE.out w3 (Nat.lt_of_lt_of_le hlt BB.out.size) (NsAt.below HN.out BB.out hlt)
    have C6 : Hid _ := CU.out w3 (Nat.lt_of_lt_of_le hlt BB.out.size) (NsAt.below HN.out BB.out hlt)
    clear hb3 ho3 hg1 hg2 hc3
    go_wp2_with fail
    refine Calls.mono C5.out ?_
    rintro e w3 ⟨rfl, rfl⟩
    go_wp2_with fail
    refine Calls.mono C6.out ?_
    rintro e w4 ⟨v, rfl, hb4, ho4⟩
    obtain ⟨gu, cap4, rfl, hg1, hg2, hc4⟩ := ho4.form HL.out.2.1
    have TM := (show Hid _ from tur_mid TS.out B3.out hb4)
    have c5 := TM.out.c0
    have T4 : Hid (∀ (j : Nat) u, (nsCells t)[j]? = some u → w4.cell? ⟨g, j, none⟩ = some u) := fun j u hj => TM.out.k g j u G3.out.1 G3.out.2.1 (G3.out.2.2 j u hj)
    have U4 := (show Hid _ from hc4)
    have GU : Hid ((w.heap.size + 2 ≤ g ∧ g < w4.heap.size) ∧ w.heap.size + 2 ≤ gu ∧ gu < w4.heap.size) := by
      have := TS.out.s
      have := B3.out.size
      have := hb4.size
      have := G3.out.1
      have := G3.out.2.1
      refine ⟨⟨?_, ?_⟩, ?_, hg2⟩ <;> omega
    clear hb4 ho4 hg1 hg2 hc4
    go_wp2_with (at_builtin; first
      | (refine wpList_append_ns (by rfl) _ _ (by rfl) w.heap.size _ (by rfl) _ TM.out.o g _ _ t (by rfl) (by rfl) T4.out HL.out.1 (by have := HL.out; have := HM.out; simp; omega) TM.out.b.size ?_; intro g5 cap5 w5 ho5 hg5 hb5 hl5; have O5 := (show Hid _ from ho5); have W5 : Hid (w4.grownBy w5 (some (w.heap.size + 1))) := hg5; clear ho5 hg5)
      | (refine wpList_append_ns (by rfl) _ _ (by rfl) w.heap.size _ (by rfl) _ O5.out gu _ _ u (by rfl) (by rfl) (grown_cells W5.out (by have := GU.out; omega) (by have := GU.out; omega) U4.out) HL.out.2.1 (by have := HL.out; have := HM.out; simp; omega) (Nat.le_trans TM.out.b.size W5.out.size) ?_; intro g6 cap6 w6 ho6 hg6 hb6 hl6))
    go_ret
    refine ⟨_, rfl, (TM.out.b.grown W5.out TM.out.b.size (fun k hk => ?_)).grown hg6 (Nat.le_trans TM.out.b.size W5.out.size) (fun k hk => ?_), ?_⟩
    · injection hk with hk
      try simp only at hk
      omega
    · injection hk with hk
      try simp only at hk
      omega
    · exact ho6
theorem turnOf_at (ns : List Nd) (b off cap : Nat) (hm40 : ns.length * 40 ≤ 140737488355328) : ∀ (f i j : Nat), f ≤ ns.length + 1 → endF ns f i = some j → TurOk ns b off cap i (turF ns f i)
  | 0, i, j, _, h => by simp [endF] at h
  | f + 1, i, j, hf, h => by
    have hml : ns.length ≤ maxLen := by unfold maxLen; omega
    obtain ⟨n, hn, hil, hc⟩ := part_cases ns f i j h
    have gj := endF_gt ns (f + 1) i j h
    intro w hlt hN
    rw [turF_at ns f i n hn]
    rcases hc with ⟨h0, rfl⟩ | ⟨h0, h1⟩ | ⟨h0, k, h1, h2⟩
    · have e3 : ¬ n.op = 3 := by intro e; rw [e] at h0; simp [prt] at h0
      have e4 : ¬ n.op = 4 := by intro e; rw [e] at h0; simp [prt] at h0
      rw [if_neg (by omega), if_neg e3, if_neg e4]
      by_cases h8 : n.op = 8
      · exact turnOf_flip ns b off cap hml w hlt hN i n hn (Or.inl h8)
      · by_cases h9 : n.op = 9
        · exact turnOf_flip ns b off cap hml w hlt hN i n hn (Or.inr h9)
        · exact turnOf_leaf ns b off cap hml w hlt hN i n hn h0 h8 h9
    · rw [if_pos h0]
      have l1 := turF_len ns f _ _ (by omega) h1
      have g1 := endF_gt ns f _ _ h1
      exact turnOf_one ns b off cap hm40 w hlt hN i n hn h0 _ (turnOf_at ns b off cap hm40 f _ _ (by omega) h1) (by omega) (by omega)
    · have l1 := turF_len ns f _ _ (by omega) h1
      have g1 := endF_gt ns f _ _ h1
      have l2 := turF_len ns f _ _ (by omega) h2
      have g2 := endF_gt ns f _ _ h2
      have c := turnOf_two ns b off cap hm40 w hlt hN i n hn h0 k _ _ (turnOf_at ns b off cap hm40 f _ _ (by omega) h1) (turnOf_at ns b off cap hm40 f _ _ (by omega) h2) (fun w hlt hN => endOf_k ns _ (i + 1) f k w ⟨_, cap, rfl, hml, Or.inr ⟨b, off, rfl, hlt, hN⟩⟩ (by omega) h1) (by omega) (by omega) (by omega)
      rw [if_neg (by omega), endE_of ns f (i + 1) k (by omega) h1]
      rcases (prt_two n.op).1 h0 with e3 | e4
      · rw [if_pos e3] at c ⊢
        exact c
      · rw [if_neg (by omega)] at c
        rw [if_neg (by omega), if_pos e4]
        exact c
theorem turnOf_any (ns : List Nd) (v : Value) (w : World) (hN : NsIn w v ns) (hm40 : ns.length * 40 ≤ 140737488355328) (hv : endE ns 0 = some ns.length) :
    Calls Tryd.prog 28 #[v, .int .i64 0] w fun e w' => ∃ v, e = .returned v ∧ Below w.heap.size w w' ∧ NsOwn w' w.heap.size v (turE ns) := by
  obtain ⟨a, cap, rfl, hm, h | ⟨b, off, rfl, hlt, hn⟩⟩ := hN
  · subst h
    rw [endE_nil] at hv; cases hv
  · exact turnOf_at ns b off cap hm40 (ns.length + 1) 0 ns.length (by omega) hv w hlt hn
end Go.Proofs.YtajkkmnojfghoaaDoor
namespace Go.Proofs.YtajkkmnojfghoaaDoor
set_option linter.unusedSimpArgs false
set_option linter.unusedVariables false
open Go.RowKit

theorem half_step (m i : Nat) : ((m / 2 ^ i : Nat) : Int) / 2 = ((m / 2 ^ (i + 1) : Nat) : Int) := by
  rw [Nat.pow_succ, ← Nat.div_div_eq_div_mul]
  omega
theorem tb_mod (m j : Nat) : (((m / 2 ^ j : Nat) : Int) % 2 == 1) = m.testBit j := by
  rw [tb_eq]
  generalize m / 2 ^ j = z
  by_cases h : z % 2 = 1
  · rw [h]
    have : (z : Int) % 2 = 1 := by omega
    rw [this]; rfl
  · have : ¬ (z : Int) % 2 = 1 := by omega
    simp only [h, decide_false]
    rw [beq_eq_false_iff_ne]
    exact this

theorem wrap_half (z : Nat) (h : z < 18446744073709551616) : Value.int IntKind.u64 (IntKind.u64.wrap ((z : Int) / 2)) = Value.int IntKind.u64 ((z / 2 : Nat) : Int) := by
  have e : (z : Int) / 2 = ((z / 2 : Nat) : Int) := by omega
  rw [e, u64_small _ (by omega)]
theorem wrap_twice (z : Nat) (h : z * 2 < 18446744073709551616) : Value.int IntKind.u64 (IntKind.u64.wrap ((z : Int) * 2)) = Value.int IntKind.u64 ((z * 2 : Nat) : Int) := by
  have e : (z : Int) * 2 = ((z * 2 : Nat) : Int) := by omega
  rw [e, u64_small _ h]
set_option maxHeartbeats 400000 in
theorem in_walk (k : C4) (x : Int) (h0 : 0 ≤ x) (hb : x < 256) (m : Nat) (hm : k.w (x / 64).toNat = (m : Int)) (hml : m < 18446744073709551616) (w : World) :
    Calls Tryd.prog 21 #[k.v, .int .i64 x] w fun e w' => e = .returned (.bool (m.testBit (x % 64).toNat)) ∧ Below w.heap.size w w' := by
  have hw := k.get (x / 64).toNat (by omega)
  rw [hm] at hw
  have HL := (show Hid _ from hml)
  clear hm hml
  go_enter Tryd.func21, Tryd.ntmps21
  go_wp2
  go_loop [5, 6] (fun n i => ∃ j z : Nat, (j : Int) ≤ x % 64 ∧ Hid (z = m / 2 ^ j) ∧ i = .int .i64 j ∧ n = .int .u64 (z : Int)) (fun _ i => (x % 64).toNat - (intOf i).toNat)
  case atStart => exact ⟨0, m, by omega, by show m = m / 2 ^ 0; simp, rfl, rfl⟩
  case round =>
    obtain ⟨j, z, hj, HZ, rfl, rfl⟩ := hrel
    by_cases hlt : (j : Int) < x % 64
    · go_wp2
      go_round
      case rel =>
        have hz : z < 18446744073709551616 := by rw [HZ.out]; exact Nat.lt_of_le_of_lt (Nat.div_le_self _ _) HL.out
        exact ⟨j + 1, z / 2, by omega, by show _ = _; rw [HZ.out, Nat.pow_succ, ← Nat.div_div_eq_div_mul], by go_num, wrap_half z hz⟩
      case measure => simp [intOf]; omega
    · have hj2 : (x % 64).toNat = j := by omega
      have HJ := (show Hid _ from hj2)
      clear hj2
      go_wp2
      go_ret
      refine ⟨?_, (Below.refl _ _).alloc (Nat.le_refl _) _⟩
      show Ending.returned (.bool ((z : Int) % 2 == 1)) = _
      rw [HJ.out, ← tb_mod, ← HZ.out]
theorem in_any (k : C4) (hk : k.ok) (b : Nat) (hb : b < 256) (w : World) :
    Calls Tryd.prog 21 #[k.v, .int .i64 b] w fun e w' => e = .returned (.bool (k.has b)) ∧ Below w.heap.size w w' := by
  obtain ⟨m, hm, hl⟩ := okW_nat (C4.ok_w hk (b / 64))
  have e1 : ((b : Int) / 64).toNat = b / 64 := by omega
  have e2 : ((b : Int) % 64).toNat = b % 64 := by omega
  have h := in_walk k b (by omega) (by omega) m (by rw [e1]; exact hm) hl w
  rw [e2] at h
  have e3 : k.has b = m.testBit (b % 64) := by unfold C4.has; rw [hm, Int.toNat_natCast]
  rw [e3]
  exact h

/-! With: a byte more -/
theorem add_is_or (x j : Nat) (h : x.testBit j = false) : x + 2 ^ j = x ||| 2 ^ j := by
  have hb : x / 2 ^ j % 2 = 0 := by
    rw [tb_eq] at h
    have := of_decide_eq_false h
    omega
  have hp : 0 < 2 ^ j := Nat.two_pow_pos j
  have e1 : x = 2 ^ (j + 1) * (x / 2 ^ j / 2) + x % 2 ^ j := by
    have a1 := Nat.div_add_mod x (2 ^ j)
    have a2 : x / 2 ^ j = 2 * (x / 2 ^ j / 2) := by omega
    rw [Nat.pow_succ, Nat.mul_assoc]
    rw [a2] at a1
    omega
  have hlo : x % 2 ^ j < 2 ^ j := Nat.mod_lt _ hp
  generalize x % 2 ^ j = lo at *
  generalize x / 2 ^ j / 2 = A at *
  have j1 : 2 ^ (j + 1) * A ||| lo = 2 ^ (j + 1) * A + lo := nat_join j _ _ (by rw [Nat.pow_succ, Nat.mul_assoc, Nat.mul_mod_right]) hlo
  have j2 : 2 ^ (j + 1) * A ||| 2 ^ j = 2 ^ (j + 1) * A + 2 ^ j := nat_join (j + 1) _ _ (by rw [Nat.mul_mod_right]) (by rw [Nat.pow_succ]; omega)
  have j3 : (2 ^ (j + 1) * A + 2 ^ j) ||| lo = 2 ^ (j + 1) * A + 2 ^ j + lo := nat_join j _ _ (by rw [Nat.pow_succ, Nat.mul_assoc, ← Nat.mul_succ, Nat.mul_mod_right]) hlo
  rw [e1]
  rw [← j1, Nat.or_assoc, Nat.or_comm lo, ← Nat.or_assoc, j2, j3, j1]
  omega
theorem C4.put_add {k : C4} (hk : k.ok) (b : Nat) (hb : b < 256) (h : k.has b = false) : k.put ((b : Int) / 64).toNat (IntKind.u64.wrap (k.w ((b : Int) / 64).toNat + ((2 ^ ((b : Int) % 64).toNat : Nat) : Int))) = k.add (b : Int) := by
  have e1 : ((b : Int) / 64).toNat = b / 64 := by omega
  have e2 : ((b : Int) % 64).toNat = b % 64 := by omega
  unfold C4.add
  rw [e1, e2]
  obtain ⟨m, hm, hl⟩ := okW_nat (C4.ok_w hk (b / 64))
  have e3 : m.testBit (b % 64) = false := by
    unfold C4.has at h
    rwa [hm, Int.toNat_natCast] at h
  rw [hm]
  congr 1
  have h2 : 2 ^ (b % 64) < 2 ^ 64 := Nat.pow_lt_pow_right (by decide) (by omega)
  have ew : IntKind.u64.wrap (2 ^ (b % 64)) = ((2 ^ (b % 64) : Nat) : Int) := by
    have := u64_small (2 ^ (b % 64)) h2
    rw [Int.natCast_pow] at this
    rw [Int.natCast_pow]
    exact this
  have ho : m ||| 2 ^ (b % 64) < 2 ^ 64 := Nat.or_lt_two_pow hl h2
  rw [ew, u64_or_nat m _ hl h2, ← Int.natCast_add, add_is_or m _ e3]
  exact u64_small _ ho
theorem C4.add_same {k : C4} (hk : k.ok) (b : Nat) (hb : b < 256) (h : k.has b = true) : k.add (b : Int) = k := by
  apply C4.ext_has (C4.add_ok hk b) hk
  intro i hi
  rw [C4.has_add hk b i hb hi]
  by_cases e : b = i
  · subst e; rw [h]; rfl
  · simp [e]
end Go.Proofs.YtajkkmnojfghoaaDoor
namespace Go.Proofs.YtajkkmnojfghoaaDoor
set_option linter.unusedSimpArgs false
set_option linter.unusedVariables false
open Go.RowKit

set_option maxHeartbeats 1000000 in
theorem count_any (k : C4) (hk : k.ok) (w : World) :
    Calls Tryd.prog 18 #[k.v] w fun e w' => e = .returned (.int .i64 (cnt k.has 256)) ∧ Below w.heap.size w w' := by
  go_enter Tryd.func18, Tryd.ntmps18
  go_wp2
  go_loopw [3, 4] (fun u v wr => ∃ i c : Nat, i ≤ 256 ∧ c ≤ i ∧ Hid (c = cnt k.has i) ∧ v = .int .i64 i ∧ u = .int .i64 c ∧ Below w.heap.size w wr ∧ Hb wr w.heap.size k) (fun _ v _ => 256 - (intOf v).toNat)
  case atStart => exact ⟨0, 0, by omega, by omega, Eq.refl _, rfl, rfl, (Below.refl _ _).alloc (Nat.le_refl _) _, Hb.new _ k _ rfl⟩
  case round =>
    obtain ⟨i, c, hi, hc, HC, rfl, rfl, hB, hK⟩ := hrel
    obtain ⟨c0, c1, c2, c3, e0, e1, e2, e3⟩ := hK.all
    by_cases hlt : i < 256
    · have i1 : (i : Int) < 256 := by omega
      go_wp2_with fail
      refine (in_any k hk i hlt _).mono ?_
      rintro e w1 ⟨rfl, hb1⟩
      have hB1 := hB.trans (hb1.mono hB.size)
      have hK1 := hK.below hb1 hK.lt
      cases hn : k.has i
      · have HE : Hid (c = cnt k.has (i + 1)) := by show _ = _; rw [cnt, hn, HC.out]; rfl
        go_wp2
        exact ⟨⟨i + 1, c, by omega, by omega, HE, by go_num, by go_num, hB1, hK1⟩, by simp [intOf]; omega⟩
      · have HE : Hid (c + 1 = cnt k.has (i + 1)) := by show _ = _; rw [cnt, hn, HC.out]; rfl
        go_wp2
        exact ⟨⟨i + 1, c + 1, by omega, by omega, HE, by go_num, by go_num, hB1, hK1⟩, by simp [intOf]; omega⟩
    · have hi2 : i = 256 := by omega
      subst hi2
      go_wp2
      go_ret
      exact ⟨ret_int (by rw [HC.out]), hB⟩
end Go.Proofs.YtajkkmnojfghoaaDoor
namespace Go.Proofs.YtajkkmnojfghoaaDoor
set_option linter.unusedSimpArgs false
set_option linter.unusedVariables false
set_option maxRecDepth 100000
open Go.RowKit

theorem count_b (k : C4) (hk : k.ok) (w : World) :
    Calls Tryd.prog 18 #[k.v] w fun e w' => ∃ c : Nat, e = .returned (.int .i64 c) ∧ Hid (((0 : Int) < (c : Int)) ↔ ¬ k.eqb z4 = true) ∧ c ≤ 256 ∧ Below w.heap.size w w' := by
  refine (count_any k hk w).mono ?_
  rintro e w' ⟨rfl, hb⟩
  exact ⟨cnt k.has 256, rfl, cnt_zero_iff hk, cnt_le _ _, hb⟩
set_option maxHeartbeats 4000000 in
theorem fault_at (ns : List Nd) (ho : NdOk ns) (b off cap : Nat) (hm : ns.length ≤ maxLen) (w : World) (hlt : b < w.heap.size) (hN : NsAt w b off ns) (h0 : 0 < ns.length) :
    Calls Tryd.prog 25 #[.slice (some ⟨b, off, none⟩) ns.length cap] w fun e w' => e = .returned (.int .i64 (faultL ns)) ∧ Below w.heap.size w w' := by
  have HM := (show Hid _ from hm)
  unfold maxLen at hm
  by_cases h60 : 60 < ns.length
  · have g60 : (60 : Int) < (ns.length : Int) := by omega
    have HF : Hid (faultL ns = 3) := by show _ = _; rw [faultL, if_pos h60]
    go_enter Tryd.func25, Tryd.ntmps25
    go_wp2
    go_ret
    exact ⟨by rw [HF.out]; rfl, Below.refl _ _⟩
  · have g60 : ¬ (60 : Int) < (ns.length : Int) := by omega
    go_enter Tryd.func25, Tryd.ntmps25
    go_wp2
    go_loopw [3] (fun v wr => ∃ i : Nat, i ≤ ns.length ∧ v = .int .i64 i ∧ Hid (scanL ns = scanL (ns.drop i)) ∧ Below w.heap.size w wr) (fun v _ => ns.length - (intOf v).toNat)
    case atStart => exact ⟨0, by omega, rfl, Eq.refl _, Below.refl _ _⟩
    case round =>
      obtain ⟨i, hi, rfl, HS, hB⟩ := hrel
      have hNr := hN.below hB hlt
      by_cases hil : i < ns.length
      · obtain ⟨n, hn⟩ : ∃ n, ns[i]? = some n := ⟨ns[i], List.getElem?_eq_getElem hil⟩
        have hno : n.c.ok := ho n (List.mem_of_getElem? hn)
        obtain ⟨c0, c1, c2, c3, c4⟩ := hNr i n hn
        have HD : Hid _ := scan_drop ns i n hn
        have i0 : (0 : Int) ≤ (i : Int) := by omega
        have i1 : (i : Int) < (ns.length : Int) := by omega
        clear hn
        by_cases hr : n.op < 1 ∨ 9 < n.op
        · have HF : Hid (faultL ns = 1) := by
            show _ = _
            have e1 : scanL ns = 1 := by rw [HS.out, HD.out, if_pos hr]
            rw [faultL, if_neg h60, e1]; rfl
          rcases hr with hr | hr
          · go_wp2
            go_ret
            exact ⟨by rw [HF.out]; rfl, hB⟩
          · have hr2 : ¬ n.op < 1 := by omega
            go_wp2
            go_ret
            exact ⟨by rw [HF.out]; rfl, hB⟩
        · have hr1 : ¬ n.op < 1 := by omega
          have hr2 : ¬ 9 < n.op := by omega
          by_cases hb1 : n.op = 1
          · have hb2 : (n.op != 1) = false := by simp [hb1]
            have HS2 : Hid (scanL ns = scanL (ns.drop (i + 1))) := by
              show _ = _
              rw [HS.out, HD.out, if_neg hr, if_neg (by simp [hb1])]
            clear hb1
            go_wp2
            exact ⟨⟨i + 1, by omega, by go_num, HS2, hB⟩, by simp [intOf]; omega⟩
          · have hb2 : (n.op != 1) = true := by simp [hb1]
            go_wp2_with fail
            refine (count_b n.c hno _).mono ?_
            rintro e w1 ⟨c, rfl, HC, hc, hb3⟩
            have hB1 := hB.trans (hb3.mono hB.size)
            by_cases hz : n.c.eqb z4 = true
            · have gz : ¬ (0 : Int) < (c : Int) := fun h => (HC.out.1 h) hz
              have HS2 : Hid (scanL ns = scanL (ns.drop (i + 1))) := by
                show _ = _
                rw [HS.out, HD.out, if_neg hr, if_neg (by simp [hz])]
              clear hz
              go_wp2
              exact ⟨⟨i + 1, by omega, by go_num, HS2, hB1⟩, by simp [intOf]; omega⟩
            · have gz : (0 : Int) < (c : Int) := HC.out.2 hz
              have HF : Hid (faultL ns = 2) := by
                show _ = _
                have e1 : scanL ns = 2 := by rw [HS.out, HD.out, if_neg hr, if_pos ⟨hb1, hz⟩]
                rw [faultL, if_neg h60, e1]; rfl
              clear hz
              go_wp2
              go_ret
              exact ⟨by rw [HF.out]; rfl, hB1⟩
      · have hi2 : i = ns.length := by omega
        subst hi2
        have e0 : scanL ns = 0 := by rw [HS.out, List.drop_length]; rfl
        have z0 : ((ns.length : Int) == 0) = false := by rw [beq_eq_false_iff_ne]; omega
        have hne : ns ≠ [] := by intro e; rw [e] at h0; simp at h0
        have HF : Hid (faultL ns = if endE ns 0 ≠ some ns.length then 2 else 0) := by
          show _ = _
          rw [faultL, if_neg h60, e0]
          simp [hne]
        clear e0 hne
        go_wp2_with fail
        refine (endOf_any ns _ 0 _ ⟨_, cap, rfl, HM.out, Or.inr ⟨b, off, rfl, Nat.lt_of_lt_of_le hlt hB.size, hNr⟩⟩).mono ?_
        rintro e w1 ⟨rfl, rfl⟩
        cases he : endE ns 0 with
        | none =>
          have HF2 : Hid (faultL ns = 2) := by show _ = _; rw [HF.out, he]; simp
          have q : ((-1 : Int) != (ns.length : Int)) = true := by rw [bne_iff_ne]; omega
          simp only [endI]
          clear he
          go_wp2
          go_ret
          exact ⟨by rw [HF2.out]; rfl, hB⟩
        | some j =>
          by_cases hj : j = ns.length
          · have HF2 : Hid (faultL ns = 0) := by show _ = _; rw [HF.out, he, hj]; simp
            simp only [endI]
            have q : ((j : Int) != (ns.length : Int)) = false := by rw [hj]; simp
            clear he hj
            go_wp2
            go_ret
            exact ⟨by rw [HF2.out]; rfl, hB⟩
          · have HF2 : Hid (faultL ns = 2) := by show _ = _; rw [HF.out, he]; simp [hj]
            simp only [endI]
            have q : ((j : Int) != (ns.length : Int)) = true := by rw [bne_iff_ne]; omega
            clear he hj
            go_wp2
            go_ret
            exact ⟨by rw [HF2.out]; rfl, hB⟩
set_option maxHeartbeats 1000000 in
theorem fault_nil (a : Option Addr) (cap : Nat) (w : World) :
    Calls Tryd.prog 25 #[.slice a 0 cap] w fun e w' => e = .returned (.int .i64 2) ∧ Below w.heap.size w w' := by
  go_enter Tryd.func25, Tryd.ntmps25
  go_wp2
  go_loop [3] (fun v => v = .int .i64 0) (fun _ => 0)
  case atStart => rfl
  case round =>
    subst hrel
    go_wp2
    go_ret
    exact ⟨rfl, Below.refl _ _⟩
theorem fault_any (ns : List Nd) (ho : NdOk ns) (v : Value) (w : World) (hN : NsIn w v ns) :
    Calls Tryd.prog 25 #[v] w fun e w' => e = .returned (.int .i64 (faultL ns)) ∧ Below w.heap.size w w' := by
  obtain ⟨a, cap, rfl, hm, h | ⟨b, off, rfl, hlt, hn⟩⟩ := hN
  · subst h
    exact fault_nil a cap w
  · by_cases h0 : 0 < ns.length
    · exact fault_at ns ho b off cap hm w hlt hn h0
    · have : ns = [] := List.eq_nil_of_length_eq_zero (by omega)
      subst this
      exact fault_nil _ cap w
end Go.Proofs.YtajkkmnojfghoaaDoor
namespace Go.Proofs.YtajkkmnojfghoaaDoor
set_option linter.unusedSimpArgs false
set_option linter.unusedVariables false
set_option maxRecDepth 100000
open Go.RowKit

theorem list2 {α : Type} (l : List α) (h : l.length = 2) : ∃ a b, l = [a, b] := by
  match l, h with
  | [a, b], _ => exact ⟨a, b, rfl⟩
set_option maxRecDepth 100000 in
theorem eqNd (d : Nat) (n m : Nd) (w : World) : (Op.equalIn (d + 1 + 1 + 1) 56 n.v m.v).run Tryd.prog w = .ok (n.eqb m) w := by
  have hs : Tryd.prog.underlying 56 = some (.struct (Tryd.prog.fieldsOf 56)) := by kernel_rfl
  have hp : Tryd.prog.stoodInHeld 56 = false := by kernel_rfl
  rw [run_equalIn_struct w (d + 1 + 1) _ _ _ hs hp]
  have hf : (Tryd.prog.fieldsOf 56).toList.map (fun f => (f.type, f.offset, f.name == "_")) = [(3, 0, false), (24, 1, false)] := by kernel_rfl
  generalize (Tryd.prog.fieldsOf 56).toList = fs at hf
  obtain ⟨f0, f1, rfl⟩ := list2 fs (by have := congrArg List.length hf; simpa using this)
  · simp only [List.map_cons, List.map_nil, List.cons.injEq, Prod.mk.injEq, and_true] at hf
    obtain ⟨⟨t0, o0, n0⟩, ⟨t1, o1, n1⟩⟩ := hf
    have n0' : f0.name ≠ "_" := by simpa using n0
    have n1' : f1.name ≠ "_" := by simpa using n1
    have hi : ∀ (a b : Int) (w : World), (Op.equalIn (d + 1 + 1) 3 (.int .i64 a) (.int .i64 b)).run Tryd.prog w = .ok (a == b) w := fun a b w => run_equalIn_int w (d + 1) 3 .i64 .i64 a b Tryd.underlying3
    have hc : ∀ (x y : C4) (w : World), (Op.equalIn (d + 1 + 1) 24 x.v y.v).run Tryd.prog w = .ok (x.eqb y) w := fun x y w => eq4d d x y w
    have q0 : ∀ (z : Nd) (w : World), (part 3 z.cells 0).run Tryd.prog w = .ok (.int .i64 z.op) w := fun _ _ => by kernel_rfl
    have q1 : ∀ (z : Nd) (w : World), (part 24 z.cells 1).run Tryd.prog w = .ok z.c.v w := fun _ _ => by kernel_rfl
    simp only [Op.eqFields, t0, o0, t1, o1, ne_eq, n0', n1', not_false_eq_true, if_true, Sem.run_bind, q0, q1, Result.andThen_ok, hi, hc, Sem.run_ite, Sem.run_pure]
    unfold Nd.eqb
    cases h1 : n.op == m.op <;> cases h2 : n.c.eqb m.c <;> simp [q1, hc, h2]
theorem eqN (n m : Nd) (w : World) : (Op.equalIn 10000 56 n.v m.v).run Tryd.prog w = .ok (n.eqb m) w := eqNd 9997 n m w
set_option maxHeartbeats 1000000 in
theorem nodes_len (x y : List Nd) (a1 a2 : Option Addr) (c1 c2 : Nat) (h1 : x.length ≤ maxLen) (h2 : y.length ≤ maxLen) (hne : x.length ≠ y.length) (w : World) :
    Calls Tryd.prog 31 #[.slice a1 x.length c1, .slice a2 y.length c2] w fun e w' => e = .returned (.bool (nsEq x y)) ∧ Below w.heap.size w w' := by
  rw [nsEq_len x y hne]
  have hb : ((x.length : Int) != (y.length : Int)) = true := by rw [bne_iff_ne]; omega
  clear hne
  go_enter Tryd.func31, Tryd.ntmps31
  go_wp2
  go_ret
  exact ⟨rfl, Below.refl _ _⟩
set_option maxHeartbeats 4000000 in
theorem nodes_same (x y : List Nd) (b1 o1 b2 o2 : Nat) (c1 c2 : Nat) (h1 : x.length ≤ maxLen) (hlen : x.length = y.length) (w : World) (hl1 : b1 < w.heap.size) (hl2 : b2 < w.heap.size) (hx : NsAt w b1 o1 x) (hy : NsAt w b2 o2 y) :
    Calls Tryd.prog 31 #[.slice (some ⟨b1, o1, none⟩) x.length c1, .slice (some ⟨b2, o2, none⟩) x.length c2] w fun e w' => e = .returned (.bool (nsEq x y)) ∧ Below w.heap.size w w' := by
  unfold maxLen at h1
  have he := eqN
  have HL := (show Hid _ from hlen)
  clear hlen
  go_enter Tryd.func31, Tryd.ntmps31
  go_wp2
  go_loopw [5] (fun v wr => ∃ i : Nat, i ≤ x.length ∧ v = .int .i64 i ∧ Hid (nsEq x y = nsEq (x.drop i) (y.drop i)) ∧ Below w.heap.size w wr) (fun v _ => x.length - (intOf v).toNat)
  case atStart => exact ⟨0, by omega, rfl, Eq.refl _, Below.refl _ _⟩
  case round =>
    obtain ⟨i, hi, rfl, HS, hB⟩ := hrel
    by_cases hil : i < x.length
    · obtain ⟨n, hn⟩ : ∃ n, x[i]? = some n := ⟨x[i], List.getElem?_eq_getElem hil⟩
      obtain ⟨m, hm⟩ : ∃ m, y[i]? = some m := ⟨y[i]'(by rw [← HL.out]; exact hil), List.getElem?_eq_getElem (by rw [← HL.out]; exact hil)⟩
      obtain ⟨a0, a1, a2, a3, a4⟩ := (hx.below hB hl1) i n hn
      obtain ⟨d0, d1, d2, d3, d4⟩ := (hy.below hB hl2) i m hm
      have HD : Hid _ := nsEq_drop x y i n m hn hm
      have i0 : (0 : Int) ≤ (i : Int) := by omega
      have i1 : (i : Int) < (x.length : Int) := by omega
      clear hn hm
      cases hq : n.eqb m
      · have HF : Hid (nsEq x y = false) := by show _ = _; rw [HS.out, HD.out, hq]; rfl
        go_wp2_with fail
        go_quiet (fail)
        go_wp2
        go_ret
        exact ⟨by rw [HF.out]; rfl, hB.trans ((below_drewN' wr nq).mono hB.size)⟩
      · have HF : Hid (nsEq x y = nsEq (x.drop (i + 1)) (y.drop (i + 1))) := by show _ = _; rw [HS.out, HD.out, hq]; rfl
        go_wp2_with fail
        go_quiet (fail)
        go_wp2
        exact ⟨⟨i + 1, by omega, by go_num, HF, hB.trans ((below_drewN' wr nq).mono hB.size)⟩, by simp [intOf]; omega⟩
    · have HF : Hid (nsEq x y = true) := by
        show _ = _
        have e1 : x.drop i = [] := List.drop_eq_nil_of_le (by omega)
        have e2 : y.drop i = [] := List.drop_eq_nil_of_le (by have := HL.out; omega)
        rw [HS.out, e1, e2]; rfl
      go_wp2
      go_ret
      exact ⟨by rw [HF.out]; rfl, hB⟩
set_option maxHeartbeats 1000000 in
theorem nodes_nil (a1 a2 : Option Addr) (c1 c2 : Nat) (w : World) :
    Calls Tryd.prog 31 #[.slice a1 0 c1, .slice a2 0 c2] w fun e w' => e = .returned (.bool true) ∧ Below w.heap.size w w' := by
  go_enter Tryd.func31, Tryd.ntmps31
  go_wp2
  go_loop [5] (fun v => v = .int .i64 0) (fun _ => 0)
  case atStart => rfl
  case round =>
    subst hrel
    go_wp2
    go_ret
    exact ⟨rfl, Below.refl _ _⟩
theorem nodes_any (x y : List Nd) (v u : Value) (w : World) (hx : NsIn w v x) (hy : NsIn w u y) :
    Calls Tryd.prog 31 #[v, u] w fun e w' => e = .returned (.bool (nsEq x y)) ∧ Below w.heap.size w w' := by
  obtain ⟨a1, c1, rfl, h1, hx⟩ := hx
  obtain ⟨a2, c2, rfl, h2, hy⟩ := hy
  by_cases hlen : x.length = y.length
  · rcases hx with hx | ⟨b1, o1, rfl, hl1, hx⟩
    · subst hx
      have : y = [] := List.eq_nil_of_length_eq_zero (by simpa using hlen.symm)
      subst this
      exact nodes_nil a1 a2 c1 c2 w
    · rcases hy with hy | ⟨b2, o2, rfl, hl2, hy⟩
      · subst hy
        have : x = [] := List.eq_nil_of_length_eq_zero (by simpa using hlen)
        subst this
        exact nodes_nil _ a2 c1 c2 w
      · rw [← hlen]
        exact nodes_same x y b1 o1 b2 o2 c1 c2 h1 hlen w hl1 hl2 hx hy
  · exact nodes_len x y a1 a2 c1 c2 h1 h2 hlen w
end Go.Proofs.YtajkkmnojfghoaaDoor

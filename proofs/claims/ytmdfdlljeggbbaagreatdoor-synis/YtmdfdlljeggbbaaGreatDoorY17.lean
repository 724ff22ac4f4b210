/- The landed writer: part at each kind of node, from what two and one do. The landed writer: two, one. -/
import Derived.Test.YtmdfdlljeggbbaaGreatDoorY16
import Derived.Deep.RegionHeld3
namespace Go.Proofs.YtmdfdlljeggbbaaGreatDoor
set_option linter.unusedSimpArgs false
set_option linter.unusedVariables false
set_option maxRecDepth 100000
open Go.RowKit
/-- A call of function F behind the writer's pointer answers r and writes s. -/
def Adds (F : Nat) (ns : List Nd) (b off cap : Nat) (a c r : Value) (s : List UInt8) : Prop := ∀ (B g : Nat) (l : List UInt8) (w : World), Wrt w B g (.slice (some ⟨b, off, none⟩) ns.length cap) l → b < g → NsAt w b off ns → B ≤ w.heap.size → l.length + s.length ≤ 1000000 →
  Calls Tryz.prog F #[.pointer (some ⟨g, 0, none⟩), a, c] w fun e w' => e = .returned r ∧ Wrt w' B g (.slice (some ⟨b, off, none⟩) ns.length cap) (l ++ s) ∧ Below g w w'
/-- part at node i, in brackets or not, writes s and answers k. -/
def PartOk (ns : List Nd) (b off cap i k : Nat) (x : Bool) (s : List UInt8) : Prop := Adds 16 ns b off cap (.int .i64 i) (.bool x) (.int .i64 k) s
def TwoOk (ns : List Nd) (b off cap i k : Nat) (t : List UInt8) (s : List UInt8) : Prop := Adds 32 ns b off cap (.int .i64 i) (.string ⟨t.toArray⟩) (.int .i64 k) s
def OneOk (ns : List Nd) (b off cap i k : Nat) (c : UInt8) (s : List UInt8) : Prop := Adds 33 ns b off cap (.int .i64 i) (.int .u8 (c.toNat : Int)) (.int .i64 k) s
/-- The cells that are read where a class is written. -/
def ClsAt (w : World) (g b o : Nat) (nv : Value) (c : C4) : Prop := w.cell? ⟨g, 2, none⟩ = some nv ∧ w.cell? ⟨b, o + 1, none⟩ = some (.int .u64 c.a) ∧ w.cell? ⟨b, o + 2, none⟩ = some (.int .u64 c.b) ∧ w.cell? ⟨b, o + 3, none⟩ = some (.int .u64 c.c) ∧ w.cell? ⟨b, o + 4, none⟩ = some (.int .u64 c.d)
theorem br_app (l s : List UInt8) : l ++ [40] ++ s ++ [41] = l ++ brT true s := by simp [brT]
theorem br_len (s : List UInt8) : (brT true s).length = s.length + 2 := by simp [brT]
theorem br_no (s : List UInt8) : brT false s = s := rfl
set_option maxHeartbeats 1000000 in
theorem part_begin_no (ns : List Nd) (b off cap i : Nat) (hl : ns.length ≤ 60) (n : Nd) (hn : ns[i]? = some n) (hop : n.op = 8) : PartOk ns b off cap i (i + 1) false (brT false [94]) := by
  intro B g l w h hbg hN hB hlen
  rw [br_no] at hlen
  rw [br_no]
  have hil := lt_of_at hn
  have i0 : (0 : Int) ≤ (i : Int) := by omega
  have i1 : (i : Int) < (ns.length : Int) := by omega
  obtain ⟨w1, hw1⟩ : ∃ w1, w1 = w := ⟨_, rfl⟩
  obtain ⟨l1, hl1⟩ : ∃ l1, l1 = l := ⟨_, rfl⟩
  rw [← hw1] at h hN hB ⊢
  rw [← hl1] at h hlen ⊢
  have hp1 := h
  have HN1 := hid hN
  have HB2 := hid hB
  have HBG := hid hbg
  have hlen1 : l1.length + ([94]).length ≤ 1000000 := hlen
  clear h hN hB hbg hw1 hl1
  obtain ⟨c0, c1, c2, c3, c4⟩ := HN1.out i n hn
  have cn := hp1.nodes
  rw [hop] at c0
  have HX := hid (wWriteByte B g _ l1 94 w1 hp1 (by simp only [List.length_cons, List.length_nil] at hlen1; omega) HB2.out)
  clear hp1 hn hop
  go_enter_defers Tryz.func16, Tryz.ntmps16
  go_wp2_with fail
  refine Calls.mono HX.out ?_
  rintro e w2 ⟨rfl, hp2, hb2⟩
  have HLE : Hid ((l1 ++ [94]).length + 1 ≤ 140737488355328) := by show _ ≤ _; rw [List.length_append]; omega
  have HP2 := hid hp2
  have HQ2 := hid hb2
  have HS2 := hid (Nat.le_trans HB2.out hb2.size)
  clear hp2 hb2 HX
  go_wp2_with fail
  exact ⟨_, results_tmp rfl _ _ _, rfl, HP2.out, HQ2.out⟩
set_option maxHeartbeats 1000000 in
theorem part_begin_yes (ns : List Nd) (b off cap i : Nat) (hl : ns.length ≤ 60) (n : Nd) (hn : ns[i]? = some n) (hop : n.op = 8) : PartOk ns b off cap i (i + 1) true (brT true [94]) := by
  intro B g l w h hbg hN hB hlen
  rw [br_len] at hlen
  have hil := lt_of_at hn
  have i0 : (0 : Int) ≤ (i : Int) := by omega
  have i1 : (i : Int) < (ns.length : Int) := by omega
  have HW := hid (wWriteByte B g _ l 40 w h (by omega) hB)
  have HN := hid hN
  have HBG := hid hbg
  have HB0 := hid hB
  clear h hN hbg hB
  go_enter_defers Tryz.func16, Tryz.ntmps16
  go_wp2_with fail
  refine Calls.mono HW.out ?_
  rintro e w1 ⟨rfl, hp1, hb1⟩
  have HN1 := hid (HN.out.below hb1 HBG.out)
  have HB1 := hid hb1
  have HB2 := hid (Nat.le_trans HB0.out hb1.size)
  have hlen1 : (l ++ [40]).length + ([94]).length + 1 ≤ 1000000 := by rw [List.length_append]; simp only [List.length_cons, List.length_nil]; omega
  clear hb1 HW HN
  obtain ⟨c0, c1, c2, c3, c4⟩ := HN1.out i n hn
  have cn := hp1.nodes
  rw [hop] at c0
  have HX := hid (wWriteByte B g _ (l ++ [40]) 94 w1 hp1 (by simp only [List.length_cons, List.length_nil] at hlen1; omega) HB2.out)
  clear hp1 hn hop
  go_wp2_with fail
  refine Calls.mono HX.out ?_
  rintro e w2 ⟨rfl, hp2, hb2⟩
  have HLE : Hid (((l ++ [40]) ++ [94]).length + 1 ≤ 140737488355328) := by show _ ≤ _; rw [List.length_append]; omega
  have HP2 := hid hp2
  have HQ2 := hid hb2
  have HS2 := hid (Nat.le_trans HB2.out hb2.size)
  clear hp2 hb2 HX
  go_wp2_with fail
  refine door_write _ _ _ 41 B g _ _ _ HP2.out (by have := HLE.out; omega) HS2.out ?_
  intro w9 hp9 hb9
  rw [br_app] at hp9
  exact ⟨_, results_tmp rfl _ _ _, rfl, hp9, (HB1.out.trans HQ2.out).trans hb9⟩
set_option maxHeartbeats 1000000 in
theorem part_end_no (ns : List Nd) (b off cap i : Nat) (hl : ns.length ≤ 60) (n : Nd) (hn : ns[i]? = some n) (hop : n.op = 9) : PartOk ns b off cap i (i + 1) false (brT false [36]) := by
  intro B g l w h hbg hN hB hlen
  rw [br_no] at hlen
  rw [br_no]
  have hil := lt_of_at hn
  have i0 : (0 : Int) ≤ (i : Int) := by omega
  have i1 : (i : Int) < (ns.length : Int) := by omega
  obtain ⟨w1, hw1⟩ : ∃ w1, w1 = w := ⟨_, rfl⟩
  obtain ⟨l1, hl1⟩ : ∃ l1, l1 = l := ⟨_, rfl⟩
  rw [← hw1] at h hN hB ⊢
  rw [← hl1] at h hlen ⊢
  have hp1 := h
  have HN1 := hid hN
  have HB2 := hid hB
  have HBG := hid hbg
  have hlen1 : l1.length + ([36]).length ≤ 1000000 := hlen
  clear h hN hB hbg hw1 hl1
  obtain ⟨c0, c1, c2, c3, c4⟩ := HN1.out i n hn
  have cn := hp1.nodes
  rw [hop] at c0
  have HX := hid (wWriteByte B g _ l1 36 w1 hp1 (by simp only [List.length_cons, List.length_nil] at hlen1; omega) HB2.out)
  clear hp1 hn hop
  go_enter_defers Tryz.func16, Tryz.ntmps16
  go_wp2_with fail
  refine Calls.mono HX.out ?_
  rintro e w2 ⟨rfl, hp2, hb2⟩
  have HLE : Hid ((l1 ++ [36]).length + 1 ≤ 140737488355328) := by show _ ≤ _; rw [List.length_append]; omega
  have HP2 := hid hp2
  have HQ2 := hid hb2
  have HS2 := hid (Nat.le_trans HB2.out hb2.size)
  clear hp2 hb2 HX
  go_wp2_with fail
  exact ⟨_, results_tmp rfl _ _ _, rfl, HP2.out, HQ2.out⟩
set_option maxHeartbeats 1000000 in
theorem part_end_yes (ns : List Nd) (b off cap i : Nat) (hl : ns.length ≤ 60) (n : Nd) (hn : ns[i]? = some n) (hop : n.op = 9) : PartOk ns b off cap i (i + 1) true (brT true [36]) := by
  intro B g l w h hbg hN hB hlen
  rw [br_len] at hlen
  have hil := lt_of_at hn
  have i0 : (0 : Int) ≤ (i : Int) := by omega
  have i1 : (i : Int) < (ns.length : Int) := by omega
  have HW := hid (wWriteByte B g _ l 40 w h (by omega) hB)
  have HN := hid hN
  have HBG := hid hbg
  have HB0 := hid hB
  clear h hN hbg hB
  go_enter_defers Tryz.func16, Tryz.ntmps16
  go_wp2_with fail
  refine Calls.mono HW.out ?_
  rintro e w1 ⟨rfl, hp1, hb1⟩
  have HN1 := hid (HN.out.below hb1 HBG.out)
  have HB1 := hid hb1
  have HB2 := hid (Nat.le_trans HB0.out hb1.size)
  have hlen1 : (l ++ [40]).length + ([36]).length + 1 ≤ 1000000 := by rw [List.length_append]; simp only [List.length_cons, List.length_nil]; omega
  clear hb1 HW HN
  obtain ⟨c0, c1, c2, c3, c4⟩ := HN1.out i n hn
  have cn := hp1.nodes
  rw [hop] at c0
  have HX := hid (wWriteByte B g _ (l ++ [40]) 36 w1 hp1 (by simp only [List.length_cons, List.length_nil] at hlen1; omega) HB2.out)
  clear hp1 hn hop
  go_wp2_with fail
  refine Calls.mono HX.out ?_
  rintro e w2 ⟨rfl, hp2, hb2⟩
  have HLE : Hid (((l ++ [40]) ++ [36]).length + 1 ≤ 140737488355328) := by show _ ≤ _; rw [List.length_append]; omega
  have HP2 := hid hp2
  have HQ2 := hid hb2
  have HS2 := hid (Nat.le_trans HB2.out hb2.size)
  clear hp2 hb2 HX
  go_wp2_with fail
  refine door_write _ _ _ 41 B g _ _ _ HP2.out (by have := HLE.out; omega) HS2.out ?_
  intro w9 hp9 hb9
  rw [br_app] at hp9
  exact ⟨_, results_tmp rfl _ _ _, rfl, hp9, (HB1.out.trans HQ2.out).trans hb9⟩
set_option maxHeartbeats 1000000 in
theorem part_empty_no (ns : List Nd) (b off cap i : Nat) (hl : ns.length ≤ 60) (n : Nd) (hn : ns[i]? = some n) (hop : n.op = 2) : PartOk ns b off cap i (i + 1) false (brT false ([] : List UInt8)) := by
  intro B g l w h hbg hN hB hlen
  rw [br_no] at hlen
  rw [br_no]
  have hil := lt_of_at hn
  have i0 : (0 : Int) ≤ (i : Int) := by omega
  have i1 : (i : Int) < (ns.length : Int) := by omega
  obtain ⟨w1, hw1⟩ : ∃ w1, w1 = w := ⟨_, rfl⟩
  obtain ⟨l1, hl1⟩ : ∃ l1, l1 = l := ⟨_, rfl⟩
  rw [← hw1] at h hN hB ⊢
  rw [← hl1] at h hlen ⊢
  have hp1 := h
  have HN1 := hid hN
  have HB2 := hid hB
  have HBG := hid hbg
  have hlen1 : l1.length + (([] : List UInt8)).length ≤ 1000000 := hlen
  clear h hN hB hbg hw1 hl1
  obtain ⟨c0, c1, c2, c3, c4⟩ := HN1.out i n hn
  have cn := hp1.nodes
  rw [hop] at c0
  have HP1 := hid hp1
  clear hp1 hn hop
  go_enter_defers Tryz.func16, Tryz.ntmps16
  go_wp2_with fail
  have HLE : Hid ((l1 ++ ([] : List UInt8)).length + 1 ≤ 140737488355328) := by show _ ≤ _; rw [List.length_append]; omega
  have HP2 : Hid (Wrt w1 B g (.slice (some ⟨b, off, none⟩) ns.length cap) (l1 ++ [])) := by show Wrt _ _ _ _ _; rw [List.append_nil]; exact HP1.out
  have HQ2 := hid (Below.refl g w1)
  have HS2 := hid HB2.out
  exact ⟨_, results_tmp rfl _ _ _, rfl, HP2.out, HQ2.out⟩
set_option maxHeartbeats 1000000 in
theorem part_empty_yes (ns : List Nd) (b off cap i : Nat) (hl : ns.length ≤ 60) (n : Nd) (hn : ns[i]? = some n) (hop : n.op = 2) : PartOk ns b off cap i (i + 1) true (brT true ([] : List UInt8)) := by
  intro B g l w h hbg hN hB hlen
  rw [br_len] at hlen
  have hil := lt_of_at hn
  have i0 : (0 : Int) ≤ (i : Int) := by omega
  have i1 : (i : Int) < (ns.length : Int) := by omega
  have HW := hid (wWriteByte B g _ l 40 w h (by omega) hB)
  have HN := hid hN
  have HBG := hid hbg
  have HB0 := hid hB
  clear h hN hbg hB
  go_enter_defers Tryz.func16, Tryz.ntmps16
  go_wp2_with fail
  refine Calls.mono HW.out ?_
  rintro e w1 ⟨rfl, hp1, hb1⟩
  have HN1 := hid (HN.out.below hb1 HBG.out)
  have HB1 := hid hb1
  have HB2 := hid (Nat.le_trans HB0.out hb1.size)
  have hlen1 : (l ++ [40]).length + (([] : List UInt8)).length + 1 ≤ 1000000 := by rw [List.length_append]; simp only [List.length_cons, List.length_nil]; omega
  clear hb1 HW HN
  obtain ⟨c0, c1, c2, c3, c4⟩ := HN1.out i n hn
  have cn := hp1.nodes
  rw [hop] at c0
  have HP1 := hid hp1
  clear hp1 hn hop
  go_wp2_with fail
  have HLE : Hid (((l ++ [40]) ++ ([] : List UInt8)).length + 1 ≤ 140737488355328) := by show _ ≤ _; rw [List.length_append]; omega
  have HP2 : Hid (Wrt w1 B g (.slice (some ⟨b, off, none⟩) ns.length cap) ((l ++ [40]) ++ [])) := by show Wrt _ _ _ _ _; rw [List.append_nil]; exact HP1.out
  have HQ2 := hid (Below.refl g w1)
  have HS2 := hid HB2.out
  refine door_write _ _ _ 41 B g _ _ _ HP2.out (by have := HLE.out; omega) HS2.out ?_
  intro w9 hp9 hb9
  rw [br_app] at hp9
  exact ⟨_, results_tmp rfl _ _ _, rfl, hp9, (HB1.out.trans HQ2.out).trans hb9⟩
set_option maxHeartbeats 1000000 in
theorem part_byte_no (ns : List Nd) (b off cap i : Nat) (hl : ns.length ≤ 60) (n : Nd) (hn : ns[i]? = some n) (hop : n.op = 1) (hne : textL n.c ≠ []) : PartOk ns b off cap i (i + 1) false (brT false (textL n.c)) := by
  intro B g l w h hbg hN hB hlen
  rw [br_no] at hlen
  rw [br_no]
  have hil := lt_of_at hn
  have i0 : (0 : Int) ≤ (i : Int) := by omega
  have i1 : (i : Int) < (ns.length : Int) := by omega
  obtain ⟨w1, hw1⟩ : ∃ w1, w1 = w := ⟨_, rfl⟩
  obtain ⟨l1, hl1⟩ : ∃ l1, l1 = l := ⟨_, rfl⟩
  rw [← hw1] at h hN hB ⊢
  rw [← hl1] at h hlen ⊢
  have hp1 := h
  have HN1 := hid hN
  have HB2 := hid hB
  have HBG := hid hbg
  have hlen1 : l1.length + ((textL n.c)).length ≤ 1000000 := hlen
  clear h hN hB hbg hw1 hl1
  obtain ⟨c0, c1, c2, c3, c4⟩ := HN1.out i n hn
  have cn := hp1.nodes
  rw [hop] at c0
  have HX : Hid (∀ w3, Below w1.drew.heap.size w1.drew w3 → Calls Tryz.prog 30 #[.pointer (some ⟨g, 0, none⟩), .string ⟨(textL n.c).toArray⟩] w3 fun e w' => e = .returned (.tuple #[.int .i64 ((textL n.c).length : Int), .nilIface]) ∧ Wrt w' B g (.slice (some ⟨b, off, none⟩) ns.length cap) (l1 ++ textL n.c) ∧ Below g w3 w') := fun w3 hb3 => wWriteString B g _ l1 (textL n.c) w3 ((hp1.below (Below.drew (Below.refl _ w1))).below hb3) (by omega) (Nat.le_trans HB2.out hb3.size) (by simp [hne])
  have HK : Hid (∀ w3, Below w1.drew.heap.size w1.drew w3 → ClsAt w3 g b (off + i * 5) (.slice (some ⟨b, off, none⟩) ns.length cap) n.c) := by
    intro w3 hb3
    have q := (HN1.out.below (Below.drew (Below.refl _ w1)) HBG.out).below hb3 (Nat.lt_trans HBG.out hp1.lt)
    obtain ⟨_, q1, q2, q3, q4⟩ := q i n hn
    exact ⟨((hp1.below (Below.drew (Below.refl _ w1))).below hb3).nodes, q1, q2, q3, q4⟩
  have HK2 : Hid (∀ w3 w2, Below w1.drew.heap.size w1.drew w3 → Below g w3 w2 → Wrt w2 B g (.slice (some ⟨b, off, none⟩) ns.length cap) (l1 ++ textL n.c) → ClsAt w2 g b (off + i * 5) (.slice (some ⟨b, off, none⟩) ns.length cap) n.c) := by
    intro w3 w2 hb3 hb2 hp2
    have q := ((HN1.out.below (Below.drew (Below.refl _ w1)) HBG.out).below hb3 (Nat.lt_trans HBG.out hp1.lt)).below hb2 HBG.out
    obtain ⟨_, q1, q2, q3, q4⟩ := q i n hn
    exact ⟨hp2.nodes, q1, q2, q3, q4⟩
  have HGL := hid hp1.lt
  clear hp1 hn hop
  go_enter_defers Tryz.func16, Tryz.ntmps16
  go_wp2_with fail
  go_region_held3 (fun w' => w'.cell? ⟨g, 2, none⟩ = some (.slice (some ⟨b, off, none⟩) ns.length cap) ∧ w'.cell? ⟨b, off + i * 5 + 1, none⟩ = some (.int .u64 n.c.a) ∧ w'.cell? ⟨b, off + i * 5 + 2, none⟩ = some (.int .u64 n.c.b) ∧ w'.cell? ⟨b, off + i * 5 + 3, none⟩ = some (.int .u64 n.c.c) ∧ w'.cell? ⟨b, off + i * 5 + 4, none⟩ = some (.int .u64 n.c.d)) (go_keep) (first
    | (go_at_call 31; refine Calls.mono (text_any n.c _) ?_; rintro e w3 ⟨rfl, hb3⟩; obtain ⟨q1, q2, q3, q4, q5⟩ := HK.out _ hb3)
    | (go_at_call 30; refine Calls.mono (HX.out _ hb3) ?_; rintro e w2 ⟨rfl, hp2, hb2⟩; obtain ⟨r1, r2, r3, r4, r5⟩ := HK2.out _ _ hb3 hb2 hp2))
  have HLE : Hid ((l1 ++ textL n.c).length + 1 ≤ 140737488355328) := by show _ ≤ _; rw [List.length_append]; omega
  have HP2 := hid hp2
  have HQ2 := hid ((Below.drew (Below.refl g w1)).trans ((hb3.mono (Nat.le_of_lt HGL.out)).trans hb2))
  have HS2 := hid (Nat.le_trans HB2.out (Nat.le_trans hb3.size hb2.size))
  clear hp2 hb2 hb3 HX HK HK2
  go_wp2_with fail
  exact ⟨_, results_tmp rfl _ _ _, rfl, HP2.out, HQ2.out⟩
set_option maxHeartbeats 1000000 in
theorem part_byte_yes (ns : List Nd) (b off cap i : Nat) (hl : ns.length ≤ 60) (n : Nd) (hn : ns[i]? = some n) (hop : n.op = 1) (hne : textL n.c ≠ []) : PartOk ns b off cap i (i + 1) true (brT true (textL n.c)) := by
  intro B g l w h hbg hN hB hlen
  rw [br_len] at hlen
  have hil := lt_of_at hn
  have i0 : (0 : Int) ≤ (i : Int) := by omega
  have i1 : (i : Int) < (ns.length : Int) := by omega
  have HW := hid (wWriteByte B g _ l 40 w h (by omega) hB)
  have HN := hid hN
  have HBG := hid hbg
  have HB0 := hid hB
  clear h hN hbg hB
  go_enter_defers Tryz.func16, Tryz.ntmps16
  go_wp2_with fail
  refine Calls.mono HW.out ?_
  rintro e w1 ⟨rfl, hp1, hb1⟩
  have HN1 := hid (HN.out.below hb1 HBG.out)
  have HB1 := hid hb1
  have HB2 := hid (Nat.le_trans HB0.out hb1.size)
  have hlen1 : (l ++ [40]).length + ((textL n.c)).length + 1 ≤ 1000000 := by rw [List.length_append]; simp only [List.length_cons, List.length_nil]; omega
  clear hb1 HW HN
  obtain ⟨c0, c1, c2, c3, c4⟩ := HN1.out i n hn
  have cn := hp1.nodes
  rw [hop] at c0
  have HX : Hid (∀ w3, Below w1.drew.heap.size w1.drew w3 → Calls Tryz.prog 30 #[.pointer (some ⟨g, 0, none⟩), .string ⟨(textL n.c).toArray⟩] w3 fun e w' => e = .returned (.tuple #[.int .i64 ((textL n.c).length : Int), .nilIface]) ∧ Wrt w' B g (.slice (some ⟨b, off, none⟩) ns.length cap) ((l ++ [40]) ++ textL n.c) ∧ Below g w3 w') := fun w3 hb3 => wWriteString B g _ (l ++ [40]) (textL n.c) w3 ((hp1.below (Below.drew (Below.refl _ w1))).below hb3) (by omega) (Nat.le_trans HB2.out hb3.size) (by simp [hne])
  have HK : Hid (∀ w3, Below w1.drew.heap.size w1.drew w3 → ClsAt w3 g b (off + i * 5) (.slice (some ⟨b, off, none⟩) ns.length cap) n.c) := by
    intro w3 hb3
    have q := (HN1.out.below (Below.drew (Below.refl _ w1)) HBG.out).below hb3 (Nat.lt_trans HBG.out hp1.lt)
    obtain ⟨_, q1, q2, q3, q4⟩ := q i n hn
    exact ⟨((hp1.below (Below.drew (Below.refl _ w1))).below hb3).nodes, q1, q2, q3, q4⟩
  have HK2 : Hid (∀ w3 w2, Below w1.drew.heap.size w1.drew w3 → Below g w3 w2 → Wrt w2 B g (.slice (some ⟨b, off, none⟩) ns.length cap) ((l ++ [40]) ++ textL n.c) → ClsAt w2 g b (off + i * 5) (.slice (some ⟨b, off, none⟩) ns.length cap) n.c) := by
    intro w3 w2 hb3 hb2 hp2
    have q := ((HN1.out.below (Below.drew (Below.refl _ w1)) HBG.out).below hb3 (Nat.lt_trans HBG.out hp1.lt)).below hb2 HBG.out
    obtain ⟨_, q1, q2, q3, q4⟩ := q i n hn
    exact ⟨hp2.nodes, q1, q2, q3, q4⟩
  have HGL := hid hp1.lt
  clear hp1 hn hop
  go_wp2_with fail
  go_region_held3 (fun w' => w'.cell? ⟨g, 2, none⟩ = some (.slice (some ⟨b, off, none⟩) ns.length cap) ∧ w'.cell? ⟨b, off + i * 5 + 1, none⟩ = some (.int .u64 n.c.a) ∧ w'.cell? ⟨b, off + i * 5 + 2, none⟩ = some (.int .u64 n.c.b) ∧ w'.cell? ⟨b, off + i * 5 + 3, none⟩ = some (.int .u64 n.c.c) ∧ w'.cell? ⟨b, off + i * 5 + 4, none⟩ = some (.int .u64 n.c.d)) (go_keep) (first
    | (go_at_call 31; refine Calls.mono (text_any n.c _) ?_; rintro e w3 ⟨rfl, hb3⟩; obtain ⟨q1, q2, q3, q4, q5⟩ := HK.out _ hb3)
    | (go_at_call 30; refine Calls.mono (HX.out _ hb3) ?_; rintro e w2 ⟨rfl, hp2, hb2⟩; obtain ⟨r1, r2, r3, r4, r5⟩ := HK2.out _ _ hb3 hb2 hp2))
  have HLE : Hid (((l ++ [40]) ++ textL n.c).length + 1 ≤ 140737488355328) := by show _ ≤ _; rw [List.length_append]; omega
  have HP2 := hid hp2
  have HQ2 := hid ((Below.drew (Below.refl g w1)).trans ((hb3.mono (Nat.le_of_lt HGL.out)).trans hb2))
  have HS2 := hid (Nat.le_trans HB2.out (Nat.le_trans hb3.size hb2.size))
  clear hp2 hb2 hb3 HX HK HK2
  go_wp2_with fail
  refine door_write _ _ _ 41 B g _ _ _ HP2.out (by have := HLE.out; omega) HS2.out ?_
  intro w9 hp9 hb9
  rw [br_app] at hp9
  exact ⟨_, results_tmp rfl _ _ _, rfl, hp9, (HB1.out.trans HQ2.out).trans hb9⟩
set_option maxHeartbeats 1000000 in
theorem part_cat_no (ns : List Nd) (b off cap i k : Nat) (hl : ns.length ≤ 60) (n : Nd) (hn : ns[i]? = some n) (hop : n.op = 3) (s : List UInt8) (hT : TwoOk ns b off cap i k [] s) : PartOk ns b off cap i k false (brT false s) := by
  intro B g l w h hbg hN hB hlen
  rw [br_no] at hlen
  rw [br_no]
  have hil := lt_of_at hn
  have i0 : (0 : Int) ≤ (i : Int) := by omega
  have i1 : (i : Int) < (ns.length : Int) := by omega
  obtain ⟨w1, hw1⟩ : ∃ w1, w1 = w := ⟨_, rfl⟩
  obtain ⟨l1, hl1⟩ : ∃ l1, l1 = l := ⟨_, rfl⟩
  rw [← hw1] at h hN hB ⊢
  rw [← hl1] at h hlen ⊢
  have hp1 := h
  have HN1 := hid hN
  have HB2 := hid hB
  have HBG := hid hbg
  have hlen1 : l1.length + (s).length ≤ 1000000 := hlen
  clear h hN hB hbg hw1 hl1
  obtain ⟨c0, c1, c2, c3, c4⟩ := HN1.out i n hn
  have cn := hp1.nodes
  rw [hop] at c0
  have HX := hid (hT B g _ w1 hp1 HBG.out HN1.out HB2.out (by omega))
  clear hp1 hn hop
  go_enter_defers Tryz.func16, Tryz.ntmps16
  go_wp2_with fail
  refine Calls.mono HX.out ?_
  rintro e w2 ⟨rfl, hp2, hb2⟩
  have HLE : Hid ((l1 ++ s).length + 1 ≤ 140737488355328) := by show _ ≤ _; rw [List.length_append]; omega
  have HP2 := hid hp2
  have HQ2 := hid hb2
  have HS2 := hid (Nat.le_trans HB2.out hb2.size)
  clear hp2 hb2 HX
  go_wp2_with fail
  exact ⟨_, results_tmp rfl _ _ _, rfl, HP2.out, HQ2.out⟩
set_option maxHeartbeats 1000000 in
theorem part_cat_yes (ns : List Nd) (b off cap i k : Nat) (hl : ns.length ≤ 60) (n : Nd) (hn : ns[i]? = some n) (hop : n.op = 3) (s : List UInt8) (hT : TwoOk ns b off cap i k [] s) : PartOk ns b off cap i k true (brT true s) := by
  intro B g l w h hbg hN hB hlen
  rw [br_len] at hlen
  have hil := lt_of_at hn
  have i0 : (0 : Int) ≤ (i : Int) := by omega
  have i1 : (i : Int) < (ns.length : Int) := by omega
  have HW := hid (wWriteByte B g _ l 40 w h (by omega) hB)
  have HN := hid hN
  have HBG := hid hbg
  have HB0 := hid hB
  clear h hN hbg hB
  go_enter_defers Tryz.func16, Tryz.ntmps16
  go_wp2_with fail
  refine Calls.mono HW.out ?_
  rintro e w1 ⟨rfl, hp1, hb1⟩
  have HN1 := hid (HN.out.below hb1 HBG.out)
  have HB1 := hid hb1
  have HB2 := hid (Nat.le_trans HB0.out hb1.size)
  have hlen1 : (l ++ [40]).length + (s).length + 1 ≤ 1000000 := by rw [List.length_append]; simp only [List.length_cons, List.length_nil]; omega
  clear hb1 HW HN
  obtain ⟨c0, c1, c2, c3, c4⟩ := HN1.out i n hn
  have cn := hp1.nodes
  rw [hop] at c0
  have HX := hid (hT B g _ w1 hp1 HBG.out HN1.out HB2.out (by omega))
  clear hp1 hn hop
  go_wp2_with fail
  refine Calls.mono HX.out ?_
  rintro e w2 ⟨rfl, hp2, hb2⟩
  have HLE : Hid (((l ++ [40]) ++ s).length + 1 ≤ 140737488355328) := by show _ ≤ _; rw [List.length_append]; omega
  have HP2 := hid hp2
  have HQ2 := hid hb2
  have HS2 := hid (Nat.le_trans HB2.out hb2.size)
  clear hp2 hb2 HX
  go_wp2_with fail
  refine door_write _ _ _ 41 B g _ _ _ HP2.out (by have := HLE.out; omega) HS2.out ?_
  intro w9 hp9 hb9
  rw [br_app] at hp9
  exact ⟨_, results_tmp rfl _ _ _, rfl, hp9, (HB1.out.trans HQ2.out).trans hb9⟩
set_option maxHeartbeats 1000000 in
theorem part_or_no (ns : List Nd) (b off cap i k : Nat) (hl : ns.length ≤ 60) (n : Nd) (hn : ns[i]? = some n) (hop : n.op = 4) (s : List UInt8) (hT : TwoOk ns b off cap i k [124] s) : PartOk ns b off cap i k false (brT false s) := by
  intro B g l w h hbg hN hB hlen
  rw [br_no] at hlen
  rw [br_no]
  have hil := lt_of_at hn
  have i0 : (0 : Int) ≤ (i : Int) := by omega
  have i1 : (i : Int) < (ns.length : Int) := by omega
  obtain ⟨w1, hw1⟩ : ∃ w1, w1 = w := ⟨_, rfl⟩
  obtain ⟨l1, hl1⟩ : ∃ l1, l1 = l := ⟨_, rfl⟩
  rw [← hw1] at h hN hB ⊢
  rw [← hl1] at h hlen ⊢
  have hp1 := h
  have HN1 := hid hN
  have HB2 := hid hB
  have HBG := hid hbg
  have hlen1 : l1.length + (s).length ≤ 1000000 := hlen
  clear h hN hB hbg hw1 hl1
  obtain ⟨c0, c1, c2, c3, c4⟩ := HN1.out i n hn
  have cn := hp1.nodes
  rw [hop] at c0
  have HX := hid (hT B g _ w1 hp1 HBG.out HN1.out HB2.out (by omega))
  clear hp1 hn hop
  go_enter_defers Tryz.func16, Tryz.ntmps16
  go_wp2_with fail
  refine Calls.mono HX.out ?_
  rintro e w2 ⟨rfl, hp2, hb2⟩
  have HLE : Hid ((l1 ++ s).length + 1 ≤ 140737488355328) := by show _ ≤ _; rw [List.length_append]; omega
  have HP2 := hid hp2
  have HQ2 := hid hb2
  have HS2 := hid (Nat.le_trans HB2.out hb2.size)
  clear hp2 hb2 HX
  go_wp2_with fail
  exact ⟨_, results_tmp rfl _ _ _, rfl, HP2.out, HQ2.out⟩
set_option maxHeartbeats 1000000 in
theorem part_or_yes (ns : List Nd) (b off cap i k : Nat) (hl : ns.length ≤ 60) (n : Nd) (hn : ns[i]? = some n) (hop : n.op = 4) (s : List UInt8) (hT : TwoOk ns b off cap i k [124] s) : PartOk ns b off cap i k true (brT true s) := by
  intro B g l w h hbg hN hB hlen
  rw [br_len] at hlen
  have hil := lt_of_at hn
  have i0 : (0 : Int) ≤ (i : Int) := by omega
  have i1 : (i : Int) < (ns.length : Int) := by omega
  have HW := hid (wWriteByte B g _ l 40 w h (by omega) hB)
  have HN := hid hN
  have HBG := hid hbg
  have HB0 := hid hB
  clear h hN hbg hB
  go_enter_defers Tryz.func16, Tryz.ntmps16
  go_wp2_with fail
  refine Calls.mono HW.out ?_
  rintro e w1 ⟨rfl, hp1, hb1⟩
  have HN1 := hid (HN.out.below hb1 HBG.out)
  have HB1 := hid hb1
  have HB2 := hid (Nat.le_trans HB0.out hb1.size)
  have hlen1 : (l ++ [40]).length + (s).length + 1 ≤ 1000000 := by rw [List.length_append]; simp only [List.length_cons, List.length_nil]; omega
  clear hb1 HW HN
  obtain ⟨c0, c1, c2, c3, c4⟩ := HN1.out i n hn
  have cn := hp1.nodes
  rw [hop] at c0
  have HX := hid (hT B g _ w1 hp1 HBG.out HN1.out HB2.out (by omega))
  clear hp1 hn hop
  go_wp2_with fail
  refine Calls.mono HX.out ?_
  rintro e w2 ⟨rfl, hp2, hb2⟩
  have HLE : Hid (((l ++ [40]) ++ s).length + 1 ≤ 140737488355328) := by show _ ≤ _; rw [List.length_append]; omega
  have HP2 := hid hp2
  have HQ2 := hid hb2
  have HS2 := hid (Nat.le_trans HB2.out hb2.size)
  clear hp2 hb2 HX
  go_wp2_with fail
  refine door_write _ _ _ 41 B g _ _ _ HP2.out (by have := HLE.out; omega) HS2.out ?_
  intro w9 hp9 hb9
  rw [br_app] at hp9
  exact ⟨_, results_tmp rfl _ _ _, rfl, hp9, (HB1.out.trans HQ2.out).trans hb9⟩
set_option maxHeartbeats 1000000 in
theorem part_star_no (ns : List Nd) (b off cap i k : Nat) (hl : ns.length ≤ 60) (n : Nd) (hn : ns[i]? = some n) (hop : n.op = 5) (s : List UInt8) (hT : OneOk ns b off cap i k 42 s) : PartOk ns b off cap i k false (brT false s) := by
  intro B g l w h hbg hN hB hlen
  rw [br_no] at hlen
  rw [br_no]
  have hil := lt_of_at hn
  have i0 : (0 : Int) ≤ (i : Int) := by omega
  have i1 : (i : Int) < (ns.length : Int) := by omega
  obtain ⟨w1, hw1⟩ : ∃ w1, w1 = w := ⟨_, rfl⟩
  obtain ⟨l1, hl1⟩ : ∃ l1, l1 = l := ⟨_, rfl⟩
  rw [← hw1] at h hN hB ⊢
  rw [← hl1] at h hlen ⊢
  have hp1 := h
  have HN1 := hid hN
  have HB2 := hid hB
  have HBG := hid hbg
  have hlen1 : l1.length + (s).length ≤ 1000000 := hlen
  clear h hN hB hbg hw1 hl1
  obtain ⟨c0, c1, c2, c3, c4⟩ := HN1.out i n hn
  have cn := hp1.nodes
  rw [hop] at c0
  have HX := hid (hT B g _ w1 hp1 HBG.out HN1.out HB2.out (by omega))
  clear hp1 hn hop
  go_enter_defers Tryz.func16, Tryz.ntmps16
  go_wp2_with fail
  refine Calls.mono HX.out ?_
  rintro e w2 ⟨rfl, hp2, hb2⟩
  have HLE : Hid ((l1 ++ s).length + 1 ≤ 140737488355328) := by show _ ≤ _; rw [List.length_append]; omega
  have HP2 := hid hp2
  have HQ2 := hid hb2
  have HS2 := hid (Nat.le_trans HB2.out hb2.size)
  clear hp2 hb2 HX
  go_wp2_with fail
  exact ⟨_, results_tmp rfl _ _ _, rfl, HP2.out, HQ2.out⟩
set_option maxHeartbeats 1000000 in
theorem part_star_yes (ns : List Nd) (b off cap i k : Nat) (hl : ns.length ≤ 60) (n : Nd) (hn : ns[i]? = some n) (hop : n.op = 5) (s : List UInt8) (hT : OneOk ns b off cap i k 42 s) : PartOk ns b off cap i k true (brT true s) := by
  intro B g l w h hbg hN hB hlen
  rw [br_len] at hlen
  have hil := lt_of_at hn
  have i0 : (0 : Int) ≤ (i : Int) := by omega
  have i1 : (i : Int) < (ns.length : Int) := by omega
  have HW := hid (wWriteByte B g _ l 40 w h (by omega) hB)
  have HN := hid hN
  have HBG := hid hbg
  have HB0 := hid hB
  clear h hN hbg hB
  go_enter_defers Tryz.func16, Tryz.ntmps16
  go_wp2_with fail
  refine Calls.mono HW.out ?_
  rintro e w1 ⟨rfl, hp1, hb1⟩
  have HN1 := hid (HN.out.below hb1 HBG.out)
  have HB1 := hid hb1
  have HB2 := hid (Nat.le_trans HB0.out hb1.size)
  have hlen1 : (l ++ [40]).length + (s).length + 1 ≤ 1000000 := by rw [List.length_append]; simp only [List.length_cons, List.length_nil]; omega
  clear hb1 HW HN
  obtain ⟨c0, c1, c2, c3, c4⟩ := HN1.out i n hn
  have cn := hp1.nodes
  rw [hop] at c0
  have HX := hid (hT B g _ w1 hp1 HBG.out HN1.out HB2.out (by omega))
  clear hp1 hn hop
  go_wp2_with fail
  refine Calls.mono HX.out ?_
  rintro e w2 ⟨rfl, hp2, hb2⟩
  have HLE : Hid (((l ++ [40]) ++ s).length + 1 ≤ 140737488355328) := by show _ ≤ _; rw [List.length_append]; omega
  have HP2 := hid hp2
  have HQ2 := hid hb2
  have HS2 := hid (Nat.le_trans HB2.out hb2.size)
  clear hp2 hb2 HX
  go_wp2_with fail
  refine door_write _ _ _ 41 B g _ _ _ HP2.out (by have := HLE.out; omega) HS2.out ?_
  intro w9 hp9 hb9
  rw [br_app] at hp9
  exact ⟨_, results_tmp rfl _ _ _, rfl, hp9, (HB1.out.trans HQ2.out).trans hb9⟩
set_option maxHeartbeats 1000000 in
theorem part_plus_no (ns : List Nd) (b off cap i k : Nat) (hl : ns.length ≤ 60) (n : Nd) (hn : ns[i]? = some n) (hop : n.op = 6) (s : List UInt8) (hT : OneOk ns b off cap i k 43 s) : PartOk ns b off cap i k false (brT false s) := by
  intro B g l w h hbg hN hB hlen
  rw [br_no] at hlen
  rw [br_no]
  have hil := lt_of_at hn
  have i0 : (0 : Int) ≤ (i : Int) := by omega
  have i1 : (i : Int) < (ns.length : Int) := by omega
  obtain ⟨w1, hw1⟩ : ∃ w1, w1 = w := ⟨_, rfl⟩
  obtain ⟨l1, hl1⟩ : ∃ l1, l1 = l := ⟨_, rfl⟩
  rw [← hw1] at h hN hB ⊢
  rw [← hl1] at h hlen ⊢
  have hp1 := h
  have HN1 := hid hN
  have HB2 := hid hB
  have HBG := hid hbg
  have hlen1 : l1.length + (s).length ≤ 1000000 := hlen
  clear h hN hB hbg hw1 hl1
  obtain ⟨c0, c1, c2, c3, c4⟩ := HN1.out i n hn
  have cn := hp1.nodes
  rw [hop] at c0
  have HX := hid (hT B g _ w1 hp1 HBG.out HN1.out HB2.out (by omega))
  clear hp1 hn hop
  go_enter_defers Tryz.func16, Tryz.ntmps16
  go_wp2_with fail
  refine Calls.mono HX.out ?_
  rintro e w2 ⟨rfl, hp2, hb2⟩
  have HLE : Hid ((l1 ++ s).length + 1 ≤ 140737488355328) := by show _ ≤ _; rw [List.length_append]; omega
  have HP2 := hid hp2
  have HQ2 := hid hb2
  have HS2 := hid (Nat.le_trans HB2.out hb2.size)
  clear hp2 hb2 HX
  go_wp2_with fail
  exact ⟨_, results_tmp rfl _ _ _, rfl, HP2.out, HQ2.out⟩
set_option maxHeartbeats 1000000 in
theorem part_plus_yes (ns : List Nd) (b off cap i k : Nat) (hl : ns.length ≤ 60) (n : Nd) (hn : ns[i]? = some n) (hop : n.op = 6) (s : List UInt8) (hT : OneOk ns b off cap i k 43 s) : PartOk ns b off cap i k true (brT true s) := by
  intro B g l w h hbg hN hB hlen
  rw [br_len] at hlen
  have hil := lt_of_at hn
  have i0 : (0 : Int) ≤ (i : Int) := by omega
  have i1 : (i : Int) < (ns.length : Int) := by omega
  have HW := hid (wWriteByte B g _ l 40 w h (by omega) hB)
  have HN := hid hN
  have HBG := hid hbg
  have HB0 := hid hB
  clear h hN hbg hB
  go_enter_defers Tryz.func16, Tryz.ntmps16
  go_wp2_with fail
  refine Calls.mono HW.out ?_
  rintro e w1 ⟨rfl, hp1, hb1⟩
  have HN1 := hid (HN.out.below hb1 HBG.out)
  have HB1 := hid hb1
  have HB2 := hid (Nat.le_trans HB0.out hb1.size)
  have hlen1 : (l ++ [40]).length + (s).length + 1 ≤ 1000000 := by rw [List.length_append]; simp only [List.length_cons, List.length_nil]; omega
  clear hb1 HW HN
  obtain ⟨c0, c1, c2, c3, c4⟩ := HN1.out i n hn
  have cn := hp1.nodes
  rw [hop] at c0
  have HX := hid (hT B g _ w1 hp1 HBG.out HN1.out HB2.out (by omega))
  clear hp1 hn hop
  go_wp2_with fail
  refine Calls.mono HX.out ?_
  rintro e w2 ⟨rfl, hp2, hb2⟩
  have HLE : Hid (((l ++ [40]) ++ s).length + 1 ≤ 140737488355328) := by show _ ≤ _; rw [List.length_append]; omega
  have HP2 := hid hp2
  have HQ2 := hid hb2
  have HS2 := hid (Nat.le_trans HB2.out hb2.size)
  clear hp2 hb2 HX
  go_wp2_with fail
  refine door_write _ _ _ 41 B g _ _ _ HP2.out (by have := HLE.out; omega) HS2.out ?_
  intro w9 hp9 hb9
  rw [br_app] at hp9
  exact ⟨_, results_tmp rfl _ _ _, rfl, hp9, (HB1.out.trans HQ2.out).trans hb9⟩
set_option maxHeartbeats 1000000 in
theorem part_opt_no (ns : List Nd) (b off cap i k : Nat) (hl : ns.length ≤ 60) (n : Nd) (hn : ns[i]? = some n) (hop : n.op = 7) (s : List UInt8) (hT : OneOk ns b off cap i k 63 s) : PartOk ns b off cap i k false (brT false s) := by
  intro B g l w h hbg hN hB hlen
  rw [br_no] at hlen
  rw [br_no]
  have hil := lt_of_at hn
  have i0 : (0 : Int) ≤ (i : Int) := by omega
  have i1 : (i : Int) < (ns.length : Int) := by omega
  obtain ⟨w1, hw1⟩ : ∃ w1, w1 = w := ⟨_, rfl⟩
  obtain ⟨l1, hl1⟩ : ∃ l1, l1 = l := ⟨_, rfl⟩
  rw [← hw1] at h hN hB ⊢
  rw [← hl1] at h hlen ⊢
  have hp1 := h
  have HN1 := hid hN
  have HB2 := hid hB
  have HBG := hid hbg
  have hlen1 : l1.length + (s).length ≤ 1000000 := hlen
  clear h hN hB hbg hw1 hl1
  obtain ⟨c0, c1, c2, c3, c4⟩ := HN1.out i n hn
  have cn := hp1.nodes
  rw [hop] at c0
  have HX := hid (hT B g _ w1 hp1 HBG.out HN1.out HB2.out (by omega))
  clear hp1 hn hop
  go_enter_defers Tryz.func16, Tryz.ntmps16
  go_wp2_with fail
  refine Calls.mono HX.out ?_
  rintro e w2 ⟨rfl, hp2, hb2⟩
  have HLE : Hid ((l1 ++ s).length + 1 ≤ 140737488355328) := by show _ ≤ _; rw [List.length_append]; omega
  have HP2 := hid hp2
  have HQ2 := hid hb2
  have HS2 := hid (Nat.le_trans HB2.out hb2.size)
  clear hp2 hb2 HX
  go_wp2_with fail
  exact ⟨_, results_tmp rfl _ _ _, rfl, HP2.out, HQ2.out⟩
set_option maxHeartbeats 1000000 in
theorem part_opt_yes (ns : List Nd) (b off cap i k : Nat) (hl : ns.length ≤ 60) (n : Nd) (hn : ns[i]? = some n) (hop : n.op = 7) (s : List UInt8) (hT : OneOk ns b off cap i k 63 s) : PartOk ns b off cap i k true (brT true s) := by
  intro B g l w h hbg hN hB hlen
  rw [br_len] at hlen
  have hil := lt_of_at hn
  have i0 : (0 : Int) ≤ (i : Int) := by omega
  have i1 : (i : Int) < (ns.length : Int) := by omega
  have HW := hid (wWriteByte B g _ l 40 w h (by omega) hB)
  have HN := hid hN
  have HBG := hid hbg
  have HB0 := hid hB
  clear h hN hbg hB
  go_enter_defers Tryz.func16, Tryz.ntmps16
  go_wp2_with fail
  refine Calls.mono HW.out ?_
  rintro e w1 ⟨rfl, hp1, hb1⟩
  have HN1 := hid (HN.out.below hb1 HBG.out)
  have HB1 := hid hb1
  have HB2 := hid (Nat.le_trans HB0.out hb1.size)
  have hlen1 : (l ++ [40]).length + (s).length + 1 ≤ 1000000 := by rw [List.length_append]; simp only [List.length_cons, List.length_nil]; omega
  clear hb1 HW HN
  obtain ⟨c0, c1, c2, c3, c4⟩ := HN1.out i n hn
  have cn := hp1.nodes
  rw [hop] at c0
  have HX := hid (hT B g _ w1 hp1 HBG.out HN1.out HB2.out (by omega))
  clear hp1 hn hop
  go_wp2_with fail
  refine Calls.mono HX.out ?_
  rintro e w2 ⟨rfl, hp2, hb2⟩
  have HLE : Hid (((l ++ [40]) ++ s).length + 1 ≤ 140737488355328) := by show _ ≤ _; rw [List.length_append]; omega
  have HP2 := hid hp2
  have HQ2 := hid hb2
  have HS2 := hid (Nat.le_trans HB2.out hb2.size)
  clear hp2 hb2 HX
  go_wp2_with fail
  refine door_write _ _ _ 41 B g _ _ _ HP2.out (by have := HLE.out; omega) HS2.out ?_
  intro w9 hp9 hb9
  rw [br_app] at hp9
  exact ⟨_, results_tmp rfl _ _ _, rfl, hp9, (HB1.out.trans HQ2.out).trans hb9⟩
end Go.Proofs.YtmdfdlljeggbbaaGreatDoor
namespace Go.Proofs.YtmdfdlljeggbbaaGreatDoor
set_option linter.unusedSimpArgs false
set_option linter.unusedVariables false
set_option maxRecDepth 100000
open Go.RowKit
theorem succ_int (i : Nat) : ((i + 1 : Nat) : Int) = (i : Int) + 1 := rfl
set_option maxHeartbeats 4000000 in
theorem two_any (ns : List Nd) (b off cap i j k : Nat) (hl : ns.length ≤ 60) (n m1 m2 : Nd) (hn : ns[i]? = some n) (hm1 : ns[i + 1]? = some m1) (hm2 : ns[j]? = some m2) (hij : i + 1 < j) (hop : n.op = 3 ∨ n.op = 4) (sa t sb : List UInt8) (hne : sa ++ t ≠ [])
    (hA : PartOk ns b off cap (i + 1) j (brk n.op m1.op false) sa) (hB : PartOk ns b off cap j k (brk n.op m2.op true) sb) : TwoOk ns b off cap i k t (sa ++ (t ++ sb)) := by
  intro B g l w h hbg hN hBw hlen
  simp only [List.length_append] at hlen
  have hil := lt_of_at hm1
  have hop' : n.op = 3 ∨ n.op = 4 ∨ n.op = 5 ∨ n.op = 6 ∨ n.op = 7 := hop.elim Or.inl (fun h => Or.inr (Or.inl h))
  have N1 := needs_any g b off cap ns hl w h.nodes hN i (i + 1) n m1 hn hm1 hop'
  rw [decide_eq_false (Nat.lt_irrefl _), succ_int] at N1
  replace N1 := hid N1
  have P1 := hA B g l w h hbg hN hBw (by omega)
  rw [succ_int] at P1
  replace P1 := hid P1
  have W2 : Hid (∀ w2, Wrt w2 B g (.slice (some ⟨b, off, none⟩) ns.length cap) (l ++ sa) → Below g w w2 → _) := fun w2 hp hb => wWriteString B g _ (l ++ sa) t w2 hp (by rw [List.length_append]; omega) (Nat.le_trans hBw hb.size) (by rw [List.append_assoc]; simp [hne])
  have N3 : Hid (∀ w3, Wrt w3 B g (.slice (some ⟨b, off, none⟩) ns.length cap) (l ++ sa ++ t) → Below g w w3 → Calls Tryz.prog 49 #[.pointer (some ⟨g, 0, none⟩), .int .i64 i, .int .i64 j] w3 fun e w' => e = .returned (.bool (brk n.op m2.op true)) ∧ w' = w3) := fun w3 hp hb => by
    have := needs_any g b off cap ns hl w3 hp.nodes (hN.below hb hbg) i j n m2 hn hm2 hop'
    rw [decide_eq_true hij] at this
    exact this
  have P3 : Hid (∀ w3, Wrt w3 B g (.slice (some ⟨b, off, none⟩) ns.length cap) (l ++ sa ++ t) → Below g w w3 → _) := fun w3 hp hb => hB B g (l ++ sa ++ t) w3 hp hbg (hN.below hb hbg) (Nat.le_trans hBw hb.size) (by simp only [List.length_append]; omega)
  have i1 : (i : Int) + 1 < (ns.length : Int) := by omega
  have HA : Hid (l ++ sa ++ t ++ sb = l ++ (sa ++ (t ++ sb))) := by show _ = _; simp
  clear h hbg hN hBw hn hm1 hm2 hop hop' hA hB
  go_enter Tryz.func32, Tryz.ntmps32
  go_wp2_with fail
  refine Calls.mono N1.out ?_
  rintro e w1 ⟨rfl, rfl⟩
  go_wp2_with fail
  refine Calls.mono P1.out ?_
  rintro e w2 ⟨rfl, hp2, hb2⟩
  have HP2 := hid hp2
  have HB2 := hid hb2
  clear hp2 hb2
  go_wp2_with fail
  refine Calls.mono (W2.out _ HP2.out HB2.out) ?_
  rintro e w3 ⟨rfl, hp3, hb3⟩
  have HP3 := hid hp3
  have HB3 := hid (HB2.out.trans hb3)
  clear hp3 hb3
  go_wp2_with fail
  refine Calls.mono (N3.out _ HP3.out HB3.out) ?_
  rintro e w4 ⟨rfl, rfl⟩
  go_wp2_with fail
  refine Calls.mono (P3.out _ HP3.out HB3.out) ?_
  rintro e w5 ⟨rfl, hp5, hb5⟩
  have HP5 := hid hp5
  have HB5 := hid (HB3.out.trans hb5)
  clear hp5 hb5
  go_wp2
  go_ret
  exact ⟨rfl, by rw [← HA.out]; exact HP5.out, HB5.out⟩
set_option maxHeartbeats 4000000 in
theorem one_any' (ns : List Nd) (b off cap i k : Nat) (hl : ns.length ≤ 60) (n m1 : Nd) (hn : ns[i]? = some n) (hm1 : ns[i + 1]? = some m1) (hop : n.op = 5 ∨ n.op = 6 ∨ n.op = 7) (c : UInt8) (sa : List UInt8)
    (hA : PartOk ns b off cap (i + 1) k (brk n.op m1.op false) sa) : OneOk ns b off cap i k c (sa ++ [c]) := by
  intro B g l w h hbg hN hBw hlen
  simp only [List.length_append, List.length_cons, List.length_nil] at hlen
  have hil := lt_of_at hm1
  have hop' : n.op = 3 ∨ n.op = 4 ∨ n.op = 5 ∨ n.op = 6 ∨ n.op = 7 := Or.inr (Or.inr hop)
  have N1 := needs_any g b off cap ns hl w h.nodes hN i (i + 1) n m1 hn hm1 hop'
  rw [decide_eq_false (Nat.lt_irrefl _), succ_int] at N1
  replace N1 := hid N1
  have P1 := hA B g l w h hbg hN hBw (by omega)
  rw [succ_int] at P1
  replace P1 := hid P1
  have W2 : Hid (∀ w2, Wrt w2 B g (.slice (some ⟨b, off, none⟩) ns.length cap) (l ++ sa) → Below g w w2 → _) := fun w2 hp hb => wWriteByte B g _ (l ++ sa) c w2 hp (by rw [List.length_append]; omega) (Nat.le_trans hBw hb.size)
  have i1 : (i : Int) + 1 < (ns.length : Int) := by omega
  have HA : Hid (l ++ sa ++ [c] = l ++ (sa ++ [c])) := by show _ = _; simp
  clear h hbg hN hBw hn hm1 hop hop' hA
  go_enter Tryz.func33, Tryz.ntmps33
  go_wp2_with fail
  refine Calls.mono N1.out ?_
  rintro e w1 ⟨rfl, rfl⟩
  go_wp2_with fail
  refine Calls.mono P1.out ?_
  rintro e w2 ⟨rfl, hp2, hb2⟩
  have HP2 := hid hp2
  have HB2 := hid hb2
  clear hp2 hb2
  go_wp2_with fail
  refine Calls.mono (W2.out _ HP2.out HB2.out) ?_
  rintro e w3 ⟨rfl, hp3, hb3⟩
  have HP3 := hid hp3
  have HB3 := hid (HB2.out.trans hb3)
  clear hp3 hb3
  go_wp2
  go_ret
  exact ⟨rfl, by rw [← HA.out]; exact HP3.out, HB3.out⟩
end Go.Proofs.YtmdfdlljeggbbaaGreatDoor

/- The landed reader: what is deferred in read. -/
import Derived.Test.YtmdfdlljeggbbaaRb7
import Derived.Recover
set_option linter.unusedSimpArgs false
set_option linter.unusedVariables false
set_option maxRecDepth 100000
namespace Go.Proofs.Ytmdfdlljeggbbaa
open Go.RowKit
set_option maxHeartbeats 1000000 in
theorem catch_idle (p q t : Addr) (w : World) :
    CallsD Try.prog 34 #[.pointer (some p), .pointer (some q), .pointer (some t)] .returning w fun e u' w' => e = .returned (.tuple #[]) ∧ u' = .returning ∧ w' = w := by
  refine callsD_of_wpS Try.func34 rfl fun c₀ cs hu => ?_
  apply wpS_seq
  apply wpS_region
  simp [wpOpsS, go_sem, recoverD, hu, Try.ntmps34, Exit.thenS]
  refine wpS_of_wp ?_
  generalize hQ : (fun (e : Exit) (a' : Act) (w' : World) => bodyPostS Try.prog _ c₀ cs _ e a' (c₀ :: cs) w') = Q
  change Code.wp _ _ Q { tmps := #[.pointer (some p), .pointer (some q), .pointer (some t), .nilIface, undef, undef, .nilIface, undef, undef, undef, undef, undef, undef, undef, undef, undef, undef, undef, undef, undef], defers := [] } w
  have HQ := hid hQ
  clear hQ
  go_wp2
  rw [← HQ.out]
  refine ⟨rfl, .returning, ?_, .tuple #[], results_none rfl _ _ _, rfl, rfl, rfl⟩
  cases c₀
  simp only at hu
  subst hu
  rfl
set_option maxHeartbeats 1000000 in
theorem catch_mis (b0 b1 b2 : Nat) (z : Int) (u0 : Value) (u1 : Int) (u2 : Value) (w : World) (h0 : w.cell? ⟨b0, 0, none⟩ = some u0) (h1 : w.cell? ⟨b1, 0, none⟩ = some (.int .i64 u1)) (h2 : w.cell? ⟨b2, 0, none⟩ = some u2)
    (f0 : w.frozen? ⟨b0, 0, none⟩ = false) (f1 : w.frozen? ⟨b1, 0, none⟩ = false) (f2 : w.frozen? ⟨b2, 0, none⟩ = false) (n01 : ¬ b0 = b1) (n02 : ¬ b0 = b2) (n12 : ¬ b1 = b2) :
    CallsD Try.prog 34 #[.pointer (some ⟨b0, 0, none⟩), .pointer (some ⟨b1, 0, none⟩), .pointer (some ⟨b2, 0, none⟩)] (.panicking (mis z)) w fun e u' w' => e = .returned (.tuple #[]) ∧ u' = .panicking [{ v := .iface 68 (.agg #[.int .i64 z]), recovered := true }] ∧ w' = ((((w.setCell ⟨b0, 0, none⟩ (.slice none 0 0)).setCell ⟨b1, 0, none⟩ (.int .i64 z)).setCell ⟨b2, 0, none⟩ (.iface 52 (.int .i64 5))).alloc (.cells #[.int .i64 z] 68)).drew := by
  have l0 := block_lt_of_cell h0
  have l1 := block_lt_of_cell h1
  have l2 := block_lt_of_cell h2
  simp only at l0 l1 l2
  have m0 : ¬ b0 = w.heap.size := by omega
  have m1 : ¬ b1 = w.heap.size := by omega
  have m2 : ¬ b2 = w.heap.size := by omega
  have m0' : ¬ w.heap.size = b0 := by omega
  have m1' : ¬ w.heap.size = b1 := by omega
  have m2' : ¬ w.heap.size = b2 := by omega
  have n10 : ¬ b1 = b0 := fun e => n01 e.symm
  have n20 : ¬ b2 = b0 := fun e => n02 e.symm
  have n21 : ¬ b2 = b1 := fun e => n12 e.symm
  have k0 : ∀ o, (w.alloc o).cell? ⟨b0, 0, none⟩ = some u0 := fun o => by rw [World.cell?_alloc_past (w := w) _ b0 0 l0]; exact h0
  have k1 : ∀ o, (w.alloc o).cell? ⟨b1, 0, none⟩ = some (.int .i64 u1) := fun o => by rw [World.cell?_alloc_past (w := w) _ b1 0 l1]; exact h1
  have k2 : ∀ o, (w.alloc o).cell? ⟨b2, 0, none⟩ = some u2 := fun o => by rw [World.cell?_alloc_past (w := w) _ b2 0 l2]; exact h2
  have z0 : ∀ o, (w.alloc o).frozen? ⟨b0, 0, none⟩ = false := fun o => (World.frozen?_of_block (a := ⟨b0, 0, none⟩) (Below.heap_alloc w o b0 l0)).trans f0
  have z1 : ∀ o, (w.alloc o).frozen? ⟨b1, 0, none⟩ = false := fun o => (World.frozen?_of_block (a := ⟨b1, 0, none⟩) (Below.heap_alloc w o b1 l1)).trans f1
  have z2 : ∀ o, (w.alloc o).frozen? ⟨b2, 0, none⟩ = false := fun o => (World.frozen?_of_block (a := ⟨b2, 0, none⟩) (Below.heap_alloc w o b2 l2)).trans f2
  refine callsD_of_wpS Try.func34 rfl fun c₀ cs hu => ?_
  apply wpS_seq
  apply wpS_region
  simp [wpOpsS, go_sem, recoverD, hu, mis, Try.ntmps34, Exit.thenS]
  refine wpS_of_wp ?_
  generalize hQ : (fun (e : Exit) (a' : Act) (w' : World) => bodyPostS Try.prog _ c₀ cs _ e a' _ w') = Q
  change Code.wp _ _ Q { tmps := #[.pointer (some ⟨b0, 0, none⟩), .pointer (some ⟨b1, 0, none⟩), .pointer (some ⟨b2, 0, none⟩), .iface 68 (.agg #[.int .i64 z]), undef, undef, .iface 68 (.agg #[.int .i64 z]), undef, undef, undef, undef, undef, undef, undef, undef, undef, undef, undef, undef, undef], defers := [] } w
  have HQ := hid hQ
  clear hQ
  have hta : ∀ w : World, (Instr.typeAssert (.iface 68 (.agg #[.int .i64 z])) 20 68 true).run Try.prog w = .ok (.tuple #[.agg #[.int .i64 z], .bool true]) w := fun _ => by kernel_rfl
  go_wp2
  go_region
  rw [← HQ.out]
  exact ⟨rfl, .panicking [{ v := .iface 68 (.agg #[.int .i64 z]), recovered := true }], rfl, .tuple #[], results_none rfl _ _ _, rfl, rfl, rfl⟩
end Go.Proofs.Ytmdfdlljeggbbaa

/- The landed package syn: read, Parse. -/
import Derived.Test.YtmdfdlljeggbbaaRc2
import Derived.Test.YtmdfdlljeggbbaaSyC
set_option linter.unusedSimpArgs false
set_option linter.unusedVariables false
set_option maxRecDepth 100000
namespace Go.Proofs.Ytmdfdlljeggbbaa
open Go.RowKit
theorem Vars.set {h : Nat} {W : World} {v0 v1 v2 : Value} (x : Vars h W v0 v1 v2) (u0 u1 u2 : Value) : Vars h (((W.setCell ⟨h, 0, none⟩ u0).setCell ⟨h + 1, 0, none⟩ u1).setCell ⟨h + 1 + 1, 0, none⟩ u2) u0 u1 u2 := by
  have s1 : (W.setCell ⟨h, 0, none⟩ u0).heap[h]? = some (.cells #[u0] 31 (0, 0)) := by simp [World.setCell, Array.getElem?_modify, x.b0]
  have s2 : ((W.setCell ⟨h, 0, none⟩ u0).setCell ⟨h + 1, 0, none⟩ u1).heap[h + 1]? = some (.cells #[u1] 3 (0, 0)) := by
    have h1 : (W.setCell ⟨h, 0, none⟩ u0).heap[h + 1]? = some (.cells #[v1] 3 (0, 0)) := (Below.heap_setCell W _ _ (h + 1) (by simp)).trans x.b1
    generalize W.setCell ⟨h, 0, none⟩ u0 = W1 at h1 ⊢
    simp [World.setCell, Array.getElem?_modify, h1]
  have s3 : (((W.setCell ⟨h, 0, none⟩ u0).setCell ⟨h + 1, 0, none⟩ u1).setCell ⟨h + 1 + 1, 0, none⟩ u2).heap[h + 1 + 1]? = some (.cells #[u2] 33 (0, 0)) := by
    have h1 : ((W.setCell ⟨h, 0, none⟩ u0).setCell ⟨h + 1, 0, none⟩ u1).heap[h + 1 + 1]? = some (.cells #[v2] 33 (0, 0)) := (Below.heap_setCell _ _ _ (h + 1 + 1) (by simp)).trans ((Below.heap_setCell W _ _ (h + 1 + 1) (by simp; omega)).trans x.b2)
    generalize (W.setCell ⟨h, 0, none⟩ u0).setCell ⟨h + 1, 0, none⟩ u1 = W1 at h1 ⊢
    simp [World.setCell, Array.getElem?_modify, h1]
  exact ⟨(Below.heap_setCell _ ⟨h + 1 + 1, 0, none⟩ u2 h (by simp; omega)).trans ((Below.heap_setCell _ ⟨h + 1, 0, none⟩ u1 h (by simp)).trans s1), (Below.heap_setCell _ ⟨h + 1 + 1, 0, none⟩ u2 (h + 1) (by simp)).trans s2, s3⟩
set_option maxHeartbeats 1000000 in
theorem read_bad2 (s : ByteArray) (hs : s.size ≤ 200) (ss : List Rx) (l1 : List UInt8) (hl1 : l1 ≠ []) (h : Alt s.data.toList (.ok (ss, l1))) (w : World) :
    Calls Try.prog 26 #[.string s] w fun e w' => e = .returned (.tuple #[.slice none 0 0, .int .i64 ((s.size : Int) - (l1.length : Int)), .iface 52 (.int .i64 5)]) ∧ Below w.heap.size w w' := by
  have hmf : ∀ (fn : Fn) (first cap : Array Value) (w : World), (Instr.makeFunc fn first cap).run Try.prog w = .ok (.func fn first cap) w := fun _ _ _ _ => rfl
  have hf := (read_all s.data.toList.length).2.2 s.data.toList (Nat.le_refl _) _ h (three w).heap.size s [] _ (by have := str_len s; simp at this ⊢; omega) (PAt.start (three w) s hs)
  rw [three_size] at hf
  have HF := hid hf
  clear h hf
  go_enter_defers Try.func26, Try.ntmps26
  go_wp2_with fail
  refine Calls.mono HF.out ?_
  rintro e w2 ⟨rfl, hp2, hb2⟩
  obtain ⟨a2, v2, hp2, hO2⟩ := hp2
  have HB3 := hid (((Below.refl (w.heap.size + 1 + 1 + 1) (three w)).alloc (by rw [three_size]; exact Nat.le_refl _) (.cells #[.string s, .int .i64 0, .slice none 0 0, .bool false] 71)).trans hb2)
  have HP2 := hid hp2
  clear hb2 HF hO2
  obtain ⟨c1, r1, hcr⟩ : ∃ c r, l1 = c :: r := by
    cases l1 with
    | nil => exact absurd rfl hl1
    | cons c r => exact ⟨c, r, rfl⟩
  subst hcr
  clear hp2 hl1
  go_wp2_with fail
  refine Calls.mono (more_cons _ s a2 v2 c1 r1 _ HP2.out) ?_
  rintro e w3 ⟨rfl, hb3⟩
  have hp3 := HP2.out.below hb3
  obtain ⟨c0, c1', c2, c3, f1, f2, f3⟩ := hp3.rd.all
  have HP3 := hid hp3
  have HB4 := hid (HB3.out.trans (hb3.mono (Nat.le_of_lt HP2.out.lt)))
  have HPL := hid hp3.place
  clear hp3 hb3
  go_wp2_with fail
  refine Calls.mono (misfitAt_any _ s _ v2 false _ _ HP3.out.rd) ?_
  rintro e w4 ⟨rfl, hst, hg4⟩
  have hb5 := HB4.out.trans (below_of_grown hg4 (Nat.le_refl _) (Nat.le_of_lt HP3.out.lt))
  go_wp2_with fail
  refine door_mis _ _ w.heap.size (a2 : Int) _ w ((Vars.three w).below hb5 (by omega)) ((three_below w).trans (hb5.mono (by omega))) rfl rfl rfl ?_
  intro W' hW'
  refine ⟨?_, hW'⟩
  have h1 := HP3.out.le
  have h2 : (a2 : Int) = (s.size : Int) - ((c1 :: r1).length : Int) := by omega
  rw [h2]
set_option maxHeartbeats 1000000 in
theorem read_ok (s : ByteArray) (hs : s.size ≤ 200) (ss : List Rx) (h : Alt s.data.toList (.ok (ss, []))) (w : World) :
    Calls Try.prog 26 #[.string s] w fun e w' => ∃ v, e = .returned (.tuple #[v, .int .i64 0, .nilIface]) ∧ Below w.heap.size w w' ∧ NsIn w' v (ors ss).flat := by
  have hmf : ∀ (fn : Fn) (first cap : Array Value) (w : World), (Instr.makeFunc fn first cap).run Try.prog w = .ok (.func fn first cap) w := fun _ _ _ _ => rfl
  have HSZ := hid ((sizes s.data.toList.length s.data.toList (Nat.le_refl _)).2.2 ss [] h)
  have HNE := hid (alt_ne _ ss _ h)
  have hf := (read_all s.data.toList.length).2.2 s.data.toList (Nat.le_refl _) _ h (three w).heap.size s [] _ (by have := str_len s; simp at this ⊢; omega) (PAt.start (three w) s hs)
  rw [three_size] at hf
  have HF := hid hf
  clear h hf
  go_enter_defers Try.func26, Try.ntmps26
  go_wp2_with fail
  refine Calls.mono HF.out ?_
  rintro e w2 ⟨rfl, hp2, hb2⟩
  obtain ⟨a2, v2, hp2, hO2⟩ := hp2
  have HB3 := hid (((Below.refl (w.heap.size + 1 + 1 + 1) (three w)).alloc (by rw [three_size]; exact Nat.le_refl _) (.cells #[.string s, .int .i64 0, .slice none 0 0, .bool false] 71)).trans hb2)
  have HP2 := hid hp2
  have HO2 := hid hO2
  clear hb2 HF hO2 hp2
  go_wp2_with fail
  refine Calls.mono (more_nil _ s a2 v2 _ HP2.out) ?_
  rintro e w3 ⟨rfl, hb3⟩
  have hp3 := HP2.out.below hb3
  obtain ⟨g3, cap3, hu, hg3, hl3, _⟩ := (HO2.out.below hb3).form (by simp; exact flat_pos _)
  have HO3 := hid (HO2.out.below hb3)
  subst hu
  obtain ⟨c0, c1', c2, c3, f1, f2, f3⟩ := hp3.rd.all
  have hx := (Vars.three w).below (HB3.out.trans (hb3.mono (Nat.le_of_lt HP2.out.lt))) (by omega)
  obtain ⟨x0, x1, x2, y0, y1, y2⟩ := hx.cells
  have HB4 := hid (HB3.out.trans (hb3.mono (Nat.le_of_lt HP2.out.lt)))
  have HX := hid hx
  clear hp3 hb3 HP2 hx
  obtain ⟨L, hL⟩ : ∃ L, L = ([] ++ (ors ss).flat).length := ⟨_, rfl⟩
  rw [← hL] at c2 HO3
  have HL := hid hL
  clear hL
  go_wp2_with fail
  refine door_idle _ _ w.heap.size _ _ _ _ (HX.out.set _ _ _) rfl rfl rfl ?_
  have hO4 := ((HO3.out.keptG (grown_cell w3 w.heap.size 0 (.slice (some ⟨g3, 0, none⟩) L cap3)) (by omega)).keptG (grown_cell _ (w.heap.size + 1) 0 (.int .i64 0)) (by omega)).keptG (grown_cell _ (w.heap.size + 1 + 1) 0 .nilIface) (by omega)
  refine ⟨_, rfl, ?_, ?_⟩
  · exact ((((three_below w).trans (HB4.out.mono (by omega))).setCell (Nat.le_refl _) _).setCell (by simp) _).setCell (by simp; omega) _
  · refine hO4.isIn ?_
    have h1 := HSZ.out
    have h2 := orL_len (ss.map Rx.flat)
    have h3 := str_len s
    rw [List.nil_append, ors_flat ss HNE.out]
    simp only [List.length_map, List.length_nil] at h1 h2
    unfold maxLen
    omega
end Go.Proofs.Ytmdfdlljeggbbaa

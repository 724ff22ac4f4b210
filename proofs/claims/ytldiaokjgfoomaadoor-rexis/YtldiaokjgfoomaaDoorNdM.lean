/- What the document's own functions answer: Parts, EndOf. -/
import Derived.Test.YtldiaokjgfoomaaDoorNdP
set_option linter.unusedSimpArgs false
set_option linter.unusedVariables false
set_option maxRecDepth 100000
namespace Go.Proofs.YtldiaokjgfoomaaDoor
open Go.RowKit

set_option maxHeartbeats 400000 in
theorem parts_any (op : Int) (w : World) :
    Calls Tryd.prog 40 #[.int .i64 op] w fun e w' => e = .returned (.int .i64 (prt op)) ∧ w' = w := by
  by_cases h3 : op = 3
  · subst h3
    go_enter Tryd.func40, Tryd.ntmps40
    go_wp2
    go_ret
    exact ⟨rfl, rfl⟩
  · have b3 : (op == 3) = false := by simp [h3]
    by_cases h4 : op = 4
    · subst h4
      go_enter Tryd.func40, Tryd.ntmps40
      go_wp2
      go_ret
      exact ⟨rfl, rfl⟩
    · have b4 : (op == 4) = false := by simp [h4]
      by_cases h5 : op = 5
      · subst h5
        go_enter Tryd.func40, Tryd.ntmps40
        go_wp2
        go_ret
        exact ⟨rfl, rfl⟩
      · have b5 : (op == 5) = false := by simp [h5]
        by_cases h6 : op = 6
        · subst h6
          go_enter Tryd.func40, Tryd.ntmps40
          go_wp2
          go_ret
          exact ⟨rfl, rfl⟩
        · have b6 : (op == 6) = false := by simp [h6]
          by_cases h7 : op = 7
          · subst h7
            go_enter Tryd.func40, Tryd.ntmps40
            go_wp2
            go_ret
            exact ⟨rfl, rfl⟩
          · have b7 : (op == 7) = false := by simp [h7]
            have e0 : prt op = 0 := by unfold prt; simp [h3, h4, h5, h6, h7]
            rw [e0]
            clear h3 h4 h5 h6 h7 e0
            go_enter Tryd.func40, Tryd.ntmps40
            go_wp2
            go_ret
            exact ⟨rfl, rfl⟩
set_option maxHeartbeats 1000000 in
theorem endOf_walk (ns : List Nd) (b off cap f i : Nat) (hm : ns.length ≤ maxLen) (w : World) (hN : NsAt w b off ns)
    (ih : ∀ j, ns.length + 1 ≤ f + j → Calls Tryd.prog 27 #[.slice (some ⟨b, off, none⟩) ns.length cap, .int .i64 j] w fun e w' => e = .returned (.int .i64 (endI (endF ns f j))) ∧ w' = w)
    (hf : ns.length + 1 ≤ f + 1 + i) :
    Calls Tryd.prog 27 #[.slice (some ⟨b, off, none⟩) ns.length cap, .int .i64 i] w fun e w' => e = .returned (.int .i64 (endI (endF ns (f + 1) i))) ∧ w' = w := by
  have IH := (show Hid _ from ih)
  unfold maxLen at hm
  clear ih
  by_cases hi : i < ns.length
  · obtain ⟨n, hn⟩ : ∃ n, ns[i]? = some n := ⟨ns[i], List.getElem?_eq_getElem hi⟩
    obtain ⟨c0, _⟩ := hN i n hn
    have HF : Hid _ := endF_fin ns f i n hn
    have hp := prt_le n.op
    have i0 : (0 : Int) ≤ (i : Int) := by omega
    have i1 : (i : Int) < (ns.length : Int) := by omega
    have hd : decide (ns.length ≤ i) = false := by simp; omega
    clear hn
    go_enter Tryd.func27, Tryd.ntmps27
    go_wp2_with fail
    refine (parts_any _ _).mono ?_
    rintro e w1 ⟨rfl, rfl⟩
    generalize hpr : prt n.op = pr at *
    clear hpr
    go_wp2_with fail
    go_loop [1, 5] (fun v u => ∃ (m : Nat) (o : Option Nat), m ≤ 2 ∧ u = .int .i64 m ∧ v = .int .i64 (endI o) ∧ Hid (fin ns f m o = endF ns (f + 1) i) ∧ Hid (∀ j, o = some j → i < j ∧ j ≤ ns.length)) (fun _ u => (intOf u).toNat)
    case atStart => exact ⟨pr, some (i + 1), by omega, rfl, by go_num, HF.out.symm, fun j hj => by simp at hj; omega⟩
    case round =>
      obtain ⟨m, o, hm2, rfl, rfl, HX, HJ⟩ := hrel
      cases m with
      | zero =>
        go_wp2
        go_ret
        exact ⟨by rw [← HX.out]; rfl, rfl⟩
      | succ m =>
        have m0 : (0 : Int) < ((m + 1 : Nat) : Int) := by omega
        cases o with
        | none =>
          simp only [endI]
          go_wp2
          go_ret
          exact ⟨by rw [← HX.out, fin_none]; rfl, rfl⟩
        | some j =>
          have hj := HJ.out j rfl
          simp only [endI]
          go_wp2_with fail
          refine (IH.out j (by omega)).mono ?_
          rintro e w1 ⟨rfl, rfl⟩
          go_wp2
          refine ⟨⟨m, endF ns f j, by omega, by go_num, rfl, ?_, ?_⟩, by simp [intOf]⟩
          · rw [← HX.out]; exact (Eq.refl (fin ns f m (endF ns f j)))
          · intro k hk
            have := endF_gt ns f j k hk
            omega
  · have hd : decide (ns.length ≤ i) = true := by simp; omega
    have HF : Hid (endF ns (f + 1) i = none) := by
      show _ = _
      rw [endF, List.getElem?_eq_none (by omega)]
    go_enter Tryd.func27, Tryd.ntmps27
    go_wp2
    go_ret
    exact ⟨by rw [HF.out]; rfl, rfl⟩
set_option maxHeartbeats 1000000 in
theorem endOf_out (ns : List Nd) (a : Option Addr) (cap i : Nat) (hm : ns.length ≤ maxLen) (w : World) (hi : ns.length ≤ i) :
    Calls Tryd.prog 27 #[.slice a ns.length cap, .int .i64 i] w fun e w' => e = .returned (.int .i64 (-1)) ∧ w' = w := by
  unfold maxLen at hm
  have hd : decide (ns.length ≤ i) = true := by simp; omega
  go_enter Tryd.func27, Tryd.ntmps27
  go_wp2
  go_ret
  exact ⟨rfl, rfl⟩
theorem endOf_at (ns : List Nd) (b off cap : Nat) (hm : ns.length ≤ maxLen) (w : World) (hN : NsAt w b off ns) : ∀ (f i : Nat), ns.length + 1 ≤ f + i →
    Calls Tryd.prog 27 #[.slice (some ⟨b, off, none⟩) ns.length cap, .int .i64 i] w fun e w' => e = .returned (.int .i64 (endI (endF ns f i))) ∧ w' = w := by
  intro f
  induction f with
  | zero =>
    intro i h
    exact endOf_out ns _ cap i hm w (by omega)
  | succ f ih =>
    intro i h
    exact endOf_walk ns b off cap f i hm w hN ih (by omega)
theorem endOf_any (ns : List Nd) (v : Value) (i : Nat) (w : World) (hN : NsIn w v ns) :
    Calls Tryd.prog 27 #[v, .int .i64 i] w fun e w' => e = .returned (.int .i64 (endI (endE ns i))) ∧ w' = w := by
  obtain ⟨a, cap, rfl, hm, h | ⟨b, off, rfl, hlt, hn⟩⟩ := hN
  · subst h
    rw [endE_nil]
    exact endOf_out [] a cap i hm w (by simp)
  · exact endOf_at ns b off cap hm w hn (ns.length + 1) i (by omega)
end Go.Proofs.YtldiaokjgfoomaaDoor

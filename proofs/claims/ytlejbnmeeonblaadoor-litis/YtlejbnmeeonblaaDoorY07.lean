/- The landed lit: Whole and Needed. -/
import Derived.Test.YtlejbnmeeonblaaDoorY06
namespace Go.Proofs.YtlejbnmeeonblaaDoor
set_option linter.unusedSimpArgs false
set_option linter.unusedVariables false
set_option maxRecDepth 100000
open Go.RowKit
/-- ofPart at every tree. -/
theorem pn_tree (b off cap : Nat) : ∀ (t : Rx), t.Ok → ∀ (p q : List Nd), faultL (p ++ t.flat ++ q) = 0 → (∀ n ∈ t.flat, (1 ≤ n.op ∧ n.op ≤ 9) ∧ n.c.ok) → (p ++ t.flat ++ q).length ≤ 60 → PnOk (p ++ t.flat ++ q) b off cap t p.length
  | .leaf n, h, p, q, hf, ho, hl => by
    have h1 := ho n (by simp [Rx.flat])
    refine pn_leaf _ hl b off cap p.length n (by simp [Rx.flat]) (by simp [Rx.flat]) h1.2 ?_
    have h0 : prt n.op = 0 := h
    have h2 : ¬ prt n.op = 2 := by omega
    have h3 : ¬ prt n.op = 1 := by omega
    rw [prt_two] at h2
    rw [prt_one] at h3
    omega
  | .one n a, h, p, q, hf, ho, hl => by
    by_cases h6 : n.op = 6
    · have e : p ++ (Rx.one n a).flat ++ q = (p ++ [n]) ++ a.flat ++ q := by simp [Rx.flat]
      have ih := pn_tree b off cap a h.2 (p ++ [n]) q (by rw [← e]; exact hf) (fun m hm => ho m (by simp [Rx.flat, hm])) (by rw [← e]; exact hl)
      rw [← e, show (p ++ [n]).length = p.length + 1 from by simp] at ih
      exact pn_plus _ hl b off cap p.length n a (by simp [Rx.flat]) (by simp [Rx.flat]) h6 ih
    · have hop := (prt_one n.op).1 h.1
      exact pn_none _ hl b off cap p.length n _ rfl (by rw [Rx.ned, if_neg h6]) (by simp [Rx.flat]) (by simp [Rx.flat]) (by omega)
  | .two n x y, h, p, q, hf, ho, hl => by
    have e1 : p ++ (Rx.two n x y).flat ++ q = (p ++ [n]) ++ x.flat ++ (y.flat ++ q) := by simp [Rx.flat]
    have e2 : p ++ (Rx.two n x y).flat ++ q = (p ++ [n] ++ x.flat) ++ y.flat ++ q := by simp [Rx.flat]
    rcases (prt_two n.op).1 h.1 with hop | hop
    · have ih1 := pn_tree b off cap x h.2.1 (p ++ [n]) (y.flat ++ q) (by rw [← e1]; exact hf) (fun m hm => ho m (by simp [Rx.flat, hm])) (by rw [← e1]; exact hl)
      have ih2 := pn_tree b off cap y h.2.2 (p ++ [n] ++ x.flat) q (by rw [← e2]; exact hf) (fun m hm => ho m (by simp [Rx.flat, hm])) (by rw [← e2]; exact hl)
      rw [← e1, show (p ++ [n]).length = p.length + 1 from by simp] at ih1
      rw [← e2, show (p ++ [n] ++ x.flat).length = p.length + 1 + x.flat.length from by simp; omega] at ih2
      have hb : x.flat.length ≤ 60 ∧ y.flat.length ≤ 60 := by
        rw [e1] at hl
        simp at hl
        omega
      have hpx := x.flat_pos
      exact pn_cat _ hf hl b off cap p.length n x y (by simp [Rx.flat]) (by simp [Rx.flat]; omega) hop (end_at p q n x y h.2.1 _ rfl) hb.1 hb.2 ih1 ih2
    · have hw : (Rx.two n x y).whl = none := by rw [Rx.whl, if_neg (by omega)]
      exact pn_none _ hl b off cap p.length n _ hw (by rw [Rx.ned, hw]; simp only; rw [if_neg (by omega)]) (by simp [Rx.flat]) (by simp [Rx.flat]) (by omega)
theorem ofPart_any (t : Rx) (ht : t.Ok) (hf : faultL t.flat = 0) (hok : ∀ n ∈ t.flat, n.wf) (v : Value) (w : World) (h : NsIn w v t.flat) :
    Calls Tryd.prog 18 #[v, .int .i64 0] w fun e w' => e = .returned t.muV ∧ Below w.heap.size w w' := by
  obtain ⟨h60, hops, -⟩ := (faultL_zero t.flat).1 hf
  have hpos := t.flat_pos
  obtain ⟨a, cap, rfl, hm, h | ⟨b, off, rfl, hlt, hn⟩⟩ := h
  · rw [h] at hpos; simp at hpos
  · have := pn_tree b off cap t ht [] [] (by simpa using hf) (fun n hn => ⟨(hops n hn).1, C4.wf_ok (hok n hn).2⟩) (by simpa using h60)
    simp only [List.nil_append, List.append_nil, List.length_nil] at this
    exact this w hlt hn
set_option maxHeartbeats 4000000 in
theorem needed_bad (ns : List Nd) (v : Value) (w : World) (hN : NsIn w v ns) (hf : ¬ faultL ns = 0) : Calls Tryd.prog 10 #[v] w fun e w' => e = .returned (.tuple #[.string ⟨#[]⟩, errV (faultL ns)]) ∧ Below w.heap.size w w' := by
  have CC : Hid _ := rcheck_any ns v w hN
  rw [show errV (faultL ns) = .iface 23 (.int .i64 (faultL ns)) from if_neg hf] at CC ⊢
  clear hf hN
  generalize faultL ns = ft at *
  go_enter Tryd.func10, Tryd.ntmps10
  go_wp2_with fail
  refine Calls.mono CC.out ?_
  rintro e w1 ⟨rfl, hb⟩
  have B := hid hb
  clear hb CC
  go_wp2
  go_ret2
  exact ⟨rfl, B.out⟩
set_option maxHeartbeats 4000000 in
theorem whole_bad (ns : List Nd) (v : Value) (w : World) (hN : NsIn w v ns) (hf : ¬ faultL ns = 0) : Calls Tryd.prog 8 #[v] w fun e w' => e = .returned (.tuple #[.string ⟨#[]⟩, .bool false, errV (faultL ns)]) ∧ Below w.heap.size w w' := by
  have CC : Hid _ := rcheck_any ns v w hN
  rw [show errV (faultL ns) = .iface 23 (.int .i64 (faultL ns)) from if_neg hf] at CC ⊢
  clear hf hN
  generalize faultL ns = ft at *
  go_enter Tryd.func8, Tryd.ntmps8
  go_wp2_with fail
  refine Calls.mono CC.out ?_
  rintro e w1 ⟨rfl, hb⟩
  have B := hid hb
  clear hb CC
  go_wp2
  go_ret3
  exact ⟨rfl, B.out⟩
set_option maxHeartbeats 4000000 in
theorem needed_any (t : Rx) (v : Value) (w : World) (ht : t.Ok) (hN : NsIn w v t.flat) (hok : ∀ n ∈ t.flat, n.wf) (hf : faultL t.flat = 0) : Calls Tryd.prog 10 #[v] w fun e w' => e = .returned (.tuple #[.string ⟨t.ned.toArray⟩, .nilIface]) ∧ Below w.heap.size w w' := by
  have CC : Hid _ := rcheck_any t.flat v w hN
  rw [hf, show errV 0 = .nilIface from rfl] at CC
  have HP : Hid (∀ w', Below w.heap.size w w' → _) := fun w' hb => ofPart_any t ht hf hok v w' (hN.below hb)
  rw [muV_form] at HP
  clear hf hN hok ht
  have hfl := fieldM
  go_enter Tryd.func10, Tryd.ntmps10
  go_wp2_with fail
  refine Calls.mono CC.out ?_
  rintro e w1 ⟨rfl, hb⟩
  have B := hid hb
  clear hb CC
  go_wp2_with fail
  refine Calls.mono (HP.out _ B.out) ?_
  rintro e w2 ⟨rfl, hb⟩
  replace B := hid (B.out.trans (hb.mono B.out.size))
  clear hb HP
  go_wp2
  go_ret2
  exact ⟨rfl, B.out⟩
set_option maxHeartbeats 4000000 in
theorem whole_any (t : Rx) (v : Value) (w : World) (ht : t.Ok) (hN : NsIn w v t.flat) (hok : ∀ n ∈ t.flat, n.wf) (hf : faultL t.flat = 0) : Calls Tryd.prog 8 #[v] w fun e w' => e = .returned (.tuple #[.string ⟨(t.whl.getD []).toArray⟩, .bool t.whl.isSome, .nilIface]) ∧ Below w.heap.size w w' := by
  have CC : Hid _ := rcheck_any t.flat v w hN
  rw [hf, show errV 0 = .nilIface from rfl] at CC
  have HP : Hid (∀ w', Below w.heap.size w w' → _) := fun w' hb => ofPart_any t ht hf hok v w' (hN.below hb)
  rw [muV_form] at HP
  clear hf hN hok ht
  have hnw : ∀ x, t.whl = some x → t.ned = x := fun x h => ned_whl h
  cases hx : t.whl with
  | none =>
    rw [hx] at HP
    simp only [Option.isSome_none, Option.getD_none] at HP ⊢
    clear hnw hx
    go_enter Tryd.func8, Tryd.ntmps8
    go_wp2_with fail
    refine Calls.mono CC.out ?_
    rintro e w1 ⟨rfl, hb⟩
    have B := hid hb
    clear hb CC
    go_wp2_with fail
    refine Calls.mono (HP.out _ B.out) ?_
    rintro e w2 ⟨rfl, hb⟩
    replace B := hid (B.out.trans (hb.mono B.out.size))
    clear hb HP
    have HB2 := hid (fun o => B.out.alloc B.out.size o)
    clear B
    go_wp2
    go_ret3
    exact ⟨rfl, HB2.out _⟩
  | some x =>
    rw [hx, hnw x hx] at HP
    simp only [Option.isSome_some, Option.getD_some] at HP ⊢
    clear hnw hx
    go_enter Tryd.func8, Tryd.ntmps8
    go_wp2_with fail
    refine Calls.mono CC.out ?_
    rintro e w1 ⟨rfl, hb⟩
    have B := hid hb
    clear hb CC
    go_wp2_with fail
    refine Calls.mono (HP.out _ B.out) ?_
    rintro e w2 ⟨rfl, hb⟩
    replace B := hid (B.out.trans (hb.mono B.out.size))
    clear hb HP
    have HB2 := hid (fun o => B.out.alloc B.out.size o)
    clear B
    go_wp2
    go_ret3
    exact ⟨rfl, HB2.out _⟩
theorem litN (X : World → Prop) : LitN X where
  bad := fun ns v w hN _ hf => needed_bad ns v w hN hf
  need := fun t v w _ ht hN hok hf => needed_any t v w ht hN hok hf
theorem litW (X : World → Prop) : LitW X where
  bad := fun ns v w hN _ hf => whole_bad ns v w hN hf
  whole := fun t v w _ ht hN hok hf => whole_any t v w ht hN hok hf
end Go.Proofs.YtlejbnmeeonblaaDoor

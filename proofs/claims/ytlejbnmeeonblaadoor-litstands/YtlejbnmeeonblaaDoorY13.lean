/- The landed lit: a part, Whole and Needed. The landed lit: Whole and Needed. -/
import Derived.Test.YtlejbnmeeonblaaDoorY12
namespace Go.Proofs.YtlejbnmeeonblaaDoor
set_option linter.unusedSimpArgs false
set_option linter.unusedVariables false
set_option maxRecDepth 100000
open Go.RowKit
/-- ofPart answers of the part at i as the tree t says. -/
def PnOk (ns : List Nd) (b off cap : Nat) (t : Rx) (i : Nat) : Prop := ∀ w : World, b < w.heap.size → NsAt w b off ns →
  Calls Tryd.prog 18 #[.slice (some ⟨b, off, none⟩) ns.length cap, .int .i64 (i : Int)] w fun e w' => e = .returned t.muV ∧ Below w.heap.size w w'
theorem fieldM (s : ByteArray) (f : Bool) (w : World) : (Instr.field 53 (.agg #[.string s, .bool f]) 0).run Tryd.prog w = .ok (.string s) w := by kernel_rfl
theorem muV_form (t : Rx) : t.muV = .agg #[.string ⟨t.ned.toArray⟩, .bool t.whl.isSome] := rfl
set_option maxHeartbeats 4000000 in
theorem pn_leaf (ns : List Nd) (hl : ns.length ≤ 60) (b off cap i : Nat) (n : Nd) (hn : ns[i]? = some n) (hi : i < ns.length) (hok : n.c.ok) (hop : n.op = 1 ∨ n.op = 2 ∨ n.op = 8 ∨ n.op = 9) : PnOk ns b off cap (.leaf n) i := by
  intro w hlt hN
  have fA : Hmu (w.alloc (.cells #[.string ⟨#[]⟩, .bool false] 53)) w.heap.size ⟨#[]⟩ false := Hmu.new _ _ _ _ rfl
  have gW : Hid (Below w.heap.size w (w.alloc (.cells #[.string ⟨#[]⟩, .bool false] 53))) := (Below.refl _ _).alloc (Nat.le_refl _) _
  obtain ⟨c0, c1, c2, c3, c4⟩ := (hN.below gW.out hlt) i n hn
  have HZ : Hid (w.alloc (.cells #[.string ⟨#[]⟩, .bool false] 53) = w.alloc (.cells #[.string ⟨#[]⟩, .bool false] 53)) := Eq.refl _
  have i0 : (0 : Int) ≤ (i : Int) := by omega
  have i1 : (i : Int) < (ns.length : Int) := by omega
  go_enter Tryd.func18, Tryd.ntmps18
  go_upto_region 1 with fail
  generalize (w.alloc (.cells #[.string ⟨#[]⟩, .bool false] 53)) = w4 at *
  clear hN HZ
  rcases hop with hop | hop | hop | hop
  · rw [hop] at c0
    have HV : Hid ((Rx.leaf n).muV = n.c.muV) := by
      show _ = _
      simp only [Rx.muV, C4.muV, Rx.ned, Rx.whl, if_pos hop]
    obtain ⟨l, f, HF⟩ : ∃ l f, Hid (n.c.muV = .agg #[.string ⟨l⟩, .bool f]) := ⟨_, _, Eq.refl _⟩
    have HB := hid (fun w' => ofByte_any n.c hok w')
    rw [HF.out] at HV HB
    clear hop HF
    go_wp2_with fail
    refine Calls.mono (HB.out _) ?_
    rintro e w5 ⟨rfl, hb⟩
    have B := hid (gW.out.trans (hb.mono gW.out.size))
    have fB := fA.below hb fA.lt
    clear fA hb
    obtain ⟨m0, m1, z0, z1⟩ := fB.all
    go_wp2
    have hp := (fB.put ⟨l⟩ f).all
    refine bodyPost_ret (v := .agg #[.string ⟨l⟩, .bool f]) (by simp [results, Tryd.results18, go_sem, hp.1, hp.2.1]) rfl ⟨by rw [HV.out], ?_⟩
    exact below_putM B.out (Nat.le_refl _) _ _
  · have HV : Hid ((Rx.leaf n).muV = .agg #[.string ⟨#[]⟩, .bool true]) := by
      show _ = _
      simp [muV_form, Rx.ned, Rx.whl, hop]
    rw [hop] at c0
    obtain ⟨m0, m1, z0, z1⟩ := fA.all
    go_wp2
    have hp := (fA.put ⟨#[]⟩ true).all
    refine bodyPost_ret (v := .agg #[.string ⟨#[]⟩, .bool true]) (by simp [results, Tryd.results18, go_sem, hp.1, hp.2.1]) rfl ⟨by rw [HV.out], ?_⟩
    exact below_putM gW.out (Nat.le_refl _) _ _
  · have HV : Hid ((Rx.leaf n).muV = .agg #[.string ⟨#[]⟩, .bool false]) := by
      show _ = _
      simp [muV_form, Rx.ned, Rx.whl, hop]
    rw [hop] at c0
    obtain ⟨m0, m1, z0, z1⟩ := fA.all
    go_wp2
    have hp := (fA.put ⟨#[]⟩ false).all
    refine bodyPost_ret (v := .agg #[.string ⟨#[]⟩, .bool false]) (by simp [results, Tryd.results18, go_sem, hp.1, hp.2.1]) rfl ⟨by rw [HV.out], ?_⟩
    exact below_putM gW.out (Nat.le_refl _) _ _
  · have HV : Hid ((Rx.leaf n).muV = .agg #[.string ⟨#[]⟩, .bool false]) := by
      show _ = _
      simp [muV_form, Rx.ned, Rx.whl, hop]
    rw [hop] at c0
    obtain ⟨m0, m1, z0, z1⟩ := fA.all
    go_wp2
    have hp := (fA.put ⟨#[]⟩ false).all
    refine bodyPost_ret (v := .agg #[.string ⟨#[]⟩, .bool false]) (by simp [results, Tryd.results18, go_sem, hp.1, hp.2.1]) rfl ⟨by rw [HV.out], ?_⟩
    exact below_putM gW.out (Nat.le_refl _) _ _
set_option maxHeartbeats 4000000 in
theorem pn_none (ns : List Nd) (hl : ns.length ≤ 60) (b off cap i : Nat) (n : Nd) (t : Rx) (ht : t.whl = none) (hd : t.ned = []) (hn : ns[i]? = some n) (hi : i < ns.length) (hop : n.op = 4 ∨ n.op = 5 ∨ n.op = 7) : PnOk ns b off cap t i := by
  intro w hlt hN
  have fA : Hmu (w.alloc (.cells #[.string ⟨#[]⟩, .bool false] 53)) w.heap.size ⟨#[]⟩ false := Hmu.new _ _ _ _ rfl
  have gW : Hid (Below w.heap.size w (w.alloc (.cells #[.string ⟨#[]⟩, .bool false] 53))) := (Below.refl _ _).alloc (Nat.le_refl _) _
  obtain ⟨c0, c1, c2, c3, c4⟩ := (hN.below gW.out hlt) i n hn
  have i0 : (0 : Int) ≤ (i : Int) := by omega
  have i1 : (i : Int) < (ns.length : Int) := by omega
  have HV : Hid (t.muV = .agg #[.string ⟨#[]⟩, .bool false]) := by show _ = _; rw [muV_form, hd, ht]; rfl
  have g1 : (n.op == 1) = false := by rw [beq_eq_false_iff_ne]; omega
  have g2 : (n.op == 2) = false := by rw [beq_eq_false_iff_ne]; omega
  have g3 : (n.op == 3) = false := by rw [beq_eq_false_iff_ne]; omega
  have g6 : (n.op == 6) = false := by rw [beq_eq_false_iff_ne]; omega
  clear hop hN ht hd
  go_enter Tryd.func18, Tryd.ntmps18
  go_upto_region 1 with fail
  generalize (w.alloc (.cells #[.string ⟨#[]⟩, .bool false] 53)) = w4 at *
  obtain ⟨m0, m1, z0, z1⟩ := fA.all
  go_wp2
  have hp := (fA.put ⟨#[]⟩ false).all
  refine bodyPost_ret (v := .agg #[.string ⟨#[]⟩, .bool false]) (by simp [results, Tryd.results18, go_sem, hp.1, hp.2.1]) rfl ⟨by rw [HV.out], ?_⟩
  exact below_putM gW.out (Nat.le_refl _) _ _
set_option maxHeartbeats 4000000 in
theorem pn_plus (ns : List Nd) (hl : ns.length ≤ 60) (b off cap i : Nat) (n : Nd) (a : Rx) (hn : ns[i]? = some n) (hi : i < ns.length) (h6 : n.op = 6) (hA : PnOk ns b off cap a (i + 1)) : PnOk ns b off cap (.one n a) i := by
  intro w hlt hN
  have fA : Hmu (w.alloc (.cells #[.string ⟨#[]⟩, .bool false] 53)) w.heap.size ⟨#[]⟩ false := Hmu.new _ _ _ _ rfl
  have gW : Hid (Below w.heap.size w (w.alloc (.cells #[.string ⟨#[]⟩, .bool false] 53))) := (Below.refl _ _).alloc (Nat.le_refl _) _
  have HN := hid hN
  have HA : Hid (∀ w', Below w.heap.size w w' → _) := fun w' hb => hA w' (Nat.lt_of_lt_of_le hlt hb.size) (hN.below hb hlt)
  rw [muV_form] at HA
  obtain ⟨c0, c1, c2, c3, c4⟩ := (hN.below gW.out hlt) i n hn
  have i0 : (0 : Int) ≤ (i : Int) := by omega
  have i1 : (i : Int) < (ns.length : Int) := by omega
  have HV : Hid ((Rx.one n a).muV = .agg #[.string ⟨a.ned.toArray⟩, .bool false]) := by
    show _ = _
    rw [muV_form, Rx.ned, if_pos h6]
    rfl
  have hk : Hid ((i : Int) + 1 = ((i + 1 : Nat) : Int)) := by show _ = _; omega
  rw [h6] at c0
  clear hN hA h6
  go_enter Tryd.func18, Tryd.ntmps18
  go_upto_region 1 with fail
  generalize (w.alloc (.cells #[.string ⟨#[]⟩, .bool false] 53)) = w4 at *
  go_wp2_with fail
  rw [hk.out]
  refine Calls.mono (HA.out _ gW.out) ?_
  rintro e w5 ⟨rfl, hb⟩
  have B := hid (gW.out.trans (hb.mono gW.out.size))
  have fB := fA.below hb fA.lt
  have hfl := fieldM
  clear fA hb
  obtain ⟨m0, m1, z0, z1⟩ := fB.all
  go_wp2
  have hp := (fB.put ⟨a.ned.toArray⟩ false).all
  refine bodyPost_ret (v := .agg #[.string ⟨a.ned.toArray⟩, .bool false]) (by simp [results, Tryd.results18, go_sem, hp.1, hp.2.1]) rfl ⟨by rw [HV.out], ?_⟩
  exact below_putM B.out (Nat.le_refl _) _ _
set_option maxHeartbeats 4000000 in
theorem pn_cat (ns : List Nd) (hf : faultL ns = 0) (hl : ns.length ≤ 60) (b off cap i : Nat) (n : Nd) (x y : Rx) (hn : ns[i]? = some n) (hi : i + 1 < ns.length) (hop : n.op = 3) (he : endE ns (i + 1) = some (i + 1 + x.flat.length)) (hxl : x.flat.length ≤ 60) (hyl : y.flat.length ≤ 60) (hX : PnOk ns b off cap x (i + 1)) (hY : PnOk ns b off cap y (i + 1 + x.flat.length)) : PnOk ns b off cap (.two n x y) i := by
  intro w hlt hN
  have fA : Hmu (w.alloc (.cells #[.string ⟨#[]⟩, .bool false] 53)) w.heap.size ⟨#[]⟩ false := Hmu.new _ _ _ _ rfl
  have gW : Hid (Below w.heap.size w (w.alloc (.cells #[.string ⟨#[]⟩, .bool false] 53))) := (Below.refl _ _).alloc (Nat.le_refl _) _
  have HX : Hid (∀ w', Below w.heap.size w w' → _) := fun w' hb => hX w' (Nat.lt_of_lt_of_le hlt hb.size) (hN.below hb hlt)
  have HY : Hid (∀ w', Below w.heap.size w w' → _) := fun w' hb => hY w' (Nat.lt_of_lt_of_le hlt hb.size) (hN.below hb hlt)
  have HBO : Hid (∀ w', Calls Tryd.prog 31 #[muV x.ned x.whl.isSome, muV y.ned y.whl.isSome] w' fun e w'' => e = .returned (Rx.two n x y).muV ∧ Below w'.heap.size w' w'') := fun w' => by
    refine Calls.mono (ofBoth_any x.ned y.ned x.whl.isSome y.whl.isSome (Nat.le_trans (ned_len x) hxl) (Nat.le_trans (ned_len y) hyl) w') ?_
    rintro e w'' ⟨rfl, hb⟩
    refine ⟨?_, hb⟩
    congr 1
    rw [muV_form, Rx.ned, Rx.whl, if_pos hop]
    cases hx : x.whl with
    | none => simp [muV, if_pos hop]
    | some p =>
      cases hy : y.whl with
      | none => simp [muV, if_pos hop]
      | some q => simp [muV, ned_whl hx, ned_whl hy]
  have HEN : Hid (∀ w', Below w.heap.size w w' → _) := fun w' hb => rend_any ns (.slice (some ⟨b, off, none⟩) ns.length cap) ((i + 1 : Nat) : Int) w' ⟨_, _, rfl, by unfold maxLen; omega, Or.inr ⟨b, off, rfl, Nat.lt_of_lt_of_le hlt hb.size, hN.below hb hlt⟩⟩
  obtain ⟨q1, q2⟩ := rexEnd_in ns ((i + 1 : Nat) : Int) hf (by omega) (by omega)
  rw [q1, q2, Int.toNat_natCast, he, show endI (some (i + 1 + x.flat.length)) = ((i + 1 + x.flat.length : Nat) : Int) from rfl, show errV 0 = .nilIface from rfl] at HEN
  obtain ⟨l, f, HF⟩ : ∃ l f, Hid ((Rx.two n x y).muV = .agg #[.string ⟨l⟩, .bool f]) := ⟨_, _, Eq.refl _⟩
  rw [HF.out] at HBO
  rw [muV_form] at HX HY
  unfold muV at HBO
  obtain ⟨c0, c1, c2, c3, c4⟩ := (hN.below gW.out hlt) i n hn
  have i0 : (0 : Int) ≤ (i : Int) := by omega
  have i1 : (i : Int) < (ns.length : Int) := by omega
  have hk : Hid ((i : Int) + 1 = ((i + 1 : Nat) : Int)) := by show _ = _; omega
  rw [hop] at c0
  clear hN hop hX hY q1 q2 he
  go_enter Tryd.func18, Tryd.ntmps18
  go_upto_region 1 with fail
  generalize (w.alloc (.cells #[.string ⟨#[]⟩, .bool false] 53)) = w4 at *
  go_wp2_with fail
  rw [hk.out]
  refine Calls.mono (HEN.out _ gW.out) ?_
  rintro e w5 ⟨rfl, hb⟩
  have B := hid (gW.out.trans (hb.mono gW.out.size))
  have fB := fA.below hb fA.lt
  clear fA hb gW c0 c1 c2 c3 c4
  go_wp2_with fail
  rw [hk.out]
  refine Calls.mono (HX.out _ B.out) ?_
  rintro e w6 ⟨rfl, hb⟩
  replace B := hid (B.out.trans (hb.mono B.out.size))
  replace fB := fB.below hb fB.lt
  clear hb
  go_wp2_with fail
  refine Calls.mono (HY.out _ B.out) ?_
  rintro e w7 ⟨rfl, hb⟩
  replace B := hid (B.out.trans (hb.mono B.out.size))
  replace fB := fB.below hb fB.lt
  clear hb
  go_wp2_with fail
  refine Calls.mono (HBO.out _) ?_
  rintro e w8 ⟨rfl, hb⟩
  replace B := hid (B.out.trans (hb.mono B.out.size))
  replace fB := fB.below hb fB.lt
  clear hb
  obtain ⟨m0, m1, z0, z1⟩ := fB.all
  go_wp2
  have hp := (fB.put ⟨l⟩ f).all
  refine bodyPost_ret (v := .agg #[.string ⟨l⟩, .bool f]) (by simp [results, Tryd.results18, go_sem, hp.1, hp.2.1]) rfl ⟨by rw [HF.out], ?_⟩
  exact below_putM B.out (Nat.le_refl _) _ _
end Go.Proofs.YtlejbnmeeonblaaDoor
namespace Go.Proofs.YtlejbnmeeonblaaDoor
set_option linter.unusedSimpArgs false
set_option linter.unusedVariables false
set_option maxRecDepth 100000
open Go.RowKit
/-- ofPart at every tree. -/
theorem pn_tree (b off cap : Nat) : ∀ (t : Rx), t.Ok → ∀ (p q : List Nd), faultL (p ++ t.flat ++ q) = 0 → (∀ n ∈ t.flat, (1 ≤ n.op ∧ n.op ≤ 9) ∧ n.c.ok) → (p ++ t.flat ++ q).length ≤ 60 → PnOk (p ++ t.flat ++ q) b off cap t p.length
  | .leaf n, h, p, q, hf, ho, hl => by
    have h1 := ho n (by simp [Rx.flat])
    refine pn_leaf _ hl b off cap p.length n (by simp [Rx.flat]) (by simp [Rx.flat]) h1.2 ?_
    have h0 : prt n.op = 0 := h
    have h2 : ¬ prt n.op = 2 := by omega
    have h3 : ¬ prt n.op = 1 := by omega
    rw [prt_two] at h2
    rw [prt_one] at h3
    omega
  | .one n a, h, p, q, hf, ho, hl => by
    by_cases h6 : n.op = 6
    · have e : p ++ (Rx.one n a).flat ++ q = (p ++ [n]) ++ a.flat ++ q := by simp [Rx.flat]
      have ih := pn_tree b off cap a h.2 (p ++ [n]) q (by rw [← e]; exact hf) (fun m hm => ho m (by simp [Rx.flat, hm])) (by rw [← e]; exact hl)
      rw [← e, show (p ++ [n]).length = p.length + 1 from by simp] at ih
      exact pn_plus _ hl b off cap p.length n a (by simp [Rx.flat]) (by simp [Rx.flat]) h6 ih
    · have hop := (prt_one n.op).1 h.1
      exact pn_none _ hl b off cap p.length n _ rfl (by rw [Rx.ned, if_neg h6]) (by simp [Rx.flat]) (by simp [Rx.flat]) (by omega)
  | .two n x y, h, p, q, hf, ho, hl => by
    have e1 : p ++ (Rx.two n x y).flat ++ q = (p ++ [n]) ++ x.flat ++ (y.flat ++ q) := by simp [Rx.flat]
    have e2 : p ++ (Rx.two n x y).flat ++ q = (p ++ [n] ++ x.flat) ++ y.flat ++ q := by simp [Rx.flat]
    rcases (prt_two n.op).1 h.1 with hop | hop
    · have ih1 := pn_tree b off cap x h.2.1 (p ++ [n]) (y.flat ++ q) (by rw [← e1]; exact hf) (fun m hm => ho m (by simp [Rx.flat, hm])) (by rw [← e1]; exact hl)
      have ih2 := pn_tree b off cap y h.2.2 (p ++ [n] ++ x.flat) q (by rw [← e2]; exact hf) (fun m hm => ho m (by simp [Rx.flat, hm])) (by rw [← e2]; exact hl)
      rw [← e1, show (p ++ [n]).length = p.length + 1 from by simp] at ih1
      rw [← e2, show (p ++ [n] ++ x.flat).length = p.length + 1 + x.flat.length from by simp; omega] at ih2
      have hb : x.flat.length ≤ 60 ∧ y.flat.length ≤ 60 := by
        rw [e1] at hl
        simp at hl
        omega
      have hpx := x.flat_pos
      exact pn_cat _ hf hl b off cap p.length n x y (by simp [Rx.flat]) (by simp [Rx.flat]; omega) hop (end_at p q n x y h.2.1 _ rfl) hb.1 hb.2 ih1 ih2
    · have hw : (Rx.two n x y).whl = none := by rw [Rx.whl, if_neg (by omega)]
      exact pn_none _ hl b off cap p.length n _ hw (by rw [Rx.ned, hw]; simp only; rw [if_neg (by omega)]) (by simp [Rx.flat]) (by simp [Rx.flat]) (by omega)
theorem ofPart_any (t : Rx) (ht : t.Ok) (hf : faultL t.flat = 0) (hok : ∀ n ∈ t.flat, n.wf) (v : Value) (w : World) (h : NsIn w v t.flat) :
    Calls Tryd.prog 18 #[v, .int .i64 0] w fun e w' => e = .returned t.muV ∧ Below w.heap.size w w' := by
  obtain ⟨h60, hops, -⟩ := (faultL_zero t.flat).1 hf
  have hpos := t.flat_pos
  obtain ⟨a, cap, rfl, hm, h | ⟨b, off, rfl, hlt, hn⟩⟩ := h
  · rw [h] at hpos; simp at hpos
  · have := pn_tree b off cap t ht [] [] (by simpa using hf) (fun n hn => ⟨(hops n hn).1, C4.wf_ok (hok n hn).2⟩) (by simpa using h60)
    simp only [List.nil_append, List.append_nil, List.length_nil] at this
    exact this w hlt hn
set_option maxHeartbeats 4000000 in
theorem needed_bad (ns : List Nd) (v : Value) (w : World) (hN : NsIn w v ns) (hf : ¬ faultL ns = 0) : Calls Tryd.prog 10 #[v] w fun e w' => e = .returned (.tuple #[.string ⟨#[]⟩, errV (faultL ns)]) ∧ Below w.heap.size w w' := by
  have CC : Hid _ := rcheck_any ns v w hN
  rw [show errV (faultL ns) = .iface 23 (.int .i64 (faultL ns)) from if_neg hf] at CC ⊢
  clear hf hN
  generalize faultL ns = ft at *
  go_enter Tryd.func10, Tryd.ntmps10
  go_wp2_with fail
  refine Calls.mono CC.out ?_
  rintro e w1 ⟨rfl, hb⟩
  have B := hid hb
  clear hb CC
  go_wp2
  go_ret2
  exact ⟨rfl, B.out⟩
set_option maxHeartbeats 4000000 in
theorem whole_bad (ns : List Nd) (v : Value) (w : World) (hN : NsIn w v ns) (hf : ¬ faultL ns = 0) : Calls Tryd.prog 8 #[v] w fun e w' => e = .returned (.tuple #[.string ⟨#[]⟩, .bool false, errV (faultL ns)]) ∧ Below w.heap.size w w' := by
  have CC : Hid _ := rcheck_any ns v w hN
  rw [show errV (faultL ns) = .iface 23 (.int .i64 (faultL ns)) from if_neg hf] at CC ⊢
  clear hf hN
  generalize faultL ns = ft at *
  go_enter Tryd.func8, Tryd.ntmps8
  go_wp2_with fail
  refine Calls.mono CC.out ?_
  rintro e w1 ⟨rfl, hb⟩
  have B := hid hb
  clear hb CC
  go_wp2
  go_ret3
  exact ⟨rfl, B.out⟩
set_option maxHeartbeats 4000000 in
theorem needed_any (t : Rx) (v : Value) (w : World) (ht : t.Ok) (hN : NsIn w v t.flat) (hok : ∀ n ∈ t.flat, n.wf) (hf : faultL t.flat = 0) : Calls Tryd.prog 10 #[v] w fun e w' => e = .returned (.tuple #[.string ⟨t.ned.toArray⟩, .nilIface]) ∧ Below w.heap.size w w' := by
  have CC : Hid _ := rcheck_any t.flat v w hN
  rw [hf, show errV 0 = .nilIface from rfl] at CC
  have HP : Hid (∀ w', Below w.heap.size w w' → _) := fun w' hb => ofPart_any t ht hf hok v w' (hN.below hb)
  rw [muV_form] at HP
  clear hf hN hok ht
  have hfl := fieldM
  go_enter Tryd.func10, Tryd.ntmps10
  go_wp2_with fail
  refine Calls.mono CC.out ?_
  rintro e w1 ⟨rfl, hb⟩
  have B := hid hb
  clear hb CC
  go_wp2_with fail
  refine Calls.mono (HP.out _ B.out) ?_
  rintro e w2 ⟨rfl, hb⟩
  replace B := hid (B.out.trans (hb.mono B.out.size))
  clear hb HP
  go_wp2
  go_ret2
  exact ⟨rfl, B.out⟩
set_option maxHeartbeats 4000000 in
theorem whole_any (t : Rx) (v : Value) (w : World) (ht : t.Ok) (hN : NsIn w v t.flat) (hok : ∀ n ∈ t.flat, n.wf) (hf : faultL t.flat = 0) : Calls Tryd.prog 8 #[v] w fun e w' => e = .returned (.tuple #[.string ⟨(t.whl.getD []).toArray⟩, .bool t.whl.isSome, .nilIface]) ∧ Below w.heap.size w w' := by
  have CC : Hid _ := rcheck_any t.flat v w hN
  rw [hf, show errV 0 = .nilIface from rfl] at CC
  have HP : Hid (∀ w', Below w.heap.size w w' → _) := fun w' hb => ofPart_any t ht hf hok v w' (hN.below hb)
  rw [muV_form] at HP
  clear hf hN hok ht
  have hnw : ∀ x, t.whl = some x → t.ned = x := fun x h => ned_whl h
  cases hx : t.whl with
  | none =>
    rw [hx] at HP
    simp only [Option.isSome_none, Option.getD_none] at HP ⊢
    clear hnw hx
    go_enter Tryd.func8, Tryd.ntmps8
    go_wp2_with fail
    refine Calls.mono CC.out ?_
    rintro e w1 ⟨rfl, hb⟩
    have B := hid hb
    clear hb CC
    go_wp2_with fail
    refine Calls.mono (HP.out _ B.out) ?_
    rintro e w2 ⟨rfl, hb⟩
    replace B := hid (B.out.trans (hb.mono B.out.size))
    clear hb HP
    have HB2 := hid (fun o => B.out.alloc B.out.size o)
    clear B
    go_wp2
    go_ret3
    exact ⟨rfl, HB2.out _⟩
  | some x =>
    rw [hx, hnw x hx] at HP
    simp only [Option.isSome_some, Option.getD_some] at HP ⊢
    clear hnw hx
    go_enter Tryd.func8, Tryd.ntmps8
    go_wp2_with fail
    refine Calls.mono CC.out ?_
    rintro e w1 ⟨rfl, hb⟩
    have B := hid hb
    clear hb CC
    go_wp2_with fail
    refine Calls.mono (HP.out _ B.out) ?_
    rintro e w2 ⟨rfl, hb⟩
    replace B := hid (B.out.trans (hb.mono B.out.size))
    clear hb HP
    have HB2 := hid (fun o => B.out.alloc B.out.size o)
    clear B
    go_wp2
    go_ret3
    exact ⟨rfl, HB2.out _⟩
theorem litN (X : World → Prop) : LitN X where
  bad := fun ns v w hN _ hf => needed_bad ns v w hN hf
  need := fun t v w _ ht hN hok hf => needed_any t v w ht hN hok hf
theorem litW (X : World → Prop) : LitW X where
  bad := fun ns v w hN _ hf => whole_bad ns v w hN hf
  whole := fun t v w _ ht hN hok hf => whole_any t v w ht hN hok hf
end Go.Proofs.YtlejbnmeeonblaaDoor

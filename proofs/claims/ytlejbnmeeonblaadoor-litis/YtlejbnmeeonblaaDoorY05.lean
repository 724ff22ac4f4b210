/- What the document's own functions answer: NeededOf. What the document's own Count answers, as a class is none. What the document's own functions answer: Fault. Small facts on lists of nodes in memory. The law LitIs, walked from what the document asks of package lit. (Made by wip/tools/genlis.py.) class.with. class.Of. The landed lit: what a byte needs. -/
import Derived.Test.YtlejbnmeeonblaaDoorY04
import Derived.Test.YtlejbnmeeonblaaDoorY02
import Derived.Test.YtlejbnmeeonblaaDoorY03
import Derived.Test.YtlejbnmeeonblaaDoorY01
namespace Go.Proofs.YtlejbnmeeonblaaDoor
set_option linter.unusedSimpArgs false
set_option linter.unusedVariables false
set_option maxRecDepth 100000
open Go.RowKit
theorem ned_whl {t : Rx} {x : List UInt8} (h : t.whl = some x) : t.ned = x := by
  cases t with
  | leaf n => unfold Rx.ned; rw [h]; rfl
  | one n a => simp [Rx.whl] at h
  | two n a b => unfold Rx.ned; rw [h]
theorem ned_len : ∀ (t : Rx), t.ned.length ≤ t.flat.length
  | .leaf n => by
    unfold Rx.ned
    cases h : (Rx.leaf n).whl with
    | none => simp
    | some x => simpa using whl_len _ x h
  | .one n a => by
    unfold Rx.ned
    have := ned_len a
    split
    · simp [Rx.flat]; omega
    · simp
  | .two n a b => by
    unfold Rx.ned
    cases h : (Rx.two n a b).whl with
    | some x => exact whl_len _ x h
    | none =>
      simp only
      have h1 := ned_len a
      have h2 := ned_len b
      split
      · rcases longer_cases a.ned b.ned with e | e <;> rw [e] <;> simp [Rx.flat] <;> omega
      · simp
/-- NeededOf answers of the part at i as the tree t says. -/
def NeOk (ns : List Nd) (b off cap : Nat) (t : Rx) (i : Nat) : Prop := ∀ w : World, b < w.heap.size → NsAt w b off ns →
  Calls Tryd.prog 7 #[.slice (some ⟨b, off, none⟩) ns.length cap, .int .i64 (i : Int)] w fun e w' => e = .returned (.string ⟨t.ned.toArray⟩) ∧ Below w.heap.size w w'
set_option maxHeartbeats 4000000 in
theorem ne_whole (ns : List Nd) (hl : ns.length ≤ 60) (b off cap i : Nat) (t : Rx) (x : List UInt8) (hx : t.whl = some x) (hi : i < ns.length) (hW : WhOk ns b off cap t i) : NeOk ns b off cap t i := by
  intro w hlt hN
  have HW := hid (hW w hlt hN)
  unfold whV at HW
  rw [ned_whl hx]
  rw [hx] at HW
  simp only [Option.getD_some, Option.isSome_some] at HW
  clear hW hN
  go_enter Tryd.func7, Tryd.ntmps7
  go_wp2_with fail
  refine Calls.mono HW.out ?_
  rintro e w1 ⟨rfl, hb⟩
  have B := hid hb
  clear hb
  go_wp2
  go_ret
  exact ⟨rfl, B.out⟩
set_option maxHeartbeats 4000000 in
theorem ne_nothing (ns : List Nd) (hl : ns.length ≤ 60) (b off cap i : Nat) (n : Nd) (t : Rx) (hx : t.whl = none) (hd : t.ned = []) (hn : ns[i]? = some n) (hi : i < ns.length) (h3 : n.op ≠ 3) (h6 : n.op ≠ 6) (hW : WhOk ns b off cap t i) : NeOk ns b off cap t i := by
  intro w hlt hN
  have HW := hid (hW w hlt hN)
  unfold whV at HW
  rw [hx] at HW
  simp only [Option.getD_none, Option.isSome_none] at HW
  rw [hd]
  have HN := hid hN
  have i0 : (0 : Int) ≤ (i : Int) := by omega
  have i1 : (i : Int) < (ns.length : Int) := by omega
  have g3 : (n.op == 3) = false := by simp [h3]
  have g6 : (n.op == 6) = false := by simp [h6]
  clear hW hN h3 h6
  go_enter Tryd.func7, Tryd.ntmps7
  go_wp2_with fail
  refine Calls.mono HW.out ?_
  rintro e w1 ⟨rfl, hb⟩
  have B := hid hb
  obtain ⟨c0, c1, c2, c3, c4⟩ := (HN.out.below hb hlt) i n hn
  clear hb
  go_wp2
  go_ret
  exact ⟨rfl, B.out⟩
set_option maxHeartbeats 4000000 in
theorem ne_plus (ns : List Nd) (hl : ns.length ≤ 60) (b off cap i : Nat) (n : Nd) (a : Rx) (hn : ns[i]? = some n) (hi : i < ns.length) (h6 : n.op = 6) (hW : WhOk ns b off cap (.one n a) i) (hA : NeOk ns b off cap a (i + 1)) : NeOk ns b off cap (.one n a) i := by
  intro w hlt hN
  have HW := hid (hW w hlt hN)
  unfold whV at HW
  rw [show (Rx.one n a).whl = none from rfl] at HW
  simp only [Option.getD_none, Option.isSome_none] at HW
  have HA : Hid (∀ w', Below w.heap.size w w' → _) := fun w' hb => hA w' (Nat.lt_of_lt_of_le hlt hb.size) (hN.below hb hlt)
  have HD : Hid ((Rx.one n a).ned = a.ned) := by show _ = _; rw [Rx.ned, if_pos h6]
  rw [HD.out]
  have HN := hid hN
  have i0 : (0 : Int) ≤ (i : Int) := by omega
  have i1 : (i : Int) < (ns.length : Int) := by omega
  have hk : Hid ((i : Int) + 1 = ((i + 1 : Nat) : Int)) := by show _ = _; omega
  have g3 : (n.op == 3) = false := by simp [h6]
  have g6 : (n.op == 6) = true := by simp [h6]
  clear hW hN h6 hA
  go_enter Tryd.func7, Tryd.ntmps7
  go_wp2_with fail
  refine Calls.mono HW.out ?_
  rintro e w1 ⟨rfl, hb⟩
  have B := hid hb
  obtain ⟨c0, c1, c2, c3, c4⟩ := (HN.out.below hb hlt) i n hn
  clear hb
  go_wp2_with fail
  rw [hk.out]
  refine Calls.mono (HA.out _ B.out) ?_
  rintro e w2 ⟨rfl, hb⟩
  replace B := hid (B.out.trans (hb.mono B.out.size))
  clear hb
  go_wp2
  go_ret
  exact ⟨rfl, B.out⟩
set_option maxHeartbeats 4000000 in
theorem ne_cat (ns : List Nd) (hl : ns.length ≤ 60) (b off cap i : Nat) (n : Nd) (x y : Rx) (hw : (Rx.two n x y).whl = none) (hn : ns[i]? = some n) (hi : i < ns.length) (hop : n.op = 3) (he : endE ns (i + 1) = some (i + 1 + x.flat.length)) (hxl : x.flat.length ≤ 60) (hyl : y.flat.length ≤ 60) (hW : WhOk ns b off cap (.two n x y) i) (hX : NeOk ns b off cap x (i + 1)) (hY : NeOk ns b off cap y (i + 1 + x.flat.length)) : NeOk ns b off cap (.two n x y) i := by
  intro w hlt hN
  have HW := hid (hW w hlt hN)
  unfold whV at HW
  rw [hw] at HW
  simp only [Option.getD_none, Option.isSome_none] at HW
  have HX : Hid (∀ w', Below w.heap.size w w' → _) := fun w' hb => hX w' (Nat.lt_of_lt_of_le hlt hb.size) (hN.below hb hlt)
  have HY : Hid (∀ w', Below w.heap.size w w' → _) := fun w' hb => hY w' (Nat.lt_of_lt_of_le hlt hb.size) (hN.below hb hlt)
  have HEN : Hid (∀ w', Below w.heap.size w w' → _) := fun w' hb => endOf_any ns (.slice (some ⟨b, off, none⟩) ns.length cap) (i + 1) w' ⟨_, _, rfl, by unfold maxLen; omega, Or.inr ⟨b, off, rfl, Nat.lt_of_lt_of_le hlt hb.size, hN.below hb hlt⟩⟩
  rw [he, show endI (some (i + 1 + x.flat.length)) = ((i + 1 + x.flat.length : Nat) : Int) from rfl] at HEN
  have HD : Hid ((Rx.two n x y).ned = longer x.ned y.ned) := by show _ = _; rw [Rx.ned, hw]; simp only; rw [if_pos hop]
  rw [HD.out]
  have HN := hid hN
  have hlx := ned_len x
  have hly := ned_len y
  have s1 : (⟨x.ned.toArray⟩ : ByteArray).size = x.ned.length := size_str _
  have s2 : (⟨y.ned.toArray⟩ : ByteArray).size = y.ned.length := size_str _
  have i0 : (0 : Int) ≤ (i : Int) := by omega
  have i1 : (i : Int) < (ns.length : Int) := by omega
  have hk : Hid ((i : Int) + 1 = ((i + 1 : Nat) : Int)) := by show _ = _; omega
  have g3 : (n.op == 3) = true := by simp [hop]
  clear hW hN hop hX hY he hw
  go_enter Tryd.func7, Tryd.ntmps7
  go_wp2_with fail
  refine Calls.mono HW.out ?_
  rintro e w1 ⟨rfl, hb⟩
  have B := hid hb
  obtain ⟨c0, c1, c2, c3, c4⟩ := (HN.out.below hb hlt) i n hn
  clear hb
  go_wp2_with fail
  rw [hk.out]
  refine Calls.mono (HX.out _ B.out) ?_
  rintro e w2 ⟨rfl, hb⟩
  replace B := hid (B.out.trans (hb.mono B.out.size))
  clear hb c0 c1 c2 c3 c4
  go_wp2_with fail
  rw [hk.out]
  refine Calls.mono (HEN.out _ B.out) ?_
  rintro e w3 ⟨rfl, rfl⟩
  go_wp2_with fail
  refine Calls.mono (HY.out _ B.out) ?_
  rintro e w4 ⟨rfl, hb⟩
  replace B := hid (B.out.trans (hb.mono B.out.size))
  clear hb
  by_cases hc : x.ned.length < y.ned.length
  · have g4 : ((⟨x.ned.toArray⟩ : ByteArray).size : Int) < ((⟨y.ned.toArray⟩ : ByteArray).size : Int) := by rw [s1, s2]; omega
    have HL : Hid (longer x.ned y.ned = y.ned) := by show _ = _; unfold longer; rw [if_pos hc]
    have hcd : decide (x.ned.length < y.ned.length) = true := by simp only [hc, decide_true, decide_false]
    clear s1 s2 g4
    go_wp2
    go_ret
    exact ⟨by rw [HL.out]; rfl, B.out⟩
  · have g4 : ¬ ((⟨x.ned.toArray⟩ : ByteArray).size : Int) < ((⟨y.ned.toArray⟩ : ByteArray).size : Int) := by rw [s1, s2]; omega
    have HL : Hid (longer x.ned y.ned = x.ned) := by show _ = _; unfold longer; rw [if_neg hc]
    have hcd : decide (x.ned.length < y.ned.length) = false := by simp only [hc, decide_true, decide_false]
    clear s1 s2 g4
    go_wp2
    go_ret
    exact ⟨by rw [HL.out]; rfl, B.out⟩
/-- NeededOf at every tree. -/
theorem ne_tree (b off cap : Nat) : ∀ (t : Rx), t.Ok → ∀ (p q : List Nd), (∀ n ∈ t.flat, (1 ≤ n.op ∧ n.op ≤ 9) ∧ n.c.ok) → (p ++ t.flat ++ q).length ≤ 60 → NeOk (p ++ t.flat ++ q) b off cap t p.length
  | .leaf n, h, p, q, ho, hl => by
    have hW := wh_tree b off cap (.leaf n) h p q ho hl
    cases hx : (Rx.leaf n).whl with
    | some x => exact ne_whole _ hl b off cap p.length _ x hx (by simp [Rx.flat]) hW
    | none =>
      have h0 : prt n.op = 0 := h
      have h2 : ¬ prt n.op = 2 := by omega
      have h3 : ¬ prt n.op = 1 := by omega
      rw [prt_two] at h2
      rw [prt_one] at h3
      exact ne_nothing _ hl b off cap p.length n _ hx (by unfold Rx.ned; rw [hx]; rfl) (by simp [Rx.flat]) (by simp [Rx.flat]) (by omega) (by omega) hW
  | .one n a, h, p, q, ho, hl => by
    have hW := wh_tree b off cap (.one n a) h p q ho hl
    by_cases h6 : n.op = 6
    · have e : p ++ (Rx.one n a).flat ++ q = (p ++ [n]) ++ a.flat ++ q := by simp [Rx.flat]
      have ih := ne_tree b off cap a h.2 (p ++ [n]) q (fun m hm => ho m (by simp [Rx.flat, hm])) (by rw [← e]; exact hl)
      rw [← e, show (p ++ [n]).length = p.length + 1 from by simp] at ih
      exact ne_plus _ hl b off cap p.length n a (by simp [Rx.flat]) (by simp [Rx.flat]) h6 hW ih
    · have hop := (prt_one n.op).1 h.1
      exact ne_nothing _ hl b off cap p.length n _ rfl (by rw [Rx.ned, if_neg h6]) (by simp [Rx.flat]) (by simp [Rx.flat]) (by omega) h6 hW
  | .two n x y, h, p, q, ho, hl => by
    have hW := wh_tree b off cap (.two n x y) h p q ho hl
    cases hw : (Rx.two n x y).whl with
    | some z => exact ne_whole _ hl b off cap p.length _ z hw (by simp [Rx.flat]) hW
    | none =>
      have e1 : p ++ (Rx.two n x y).flat ++ q = (p ++ [n]) ++ x.flat ++ (y.flat ++ q) := by simp [Rx.flat]
      have e2 : p ++ (Rx.two n x y).flat ++ q = (p ++ [n] ++ x.flat) ++ y.flat ++ q := by simp [Rx.flat]
      rcases (prt_two n.op).1 h.1 with hop | hop
      · have ih1 := ne_tree b off cap x h.2.1 (p ++ [n]) (y.flat ++ q) (fun m hm => ho m (by simp [Rx.flat, hm])) (by rw [← e1]; exact hl)
        have ih2 := ne_tree b off cap y h.2.2 (p ++ [n] ++ x.flat) q (fun m hm => ho m (by simp [Rx.flat, hm])) (by rw [← e2]; exact hl)
        rw [← e1, show (p ++ [n]).length = p.length + 1 from by simp] at ih1
        rw [← e2, show (p ++ [n] ++ x.flat).length = p.length + 1 + x.flat.length from by simp; omega] at ih2
        have hb : x.flat.length ≤ 60 ∧ y.flat.length ≤ 60 := by
          rw [e1] at hl
          simp at hl
          omega
        exact ne_cat _ hl b off cap p.length n x y hw (by simp [Rx.flat]) (by simp [Rx.flat]) hop (end_at p q n x y h.2.1 _ rfl) hb.1 hb.2 hW ih1 ih2
      · exact ne_nothing _ hl b off cap p.length n _ hw (by rw [Rx.ned, hw]; simp only; rw [if_neg (by omega)]) (by simp [Rx.flat]) (by simp [Rx.flat]) (by omega) (by omega) hW
/-- What the two answer of a pattern that may be. -/
theorem wholeOf_any (t : Rx) (ht : t.Ok) (hf : faultL t.flat = 0) (hok : ∀ n ∈ t.flat, n.c.ok) (v : Value) (w : World) (h : NsIn w v t.flat) :
    Calls Tryd.prog 6 #[v, .int .i64 0] w fun e w' => e = .returned (whV t) ∧ Below w.heap.size w w' := by
  obtain ⟨h60, hops, -⟩ := (faultL_zero t.flat).1 hf
  have hpos := t.flat_pos
  obtain ⟨a, cap, rfl, hm, h | ⟨b, off, rfl, hlt, hn⟩⟩ := h
  · rw [h] at hpos; simp at hpos
  · have := wh_tree b off cap t ht [] [] (fun n hn => ⟨(hops n hn).1, hok n hn⟩) (by simpa using h60)
    simp only [List.nil_append, List.append_nil, List.length_nil] at this
    exact this w hlt hn
theorem neededOf_any (t : Rx) (ht : t.Ok) (hf : faultL t.flat = 0) (hok : ∀ n ∈ t.flat, n.c.ok) (v : Value) (w : World) (h : NsIn w v t.flat) :
    Calls Tryd.prog 7 #[v, .int .i64 0] w fun e w' => e = .returned (.string ⟨t.ned.toArray⟩) ∧ Below w.heap.size w w' := by
  obtain ⟨h60, hops, -⟩ := (faultL_zero t.flat).1 hf
  have hpos := t.flat_pos
  obtain ⟨a, cap, rfl, hm, h | ⟨b, off, rfl, hlt, hn⟩⟩ := h
  · rw [h] at hpos; simp at hpos
  · have := ne_tree b off cap t ht [] [] (fun n hn => ⟨(hops n hn).1, hok n hn⟩) (by simpa using h60)
    simp only [List.nil_append, List.append_nil, List.length_nil] at this
    exact this w hlt hn
end Go.Proofs.YtlejbnmeeonblaaDoor
namespace Go.Proofs.YtlejbnmeeonblaaDoor
set_option linter.unusedSimpArgs false
set_option linter.unusedVariables false
set_option maxRecDepth 100000
open Go.RowKit
theorem count_b (k : C4) (hk : k.ok) (w : World) :
    Calls Tryd.prog 14 #[k.v] w fun e w' => ∃ c : Nat, e = .returned (.int .i64 c) ∧ Hid (((0 : Int) < (c : Int)) ↔ ¬ k.eqb z4 = true) ∧ c ≤ 256 ∧ Below w.heap.size w w' := by
  refine (count_any k hk w).mono ?_
  rintro e w' ⟨rfl, hb⟩
  exact ⟨cnt k.has 256, rfl, cnt_zero_iff hk, cnt_le _ _, hb⟩
end Go.Proofs.YtlejbnmeeonblaaDoor
namespace Go.Proofs.YtlejbnmeeonblaaDoor
set_option linter.unusedSimpArgs false
set_option linter.unusedVariables false
set_option maxRecDepth 100000
open Go.RowKit

set_option maxHeartbeats 4000000 in
theorem fault_at (ns : List Nd) (ho : NdOk ns) (b off cap : Nat) (hm : ns.length ≤ maxLen) (w : World) (hlt : b < w.heap.size) (hN : NsAt w b off ns) (h0 : 0 < ns.length) :
    Calls Tryd.prog 5 #[.slice (some ⟨b, off, none⟩) ns.length cap] w fun e w' => e = .returned (.int .i64 (faultL ns)) ∧ Below w.heap.size w w' := by
  have HM := (show Hid _ from hm)
  unfold maxLen at hm
  by_cases h60 : 60 < ns.length
  · have g60 : (60 : Int) < (ns.length : Int) := by omega
    have HF : Hid (faultL ns = 3) := by show _ = _; rw [faultL, if_pos h60]
    go_enter Tryd.func5, Tryd.ntmps5
    go_wp2
    go_ret
    exact ⟨by rw [HF.out]; rfl, Below.refl _ _⟩
  · have g60 : ¬ (60 : Int) < (ns.length : Int) := by omega
    go_enter Tryd.func5, Tryd.ntmps5
    go_wp2
    go_loopw [3] (fun v wr => ∃ i : Nat, i ≤ ns.length ∧ v = .int .i64 i ∧ Hid (scanL ns = scanL (ns.drop i)) ∧ Below w.heap.size w wr) (fun v _ => ns.length - (intOf v).toNat)
    case atStart => exact ⟨0, by omega, rfl, Eq.refl _, Below.refl _ _⟩
    case round =>
      obtain ⟨i, hi, rfl, HS, hB⟩ := hrel
      have hNr := hN.below hB hlt
      by_cases hil : i < ns.length
      · obtain ⟨n, hn⟩ : ∃ n, ns[i]? = some n := ⟨ns[i], List.getElem?_eq_getElem hil⟩
        have hno : n.c.ok := ho n (List.mem_of_getElem? hn)
        obtain ⟨c0, c1, c2, c3, c4⟩ := hNr i n hn
        have HD : Hid _ := scan_drop ns i n hn
        have i0 : (0 : Int) ≤ (i : Int) := by omega
        have i1 : (i : Int) < (ns.length : Int) := by omega
        clear hn
        by_cases hr : n.op < 1 ∨ 9 < n.op
        · have HF : Hid (faultL ns = 1) := by
            show _ = _
            have e1 : scanL ns = 1 := by rw [HS.out, HD.out, if_pos hr]
            rw [faultL, if_neg h60, e1]; rfl
          rcases hr with hr | hr
          · go_wp2
            go_ret
            exact ⟨by rw [HF.out]; rfl, hB⟩
          · have hr2 : ¬ n.op < 1 := by omega
            go_wp2
            go_ret
            exact ⟨by rw [HF.out]; rfl, hB⟩
        · have hr1 : ¬ n.op < 1 := by omega
          have hr2 : ¬ 9 < n.op := by omega
          by_cases hb1 : n.op = 1
          · have hb2 : (n.op != 1) = false := by simp [hb1]
            have HS2 : Hid (scanL ns = scanL (ns.drop (i + 1))) := by
              show _ = _
              rw [HS.out, HD.out, if_neg hr, if_neg (by simp [hb1])]
            clear hb1
            go_wp2
            exact ⟨⟨i + 1, by omega, by go_num, HS2, hB⟩, by simp [intOf]; omega⟩
          · have hb2 : (n.op != 1) = true := by simp [hb1]
            go_wp2_with fail
            refine (count_b n.c hno _).mono ?_
            rintro e w1 ⟨c, rfl, HC, hc, hb3⟩
            have hB1 := hB.trans (hb3.mono hB.size)
            by_cases hz : n.c.eqb z4 = true
            · have gz : ¬ (0 : Int) < (c : Int) := fun h => (HC.out.1 h) hz
              have HS2 : Hid (scanL ns = scanL (ns.drop (i + 1))) := by
                show _ = _
                rw [HS.out, HD.out, if_neg hr, if_neg (by simp [hz])]
              clear hz
              go_wp2
              exact ⟨⟨i + 1, by omega, by go_num, HS2, hB1⟩, by simp [intOf]; omega⟩
            · have gz : (0 : Int) < (c : Int) := HC.out.2 hz
              have HF : Hid (faultL ns = 2) := by
                show _ = _
                have e1 : scanL ns = 2 := by rw [HS.out, HD.out, if_neg hr, if_pos ⟨hb1, hz⟩]
                rw [faultL, if_neg h60, e1]; rfl
              clear hz
              go_wp2
              go_ret
              exact ⟨by rw [HF.out]; rfl, hB1⟩
      · have hi2 : i = ns.length := by omega
        subst hi2
        have e0 : scanL ns = 0 := by rw [HS.out, List.drop_length]; rfl
        have z0 : ((ns.length : Int) == 0) = false := by rw [beq_eq_false_iff_ne]; omega
        have hne : ns ≠ [] := by intro e; rw [e] at h0; simp at h0
        have HF : Hid (faultL ns = if endE ns 0 ≠ some ns.length then 2 else 0) := by
          show _ = _
          rw [faultL, if_neg h60, e0]
          simp [hne]
        clear e0 hne
        go_wp2_with fail
        refine (endOf_any ns _ 0 _ ⟨_, cap, rfl, HM.out, Or.inr ⟨b, off, rfl, Nat.lt_of_lt_of_le hlt hB.size, hNr⟩⟩).mono ?_
        rintro e w1 ⟨rfl, rfl⟩
        cases he : endE ns 0 with
        | none =>
          have HF2 : Hid (faultL ns = 2) := by show _ = _; rw [HF.out, he]; simp
          have q : ((-1 : Int) != (ns.length : Int)) = true := by rw [bne_iff_ne]; omega
          simp only [endI]
          clear he
          go_wp2
          go_ret
          exact ⟨by rw [HF2.out]; rfl, hB⟩
        | some j =>
          by_cases hj : j = ns.length
          · have HF2 : Hid (faultL ns = 0) := by show _ = _; rw [HF.out, he, hj]; simp
            simp only [endI]
            have q : ((j : Int) != (ns.length : Int)) = false := by rw [hj]; simp
            clear he hj
            go_wp2
            go_ret
            exact ⟨by rw [HF2.out]; rfl, hB⟩
          · have HF2 : Hid (faultL ns = 2) := by show _ = _; rw [HF.out, he]; simp [hj]
            simp only [endI]
            have q : ((j : Int) != (ns.length : Int)) = true := by rw [bne_iff_ne]; omega
            clear he hj
            go_wp2
            go_ret
            exact ⟨by rw [HF2.out]; rfl, hB⟩
set_option maxHeartbeats 1000000 in
theorem fault_nil (a : Option Addr) (cap : Nat) (w : World) :
    Calls Tryd.prog 5 #[.slice a 0 cap] w fun e w' => e = .returned (.int .i64 2) ∧ Below w.heap.size w w' := by
  go_enter Tryd.func5, Tryd.ntmps5
  go_wp2
  go_loop [3] (fun v => v = .int .i64 0) (fun _ => 0)
  case atStart => rfl
  case round =>
    subst hrel
    go_wp2
    go_ret
    exact ⟨rfl, Below.refl _ _⟩
theorem fault_any (ns : List Nd) (ho : NdOk ns) (v : Value) (w : World) (hN : NsIn w v ns) :
    Calls Tryd.prog 5 #[v] w fun e w' => e = .returned (.int .i64 (faultL ns)) ∧ Below w.heap.size w w' := by
  obtain ⟨a, cap, rfl, hm, h | ⟨b, off, rfl, hlt, hn⟩⟩ := hN
  · subst h
    exact fault_nil a cap w
  · by_cases h0 : 0 < ns.length
    · exact fault_at ns ho b off cap hm w hlt hn h0
    · have : ns = [] := List.eq_nil_of_length_eq_zero (by omega)
      subst this
      exact fault_nil _ cap w
end Go.Proofs.YtlejbnmeeonblaaDoor
namespace Go.Proofs.YtlejbnmeeonblaaDoor
set_option linter.unusedSimpArgs false
set_option linter.unusedVariables false
set_option maxRecDepth 100000
open Go.RowKit

theorem nsIn_nil (w : World) : NsIn w (.slice none 0 0) [] := ⟨none, 0, rfl, by simp, Or.inl rfl⟩
theorem nsIn_form {w : World} {v : Value} {ns : List Nd} (h : NsIn w v ns) : ∃ a cap, v = .slice a ns.length cap ∧ ns.length ≤ maxLen := by
  obtain ⟨a, cap, h1, h2, _⟩ := h
  exact ⟨a, cap, h1, h2⟩
theorem nsEq_refl (x : List Nd) : nsEq x x = true := (nsEq_iff x x).2 rfl
end Go.Proofs.YtlejbnmeeonblaaDoor
namespace Go.Proofs.YtlejbnmeeonblaaDoor
set_option linter.unusedSimpArgs false
set_option linter.unusedVariables false
set_option maxRecDepth 100000
open Go.RowKit
set_option maxHeartbeats 8000000 in
theorem litIs_bad {X : World → Prop} (hXb : ∀ w w', X w → Below w.heap.size w w' → X w') (N : LitN X) (W : LitW X) (ns : List Nd) (v : Value) (w : World) (hX : X w) (hN : NsIn w v ns) (wN : ∀ n ∈ ns, n.wf) (hE : w.cell? ⟨0, 0, none⟩ = some (rty 29)) (h0 : 0 < w.heap.size) (hf : ¬ faultL ns = 0) :
    Calls Tryd.prog 3 #[v] w fun e w' => e = .returned (.bool true) ∧ Below w.heap.size w w' := by
  have HON : NdOk ns := fun n hn => C4.wf_ok (wN n hn).2
  have HFA : Hid (∀ w', Below w.heap.size w w' → _) := fun w' hb => fault_any ns HON v w' (hN.below hb)
  have HW : Hid (∀ w', Below w.heap.size w w' → _) := fun w' hb => W.bad ns v w' (hN.below hb) wN hf
  have HD : Hid (∀ w', Below w.heap.size w w' → _) := fun w' hb => N.bad ns v w' (hN.below hb) wN hf
  have HE1 : Hid (∀ w', Below w.heap.size w w' → _) := fun w' hb => error_self (faultL ns) w' ((hb.cell (p := ⟨0, 0, none⟩) h0).trans hE)
  rw [show errV (faultL ns) = .iface 23 (.int .i64 (faultL ns)) by unfold errV; rw [if_neg hf]] at HW HD HE1
  have fz : (faultL ns == 0) = false := by rw [beq_eq_false_iff_ne]; exact hf
  have B := hid (Below.refl w.heap.size w)
  obtain ⟨va, vc, rfl, vm⟩ := nsIn_form hN
  clear hN N W hX hXb
  go_enter Tryd.func3, Tryd.ntmps3
  go_wp2_with fail
  refine Calls.mono (HFA.out _ B.out) ?_
  rintro e w1 ⟨rfl, hb⟩
  replace B := hid (B.out.trans (hb.mono B.out.size))
  clear hb
  go_wp2_with fail
  refine Calls.mono (HW.out _ B.out) ?_
  rintro e w4 ⟨rfl, hb⟩
  replace B := hid (B.out.trans (hb.mono B.out.size))
  clear hb
  go_wp2_with fail
  refine Calls.mono (HE1.out _ B.out) ?_
  rintro e w5 ⟨rfl, hb⟩
  replace B := hid (B.out.trans (hb.mono B.out.size))
  clear hb
  go_wp2_with fail
  refine Calls.mono (HD.out _ B.out) ?_
  rintro e w6 ⟨rfl, hb⟩
  replace B := hid (B.out.trans (hb.mono B.out.size))
  clear hb
  go_wp2_with fail
  refine Calls.mono (HE1.out _ B.out) ?_
  rintro e w7 ⟨rfl, hb⟩
  replace B := hid (B.out.trans (hb.mono B.out.size))
  clear hb
  go_wp2
  go_ret
  exact ⟨rfl, B.out⟩
set_option maxHeartbeats 8000000 in
theorem litIs_some {X : World → Prop} (hXb : ∀ w w', X w → Below w.heap.size w w' → X w') (N : LitN X) (W : LitW X) (t : Rx) (ht : t.Ok) (v : Value) (w : World) (hX : X w) (hN : NsIn w v t.flat) (wN : ∀ n ∈ t.flat, n.wf) (hE : w.cell? ⟨0, 0, none⟩ = some (rty 29)) (h0 : 0 < w.heap.size) (hf : faultL t.flat = 0) (x : List UInt8) (hx : t.whl = some x) :
    Calls Tryd.prog 3 #[v] w fun e w' => e = .returned (.bool true) ∧ Below w.heap.size w w' := by
  have HON : NdOk t.flat := fun n hn => C4.wf_ok (wN n hn).2
  have HFA : Hid (∀ w', Below w.heap.size w w' → _) := fun w' hb => fault_any t.flat HON v w' (hN.below hb)
  rw [hf] at HFA
  have HW : Hid (∀ w', Below w.heap.size w w' → _) := fun w' hb => W.whole t v w' (hXb w w' hX hb) ht (hN.below hb) wN hf
  have HD : Hid (∀ w', Below w.heap.size w w' → _) := fun w' hb => N.need t v w' (hXb w w' hX hb) ht (hN.below hb) wN hf
  have HRW : Hid (∀ w', Below w.heap.size w w' → _) := fun w' hb => wholeOf_any t ht hf HON v w' (hN.below hb)
  have HRN : Hid (∀ w', Below w.heap.size w w' → _) := fun w' hb => neededOf_any t ht hf HON v w' (hN.below hb)
  unfold whV at HRW
  have HE1 : Hid (∀ w', Below w.heap.size w w' → _) := fun w' hb => error_self 0 w' ((hb.cell (p := ⟨0, 0, none⟩) h0).trans hE)
  rw [show errV 0 = .nilIface from rfl] at HE1
  rw [hx] at HW HRW
  simp only [Option.getD_none, Option.getD_some, Option.isSome_none, Option.isSome_some] at HW HRW
  have B := hid (Below.refl w.heap.size w)
  obtain ⟨va, vc, rfl, vm⟩ := nsIn_form hN
  clear hN N W hX hXb hx
  go_enter Tryd.func3, Tryd.ntmps3
  go_wp2_with fail
  refine Calls.mono (HFA.out _ B.out) ?_
  rintro e w1 ⟨rfl, hb⟩
  replace B := hid (B.out.trans (hb.mono B.out.size))
  clear hb
  go_wp2_with fail
  refine Calls.mono (HRW.out _ B.out) ?_
  rintro e w2 ⟨rfl, hb⟩
  replace B := hid (B.out.trans (hb.mono B.out.size))
  clear hb
  go_wp2_with fail
  refine Calls.mono (HRN.out _ B.out) ?_
  rintro e w3 ⟨rfl, hb⟩
  replace B := hid (B.out.trans (hb.mono B.out.size))
  clear hb
  go_wp2_with fail
  refine Calls.mono (HW.out _ B.out) ?_
  rintro e w4 ⟨rfl, hb⟩
  replace B := hid (B.out.trans (hb.mono B.out.size))
  clear hb
  go_wp2_with fail
  refine Calls.mono (HE1.out _ B.out) ?_
  rintro e w5 ⟨rfl, hb⟩
  replace B := hid (B.out.trans (hb.mono B.out.size))
  clear hb
  go_wp2_with fail
  refine Calls.mono (HD.out _ B.out) ?_
  rintro e w6 ⟨rfl, hb⟩
  replace B := hid (B.out.trans (hb.mono B.out.size))
  clear hb
  go_wp2_with fail
  refine Calls.mono (HE1.out _ B.out) ?_
  rintro e w7 ⟨rfl, hb⟩
  replace B := hid (B.out.trans (hb.mono B.out.size))
  clear hb
  go_wp2
  go_ret
  exact ⟨rfl, B.out⟩
set_option maxHeartbeats 8000000 in
theorem litIs_none {X : World → Prop} (hXb : ∀ w w', X w → Below w.heap.size w w' → X w') (N : LitN X) (W : LitW X) (t : Rx) (ht : t.Ok) (v : Value) (w : World) (hX : X w) (hN : NsIn w v t.flat) (wN : ∀ n ∈ t.flat, n.wf) (hE : w.cell? ⟨0, 0, none⟩ = some (rty 29)) (h0 : 0 < w.heap.size) (hf : faultL t.flat = 0) (hx : t.whl = none) :
    Calls Tryd.prog 3 #[v] w fun e w' => e = .returned (.bool true) ∧ Below w.heap.size w w' := by
  have HON : NdOk t.flat := fun n hn => C4.wf_ok (wN n hn).2
  have HFA : Hid (∀ w', Below w.heap.size w w' → _) := fun w' hb => fault_any t.flat HON v w' (hN.below hb)
  rw [hf] at HFA
  have HW : Hid (∀ w', Below w.heap.size w w' → _) := fun w' hb => W.whole t v w' (hXb w w' hX hb) ht (hN.below hb) wN hf
  have HD : Hid (∀ w', Below w.heap.size w w' → _) := fun w' hb => N.need t v w' (hXb w w' hX hb) ht (hN.below hb) wN hf
  have HRW : Hid (∀ w', Below w.heap.size w w' → _) := fun w' hb => wholeOf_any t ht hf HON v w' (hN.below hb)
  have HRN : Hid (∀ w', Below w.heap.size w w' → _) := fun w' hb => neededOf_any t ht hf HON v w' (hN.below hb)
  unfold whV at HRW
  have HE1 : Hid (∀ w', Below w.heap.size w w' → _) := fun w' hb => error_self 0 w' ((hb.cell (p := ⟨0, 0, none⟩) h0).trans hE)
  rw [show errV 0 = .nilIface from rfl] at HE1
  rw [hx] at HW HRW
  simp only [Option.getD_none, Option.getD_some, Option.isSome_none, Option.isSome_some] at HW HRW
  have B := hid (Below.refl w.heap.size w)
  obtain ⟨va, vc, rfl, vm⟩ := nsIn_form hN
  clear hN N W hX hXb hx
  go_enter Tryd.func3, Tryd.ntmps3
  go_wp2_with fail
  refine Calls.mono (HFA.out _ B.out) ?_
  rintro e w1 ⟨rfl, hb⟩
  replace B := hid (B.out.trans (hb.mono B.out.size))
  clear hb
  go_wp2_with fail
  refine Calls.mono (HRW.out _ B.out) ?_
  rintro e w2 ⟨rfl, hb⟩
  replace B := hid (B.out.trans (hb.mono B.out.size))
  clear hb
  go_wp2_with fail
  refine Calls.mono (HRN.out _ B.out) ?_
  rintro e w3 ⟨rfl, hb⟩
  replace B := hid (B.out.trans (hb.mono B.out.size))
  clear hb
  go_wp2_with fail
  refine Calls.mono (HW.out _ B.out) ?_
  rintro e w4 ⟨rfl, hb⟩
  replace B := hid (B.out.trans (hb.mono B.out.size))
  clear hb
  go_wp2_with fail
  refine Calls.mono (HE1.out _ B.out) ?_
  rintro e w5 ⟨rfl, hb⟩
  replace B := hid (B.out.trans (hb.mono B.out.size))
  clear hb
  go_wp2_with fail
  refine Calls.mono (HD.out _ B.out) ?_
  rintro e w6 ⟨rfl, hb⟩
  replace B := hid (B.out.trans (hb.mono B.out.size))
  clear hb
  go_wp2_with fail
  refine Calls.mono (HE1.out _ B.out) ?_
  rintro e w7 ⟨rfl, hb⟩
  replace B := hid (B.out.trans (hb.mono B.out.size))
  clear hb
  go_wp2
  go_ret
  exact ⟨rfl, B.out⟩
theorem litIs_any {X : World → Prop} (hXb : ∀ w w', X w → Below w.heap.size w w' → X w') (N : LitN X) (W : LitW X) (ns : List Nd) (v : Value) (w : World) (hX : X w) (hN : NsIn w v ns) (wN : ∀ n ∈ ns, n.wf) (hE : w.cell? ⟨0, 0, none⟩ = some (rty 29)) (h0 : 0 < w.heap.size) :
    Calls Tryd.prog 3 #[v] w fun e w' => e = .returned (.bool true) ∧ Below w.heap.size w w' := by
  by_cases hf : faultL ns = 0
  · obtain ⟨t, ht, rfl⟩ := tree_of ns ((faultL_zero ns).1 hf).2.2
    cases hx : t.whl with
    | none => exact litIs_none hXb N W t ht v w hX hN wN hE h0 hf hx
    | some x => exact litIs_some hXb N W t ht v w hX hN wN hE h0 hf x hx
  · exact litIs_bad hXb N W ns v w hX hN wN hE h0 hf
end Go.Proofs.YtlejbnmeeonblaaDoor
namespace Go.Proofs.YtlejbnmeeonblaaDoor
set_option linter.unusedSimpArgs false
set_option linter.unusedVariables false
set_option maxRecDepth 100000
open Go.RowKit
set_option maxHeartbeats 400000 in
theorem with_any (k : C4) (x : Int) (w : World) (h : 0 ≤ x) (h2 : x < 256) :
    Calls Tryd.prog 20 #[k.v, .int .u8 x] w fun e w' => e = .returned (k.add x).v ∧ Below w.heap.size w w' := by
  have hw := k.get (x/64).toNat (by omega)
  have hs := k.set (x/64).toNat (by omega)
  go_enter Tryd.func20, Tryd.ntmps20
  go_wp2
  refine bodyPost_ret (v := (k.add x).v) (by simp [results, Tryd.results20, go_sem]; exact ⟨rfl, rfl, rfl, rfl⟩) rfl ⟨rfl, ?_⟩
  exact ((Below.refl _ _).alloc (Nat.le_refl _) _).alloc (by simp) _
end Go.Proofs.YtlejbnmeeonblaaDoor
namespace Go.Proofs.YtlejbnmeeonblaaDoor
set_option linter.unusedSimpArgs false
set_option linter.unusedVariables false
set_option maxRecDepth 100000
open Go.RowKit
set_option maxHeartbeats 1000000 in
theorem of_any (s : ByteArray) (w : World) (hs : s.size ≤ maxLen) :
    Calls Tryd.prog 11 #[.string s] w fun e w' => e = .returned (C4.ofL s.data.toList).v ∧ Below w.heap.size w w' := by
  unfold maxLen at hs
  go_enter Tryd.func11, Tryd.ntmps11
  go_wp2
  go_loopw [7] (fun i wr => ∃ k : Nat, k ≤ s.size ∧ i = .int .i64 k ∧ Below w.heap.size w wr ∧ Hb wr w.heap.size z4 ∧ Hb wr (w.heap.size + 1) (C4.ofL (s.data.toList.take k))) (fun i _ => s.size - (intOf i).toNat)
  case atStart =>
    refine ⟨0, by omega, rfl, ?_, ?_, ?_⟩
    · exact ((Below.refl _ _).alloc (Nat.le_refl _) _).alloc (by simp) _
    · exact (Hb.new _ z4 _ rfl).alloc _
    · exact Hb.new _ z4 _ (by simp)
  case round =>
    obtain ⟨k, hk, rfl, hB, hZ, hC⟩ := hrel
    by_cases hlt : k < s.size
    · obtain ⟨c0, c1, c2, c3, e0, e1, e2, e3⟩ := hC.all
      have i0 : (0 : Int) ≤ (k : Int) := by omega
      have i1 : (k : Int) < (s.size : Int) := by omega
      have hg : s.data.toList[k]? = some s[k] := by
        rw [List.getElem?_eq_getElem (by simpa using hlt)]; rfl
      have hts : s.data.toList.take (k + 1) = s.data.toList.take k ++ [s[k]] := by
        rw [List.take_succ_eq_append_getElem (by simpa using hlt)]; rfl
      have HT : Hid (C4.ofL (s.data.toList.take (k + 1)) = (C4.ofL (s.data.toList.take k)).add (s[k].toNat : Int)) := by rw [hts, C4.ofL_snoc]; exact rfl
      clear hts hg
      have hlb : (s[k].toNat : Int) < 256 := by have := s[k].toNat_lt; omega
      have hl0 : (0 : Int) ≤ (s[k].toNat : Int) := by omega
      go_wp2_with fail
      go_region_with (first | (go_at_call 20; refine (with_any (C4.ofL (s.data.toList.take k)) _ _ hl0 hlb).mono ?_; rintro e w' ⟨rfl, hb⟩; have hC1 := Hb.below hC.drew hb hC.lt; obtain ⟨g0, g1, g2, g3, q0, q1, q2, q3⟩ := hC1.all))
      all_goals
        go_wp2
        refine ⟨⟨k + 1, by omega, by go_num, ?_, ?_, ?_⟩, by simp [intOf]; omega⟩
        · exact below_put4 (hB.drew.trans (hb.mono hB.size)) (by omega) _
        · exact Hb.other4 (Hb.below hZ.drew hb hZ.lt) _ (by omega)
        · rw [HT.out]; exact hC1.put4 _
    · have hk4 : k = s.size := by omega
      subst hk4
      have ht : s.data.toList.take s.size = s.data.toList := List.take_of_length_le (by simp)
      rw [ht] at hC
      clear ht
      obtain ⟨c0, c1, c2, c3, e0, e1, e2, e3⟩ := hC.all
      obtain ⟨d0, d1, d2, d3, f0, f1, f2, f3⟩ := hZ.all
      go_wp2
      have hq := hZ.put4 (C4.ofL s.data.toList)
      refine bodyPost_ret (v := (C4.ofL s.data.toList).v) (by simp [results, Tryd.results11, go_sem, hq.c0, hq.c1, hq.c2, hq.c3]) rfl ⟨rfl, ?_⟩
      exact below_put4 hB (by omega) _
end Go.Proofs.YtlejbnmeeonblaaDoor
namespace Go.Proofs.YtlejbnmeeonblaaDoor
set_option linter.unusedSimpArgs false
set_option linter.unusedVariables false
set_option maxRecDepth 100000
open Go.RowKit
/-- What a part needs, and whether that is its whole, as a value. -/
def muV (x : List UInt8) (b : Bool) : Value := .agg #[.string ⟨x.toArray⟩, .bool b]
/-- Of a tree. -/
def Rx.muV (t : Rx) : Value := Go.Proofs.YtlejbnmeeonblaaDoor.muV t.ned t.whl.isSome
/-- Of a class. -/
def C4.muV (k : C4) : Value := Go.Proofs.YtlejbnmeeonblaaDoor.muV ((k.only.map fun c => [c]).getD []) (k.only.map fun c => [c]).isSome
theorem ofL1_has (b : Nat) (hb : b < 256) (i : Nat) (hi : i < 256) : (C4.ofL [UInt8.ofNat b]).has i = decide (i = b) := by
  rw [ofL_has _ _ hi]
  congr 1
  apply propext
  have e : (UInt8.ofNat b).toNat = b := by simp; omega
  simp [e, eq_comm]
theorem only_ofL (b : Nat) (hb : b < 256) : (C4.ofL [UInt8.ofNat b]).only = some (UInt8.ofNat b) := by
  have h1 : cnt (C4.ofL [UInt8.ofNat b]).has 256 = 1 := by
    rw [cnt_filter]
    have : (List.range 256).filter (C4.ofL [UInt8.ofNat b]).has = (List.range 256).filter (fun i => decide (i = b)) := by
      apply List.filter_congr
      intro x hx
      exact ofL1_has b hb x (List.mem_range.1 hx)
    rw [this, ← List.countP_eq_length_filter]
    have : List.countP (fun i => decide (i = b)) (List.range 256) = List.count b (List.range 256) := by
      unfold List.count
      congr 1
    rw [this, List.nodup_range.count, if_pos (List.mem_range.2 hb)]
  exact only_one h1 hb (by rw [ofL1_has b hb b hb]; simp)
/-- A class has one byte just if it is that byte's. -/
theorem ofL_only {k : C4} (hk : k.ok) {c : UInt8} (h : k.only = some c) : k = C4.ofL [c] := by
  refine C4.ext_has hk (ofL_ok _) (fun i hi => ?_)
  rw [ofL_has _ _ hi]
  have := only_has h (UInt8.ofNat i)
  have e : (UInt8.ofNat i).toNat = i := by simp; omega
  rw [e] at this
  rw [Bool.eq_iff_iff, this]
  constructor
  · intro h2; subst h2; simp; omega
  · intro h2
    simp at h2
    rw [← h2]; simp
theorem muV_none {k : C4} (h : k.only = none) : k.muV = .agg #[.string ⟨#[]⟩, .bool false] := by unfold C4.muV; rw [h]; rfl
theorem muV_some {k : C4} {c : UInt8} (h : k.only = some c) : k.muV = .agg #[.string ⟨#[c]⟩, .bool true] := by unfold C4.muV; rw [h]; rfl
theorem eqb_iff {x y : C4} : x.eqb y = true ↔ x = y := by
  obtain ⟨a, b, c, d⟩ := x
  obtain ⟨a', b', c', d'⟩ := y
  simp [C4.eqb, and_assoc]
/-- Block b holds what a part needs. -/
def Hmu (w : World) (b : Nat) (s : ByteArray) (f : Bool) : Prop := w.heap[b]? = some (.cells #[.string s, .bool f] 53 (0, 0))
theorem Hmu.all {w : World} {b : Nat} {s : ByteArray} {f : Bool} (h : Hmu w b s f) : w.cell? ⟨b, 0, none⟩ = some (.string s) ∧ w.cell? ⟨b, 1, none⟩ = some (.bool f) ∧ w.frozen? ⟨b, 0, none⟩ = false ∧ w.frozen? ⟨b, 1, none⟩ = false := by
  refine ⟨?_, ?_, Lib.frozen_of_heap h 0, Lib.frozen_of_heap h 1⟩
  · rw [Lib.cell_of_heap h]; rfl
  · rw [Lib.cell_of_heap h]; rfl
theorem Hmu.lt {w : World} {b : Nat} {s : ByteArray} {f : Bool} (h : Hmu w b s f) : b < w.heap.size := by
  rcases Nat.lt_or_ge b w.heap.size with h' | h'
  · exact h'
  · simp [Hmu, Array.getElem?_eq_none h'] at h
theorem Hmu.below {w w' : World} {B b : Nat} {s : ByteArray} {f : Bool} (h : Hmu w b s f) (hb : Below B w w') (hlt : b < B) : Hmu w' b s f := (hb.block b hlt).trans h
theorem Hmu.alloc {w : World} {b : Nat} {s : ByteArray} {f : Bool} (h : Hmu w b s f) (o : Obj) : Hmu (w.alloc o) b s f := (Below.heap_alloc w o b h.lt).trans h
theorem Hmu.new (w : World) (s : ByteArray) (f : Bool) (b : Nat) (hb : b = w.heap.size) : Hmu (w.alloc (.cells #[.string s, .bool f] 53)) b s f := by subst hb; exact heap_alloc_new w _
theorem Hmu.other {w : World} {b : Nat} {s : ByteArray} {f : Bool} (h : Hmu w b s f) (p : Addr) (v : Value) (hp : b ≠ p.block) : Hmu (w.setCell p v) b s f := (Below.heap_setCell w p v b hp).trans h
/-- What a part needs is stored. -/
theorem Hmu.put {w : World} {b : Nat} {s : ByteArray} {f : Bool} (h : Hmu w b s f) (s' : ByteArray) (f' : Bool) : Hmu ((w.setCell ⟨b, 0, none⟩ (.string s')).setCell ⟨b, 1, none⟩ (.bool f')) b s' f' := by
  unfold Hmu at h ⊢
  simp [World.setCell, Array.getElem?_modify, h]
theorem below_putM {w0 w : World} {B b : Nat} (h : Below B w0 w) (hb : B ≤ b) (v v' : Value) : Below B w0 ((w.setCell ⟨b, 0, none⟩ v).setCell ⟨b, 1, none⟩ v') := (h.setCell hb _).setCell hb _
set_option maxHeartbeats 4000000 in
theorem ofByte_any (k : C4) (hk : k.ok) (w : World) : Calls Tryd.prog 29 #[k.v] w fun e w' => e = .returned k.muV ∧ Below w.heap.size w w' := by
  have he := eq4
  have HOF : Hid (∀ (x : Nat) (w' : World), Calls Tryd.prog 11 #[.string ⟨#[UInt8.ofNat x]⟩] w' fun e w'' => e = .returned (C4.ofL [UInt8.ofNat x]).v ∧ Below w'.heap.size w' w'') := fun x w' => of_any ⟨#[UInt8.ofNat x]⟩ w' (by show 1 ≤ maxLen; decide)
  go_enter Tryd.func29, Tryd.ntmps29
  go_wp2
  go_loopw [5] (fun i wr => ∃ n : Nat, n ≤ 256 ∧ i = .int .i64 n ∧ Hid (∀ y, y < n → k ≠ C4.ofL [UInt8.ofNat y]) ∧ Hid (Below w.heap.size w wr) ∧ Hb wr w.heap.size k ∧ Hmu wr (w.heap.size + 1) ⟨#[]⟩ false) (fun i _ => 256 - (intOf i).toNat)
  case atStart =>
    exact ⟨0, by omega, rfl, fun y hy => by omega, ((Below.refl _ _).alloc (Nat.le_refl _) _).alloc (by simp) _, (Hb.new _ k _ rfl).alloc _, Hmu.new _ _ _ _ (by simp)⟩
  case round =>
    obtain ⟨n, hn, rfl, HU, HB, hK, hM⟩ := hrel
    by_cases hlt : n < 256
    · have i0 : (n : Int) < 256 := by omega
      have hcv := conv_byte n wr
      have hx8 : IntKind.u8.wrap (n : Int) = (n : Int) := by
        have e : IntKind.u8.wrap (n : Int) = (n : Int) % 256 := rfl
        rw [e]
        omega
      go_wp2_with fail
      have hK1 := hK.alloc (.cells #[.int .u8 (n : Int)] 5)
      obtain ⟨a0, a1, a2, a3⟩ := hK1.cr
      refine wp_region_quiet_below (by kernel_rfl) (by kernel_rfl) ?_
      repeat (go_big_quiet_step (first
        | (go_at_call 11; exact Calls.regrown_of (HOF.out _ _))))
      refine wpQuiet_nil ?_
      intro _ hw'
      obtain ⟨⟨dq, osq⟩, hw''⟩ := hw'
      have hb4 := below_regrown (wr.alloc (.cells #[.int .u8 (n : Int)] 5)) dq osq
      have g4 := hid ((HB.out.alloc HB.out.size (.cells #[.int .u8 (n : Int)] 5)).trans (hb4.mono (by have := HB.out.size; simp; omega)))
      have hK4 := hK1.below hb4 hK1.lt
      have hM4 : Hmu _ _ _ _ := Hmu.below (show Hmu (wr.alloc (.cells #[.int .u8 (n : Int)] 5)) (w.heap.size + 1) ⟨#[]⟩ false from (Below.heap_alloc wr _ _ hM.lt).trans hM) hb4 (by simp; have := hM.lt; omega)
      subst hw''
      clear a0 a1 a2 a3
      generalize hgw : Go.Sort.grow (redrawn (wr.alloc (.cells #[.int .u8 (n : Int)] 5)) dq) osq = w4 at *
      clear hgw hb4 hK1
      obtain ⟨m0, m1, z0, z1⟩ := hM4.all
      clear hM hK
      cases hq : k.eqb (C4.ofL [UInt8.ofNat n])
      · have HU2 : Hid (∀ y, y < n + 1 → k ≠ C4.ofL [UInt8.ofNat y]) := by
          intro y hy
          by_cases hyn : y = n
          · subst hyn
            intro h
            rw [← eqb_iff] at h
            rw [hq] at h
            cases h
          · exact HU.out y (by omega)
        clear hq
        go_wp2
        exact ⟨⟨n + 1, by omega, by go_num, HU2, g4, hK4, hM4⟩, by simp [intOf]; omega⟩
      · have e := eqb_iff.1 hq
        have HV : Hid (k.muV = .agg #[.string ⟨#[UInt8.ofNat n]⟩, .bool true]) := by
          show _ = _
          rw [muV_some (by rw [e]; exact only_ofL n hlt)]
        clear hq e
        go_wp2
        have hp := (hM4.put ⟨#[UInt8.ofNat n]⟩ true).all
        refine bodyPost_ret (v := .agg #[.string ⟨#[UInt8.ofNat n]⟩, .bool true]) (by simp [results, Tryd.results29, go_sem, hp.1, hp.2.1]) rfl ⟨by rw [HV.out], ?_⟩
        exact below_putM g4.out (by omega) _ _
    · have hk4 : n = 256 := by omega
      subst hk4
      obtain ⟨m0, m1, z0, z1⟩ := hM.all
      have HV : Hid (k.muV = .agg #[.string ⟨#[]⟩, .bool false]) := by
        show _ = _
        rw [muV_none ?_]
        cases ho : k.only with
        | none => rfl
        | some c => exact absurd (by rw [show UInt8.ofNat c.toNat = c from by simp]; exact ofL_only hk ho) (HU.out c.toNat c.toNat_lt)
      go_wp2
      have hp := (hM.put ⟨#[]⟩ false).all
      refine bodyPost_ret (v := .agg #[.string ⟨#[]⟩, .bool false]) (by simp [results, Tryd.results29, go_sem, hp.1, hp.2.1]) rfl ⟨by rw [HV.out], ?_⟩
      exact below_putM HB.out (by omega) _ _
end Go.Proofs.YtlejbnmeeonblaaDoor

/- What the document's own functions answer: WholeOf. The landed lit: what a byte needs. What the document's own functions answer: NeededOf. The place behind a part, by counting the parts that are missing. No function of the program. -/
import Derived.Test.YtejbififfceamaaGreatDoorY07
import Derived.Test.YtejbififfceamaaGreatDoorY16
import Derived.Deep.LoopGhost
import Derived.Test.YtejbififfceamaaGreatDoorY10
import Derived.Test.YtejbififfceamaaGreatDoorY02
import Derived.Test.YtejbififfceamaaGreatDoorY04
namespace Go.Proofs.YtejbififfceamaaGreatDoor
set_option linter.unusedSimpArgs false
set_option linter.unusedVariables false
set_option maxRecDepth 100000
open Go.RowKit
theorem cnt_filter (p : Nat → Bool) : ∀ n, cnt p n = ((List.range n).filter p).length
  | 0 => rfl
  | n + 1 => by
    rw [cnt, cnt_filter p n, List.range_succ, List.filter_append, List.length_append]
    cases h : p n <;> simp [h]
theorem only_none {k : C4} (h : ¬ cnt k.has 256 = 1) : k.only = none := by
  unfold C4.only
  rw [if_neg (by rw [← cnt_filter]; exact h)]
theorem only_one {k : C4} (h : cnt k.has 256 = 1) {b : Nat} (hb : b < 256) (hh : k.has b = true) : k.only = some (UInt8.ofNat b) := by
  unfold C4.only
  rw [cnt_filter] at h
  rw [if_pos h]
  obtain ⟨x, hx⟩ : ∃ x, (List.range 256).filter k.has = [x] := List.length_eq_one_iff.1 h
  have : b ∈ (List.range 256).filter k.has := by rw [List.mem_filter, List.mem_range]; exact ⟨hb, hh⟩
  rw [hx, List.mem_singleton] at this
  rw [hx, this]
  rfl
theorem cnt_ex {p : Nat → Bool} (h : cnt p 256 = 1) : ∃ b, b < 256 ∧ p b = true := by
  rw [cnt_filter] at h
  obtain ⟨x, hx⟩ : ∃ x, (List.range 256).filter p = [x] := List.length_eq_one_iff.1 h
  have : x ∈ (List.range 256).filter p := by rw [hx]; simp
  rw [List.mem_filter, List.mem_range] at this
  exact ⟨x, this⟩
theorem convL_byte (n : Nat) (w : World) : (convert 147 9 (.slice (some ⟨w.heap.size, 0, none⟩) 1 1)).run Tryz.prog (w.alloc (.cells #[.int .u8 (n : Int)] 5)) = .ok (.string ⟨#[UInt8.ofNat n]⟩) (w.alloc (.cells #[.int .u8 (n : Int)] 5)) := by
  have h := run_convert_bytes_arg (P := Tryz.prog) (w.alloc (.cells #[.int .u8 (n : Int)] 5)) 147 5 Tryz.underlying147 Tryz.underlying5 w.heap.size 0 1 1 [(n : Int)] rfl (by
    intro i hi
    have : i = 0 := by omega
    subst this
    simp) 9 Tryz.underlying9
  rw [h]
  rfl
/-- What WholeOf answers of a tree. -/
def whV (t : Rx) : Value := .tuple #[.string ⟨(t.whl.getD []).toArray⟩, .bool t.whl.isSome]
/-- WholeOf answers of the part at i as the tree t says. -/
def WhOk (ns : List Nd) (b off cap : Nat) (t : Rx) (i : Nat) : Prop := ∀ w : World, b < w.heap.size → NsAt w b off ns →
  Calls Tryz.prog 41 #[.slice (some ⟨b, off, none⟩) ns.length cap, .int .i64 (i : Int)] w fun e w' => e = .returned (whV t) ∧ Below w.heap.size w w'
set_option maxHeartbeats 4000000 in
theorem wh_leaf (ns : List Nd) (hl : ns.length ≤ 60) (b off cap i : Nat) (n : Nd) (hn : ns[i]? = some n) (hi : i < ns.length) (hok : n.c.ok) (hop : n.op = 1 ∨ n.op = 2 ∨ n.op = 8 ∨ n.op = 9) : WhOk ns b off cap (.leaf n) i := by
  intro w hlt hN
  obtain ⟨c0, c1, c2, c3, c4⟩ := hN i n hn
  have i0 : (0 : Int) ≤ (i : Int) := by omega
  have i1 : (i : Int) < (ns.length : Int) := by omega
  rcases hop with hop | hop | hop | hop
  · rw [hop] at c0
    have HCN := hid (count_any n.c hok w)
    by_cases h1 : cnt n.c.has 256 = 1
    case neg =>
      have HV : Hid (whV (.leaf n) = .tuple #[.string ⟨#[]⟩, .bool false]) := by show _ = _; simp [whV, Rx.whl, hop, only_none h1]
      have g1 : (((cnt n.c.has 256 : Nat) : Int) != 1) = true := by rw [bne_iff_ne]; omega
      rw [HV.out]
      clear hN h1
      go_enter Tryz.func41, Tryz.ntmps41
      go_wp2_with fail
      refine Calls.mono HCN.out ?_
      rintro e w1 ⟨rfl, hb⟩
      have B := hid hb
      go_wp2
      go_ret2
      exact ⟨rfl, B.out⟩
    have g1 : (((cnt n.c.has 256 : Nat) : Int) != 1) = false := by rw [h1]; rfl
    have HN := hid hN
    have HN0 := hid hn
    have HC1 := hid h1
    have HIN : Hid (∀ (x : Nat) (w' : World), x < 256 → _) := fun x w' hx => in_any n.c hok x hx w'
    obtain ⟨y, hy, hyh⟩ := cnt_ex h1
    clear hN h1 hn
    go_enter Tryz.func41, Tryz.ntmps41
    go_wp2_with fail
    refine Calls.mono HCN.out ?_
    rintro e w1 ⟨rfl, hb⟩
    have B := hid hb
    clear hb HCN c0 c1 c2 c3 c4
    go_wp2_with fail
    go_loopg [6] (y + 1) (fun k v wz => ∃ x : Nat, v = .int .i64 (x : Int) ∧ x ≤ y ∧ k = y + 1 - x ∧ Hid (Below w.heap.size w wz))
    case atStart => exact ⟨0, rfl, by omega, rfl, B⟩
    case round =>
      clear B
      obtain ⟨x, rfl, hx, hgk, B⟩ := hrel
      obtain ⟨c0, c1, c2, c3, c4⟩ := (HN.out.below B.out hlt) i n HN0.out
      have HI := hid (HIN.out x wr (by omega))
      cases hh : n.c.has x
      · rw [hh] at HI
        have hne : x ≠ y := by intro e; rw [e, hyh] at hh; cases hh
        clear hh
        go_wp2_with fail
        refine Calls.mono HI.out ?_
        rintro e w2 ⟨rfl, hb⟩
        replace B := hid (B.out.trans (hb.mono B.out.size))
        clear hb
        go_wp2
        go_roundg (y + 1 - (x + 1))
        case measure => omega
        case rel => exact ⟨x + 1, by go_num, by omega, rfl, B⟩
      · rw [hh] at HI
        have HV : Hid (whV (.leaf n) = .tuple #[.string ⟨#[UInt8.ofNat x]⟩, .bool true]) := by show _ = _; simp [whV, Rx.whl, hop, only_one HC1.out (by omega) hh]
        clear hh
        go_wp2_with fail
        refine Calls.mono HI.out ?_
        rintro e w2 ⟨rfl, hb⟩
        replace B := hid (B.out.trans (hb.mono B.out.size))
        have hcv := convL_byte x w2
        have hx8 : IntKind.u8.wrap (x : Int) = (x : Int) := by
          have e : IntKind.u8.wrap (x : Int) = (x : Int) % 256 := rfl
          rw [e]
          omega
        have HB2 : Hid (∀ o, Below w.heap.size w (w2.alloc o)) := fun o => B.out.alloc B.out.size o
        clear hb
        go_wp2
        go_ret2
        exact ⟨by rw [HV.out]; rfl, HB2.out _⟩
  · have HV : Hid (whV (.leaf n) = .tuple #[.string ⟨#[]⟩, .bool true]) := by show _ = _; simp [whV, Rx.whl, hop]
    rw [hop] at c0
    rw [HV.out]
    clear hN
    go_enter Tryz.func41, Tryz.ntmps41
    go_wp2
    go_ret2
    exact ⟨rfl, Below.refl _ _⟩
  · have HV : Hid (whV (.leaf n) = .tuple #[.string ⟨#[]⟩, .bool false]) := by show _ = _; simp [whV, Rx.whl, hop]
    rw [hop] at c0
    rw [HV.out]
    clear hN
    go_enter Tryz.func41, Tryz.ntmps41
    go_wp2
    go_ret2
    exact ⟨rfl, Below.refl _ _⟩
  · have HV : Hid (whV (.leaf n) = .tuple #[.string ⟨#[]⟩, .bool false]) := by show _ = _; simp [whV, Rx.whl, hop]
    rw [hop] at c0
    rw [HV.out]
    clear hN
    go_enter Tryz.func41, Tryz.ntmps41
    go_wp2
    go_ret2
    exact ⟨rfl, Below.refl _ _⟩
theorem whl_len : ∀ (t : Rx) (x : List UInt8), t.whl = some x → x.length ≤ t.flat.length
  | .leaf n, x, h => by
    simp only [Rx.whl] at h
    split at h
    · cases hc : n.c.only with
      | none => rw [hc] at h; cases h
      | some c => rw [hc] at h; simp at h; subst h; simp [Rx.flat]
    · split at h
      · simp at h; subst h; simp
      · cases h
  | .one n a, x, h => by simp [Rx.whl] at h
  | .two n a b, x, h => by
    simp only [Rx.whl] at h
    split at h
    · cases ha : a.whl with
      | none => rw [ha] at h; cases h
      | some xa =>
        cases hb : b.whl with
        | none => rw [ha, hb] at h; cases h
        | some xb =>
          rw [ha, hb] at h
          simp at h
          subst h
          have h1 := whl_len a xa ha
          have h2 := whl_len b xb hb
          simp [Rx.flat]
          omega
    · cases h
set_option maxHeartbeats 4000000 in
theorem wh_none (ns : List Nd) (hl : ns.length ≤ 60) (b off cap i : Nat) (n : Nd) (t : Rx) (ht : t.whl = none) (hn : ns[i]? = some n) (hi : i < ns.length) (hop : n.op = 4 ∨ n.op = 5 ∨ n.op = 6 ∨ n.op = 7) : WhOk ns b off cap t i := by
  intro w hlt hN
  obtain ⟨c0, c1, c2, c3, c4⟩ := hN i n hn
  have i0 : (0 : Int) ≤ (i : Int) := by omega
  have i1 : (i : Int) < (ns.length : Int) := by omega
  have HV : Hid (whV t = .tuple #[.string ⟨#[]⟩, .bool false]) := by show _ = _; simp [whV, ht]
  have g1 : (n.op == 1) = false := by rw [beq_eq_false_iff_ne]; omega
  have g2 : (n.op == 2) = false := by rw [beq_eq_false_iff_ne]; omega
  have g3 : (n.op == 3) = false := by rw [beq_eq_false_iff_ne]; omega
  rw [HV.out]
  clear hN hop
  go_enter Tryz.func41, Tryz.ntmps41
  go_wp2
  go_ret2
  exact ⟨rfl, Below.refl _ _⟩
set_option maxHeartbeats 4000000 in
theorem wh_cat (ns : List Nd) (hl : ns.length ≤ 60) (b off cap i : Nat) (n : Nd) (x y : Rx) (hn : ns[i]? = some n) (hi : i < ns.length) (hop : n.op = 3) (he : endE ns (i + 1) = some (i + 1 + x.flat.length)) (hxl : x.flat.length ≤ 60) (hyl : y.flat.length ≤ 60) (hX : WhOk ns b off cap x (i + 1)) (hY : WhOk ns b off cap y (i + 1 + x.flat.length)) : WhOk ns b off cap (.two n x y) i := by
  intro w hlt hN
  obtain ⟨c0, c1, c2, c3, c4⟩ := hN i n hn
  have i0 : (0 : Int) ≤ (i : Int) := by omega
  have i1 : (i : Int) < (ns.length : Int) := by omega
  have hk : Hid ((i : Int) + 1 = ((i + 1 : Nat) : Int)) := by show _ = _; omega
  rw [hop] at c0
  have HX := hid (hX w hlt hN)
  have HEN : Hid (∀ w', Below w.heap.size w w' → _) := fun w' hb => endOf_any ns (.slice (some ⟨b, off, none⟩) ns.length cap) (i + 1) w' ⟨_, _, rfl, by unfold maxLen; omega, Or.inr ⟨b, off, rfl, Nat.lt_of_lt_of_le hlt hb.size, hN.below hb hlt⟩⟩
  rw [he, show endI (some (i + 1 + x.flat.length)) = ((i + 1 + x.flat.length : Nat) : Int) from rfl] at HEN
  have HY : Hid (∀ w', Below w.heap.size w w' → _) := fun w' hb => hY w' (Nat.lt_of_lt_of_le hlt hb.size) (hN.below hb hlt)
  have HVV : Hid (whV (.two n x y) = match x.whl, y.whl with | some p, some q => .tuple #[.string ⟨(p ++ q).toArray⟩, .bool true] | _, _ => .tuple #[.string ⟨#[]⟩, .bool false]) := by
    show _ = _
    simp only [whV, Rx.whl, if_pos hop]
    cases x.whl <;> cases y.whl <;> rfl
  have hwx := whl_len x
  have hwy := whl_len y
  clear hN hop he hX hY
  unfold whV at HX HY
  cases hx : x.whl with
  | none =>
    rw [hx] at HX HVV
    rw [HVV.out]
    cases hy : y.whl with
    | none =>
      rw [hy] at HY
      clear hwx hwy
      simp only [Option.getD_none, Option.getD_some, Option.isSome_none, Option.isSome_some] at HX HY
      go_enter Tryz.func41, Tryz.ntmps41
      go_wp2_with fail
      rw [hk.out]
      refine Calls.mono HX.out ?_
      rintro e w1 ⟨rfl, hb⟩
      have B := hid hb
      clear hb
      go_wp2_with fail
      rw [hk.out]
      refine Calls.mono (HEN.out _ B.out) ?_
      rintro e w2 ⟨rfl, rfl⟩
      go_wp2_with fail
      refine Calls.mono (HY.out _ B.out) ?_
      rintro e w3 ⟨rfl, hb⟩
      replace B := hid (B.out.trans (hb.mono B.out.size))
      clear hb
      go_wp2
      go_ret2
      exact ⟨rfl, B.out⟩
    | some q =>
      rw [hy] at HY
      clear hwx hwy
      simp only [Option.getD_none, Option.getD_some, Option.isSome_none, Option.isSome_some] at HX HY
      go_enter Tryz.func41, Tryz.ntmps41
      go_wp2_with fail
      rw [hk.out]
      refine Calls.mono HX.out ?_
      rintro e w1 ⟨rfl, hb⟩
      have B := hid hb
      clear hb
      go_wp2_with fail
      rw [hk.out]
      refine Calls.mono (HEN.out _ B.out) ?_
      rintro e w2 ⟨rfl, rfl⟩
      go_wp2_with fail
      refine Calls.mono (HY.out _ B.out) ?_
      rintro e w3 ⟨rfl, hb⟩
      replace B := hid (B.out.trans (hb.mono B.out.size))
      clear hb
      go_wp2
      go_ret2
      exact ⟨rfl, B.out⟩
  | some p =>
    rw [hx] at HX HVV
    have hpl := hwx p hx
    cases hy : y.whl with
    | none =>
      rw [hy] at HY HVV
      rw [HVV.out]
      clear hwx hwy
      simp only [Option.getD_none, Option.getD_some, Option.isSome_none, Option.isSome_some] at HX HY
      go_enter Tryz.func41, Tryz.ntmps41
      go_wp2_with fail
      rw [hk.out]
      refine Calls.mono HX.out ?_
      rintro e w1 ⟨rfl, hb⟩
      have B := hid hb
      clear hb
      go_wp2_with fail
      rw [hk.out]
      refine Calls.mono (HEN.out _ B.out) ?_
      rintro e w2 ⟨rfl, rfl⟩
      go_wp2_with fail
      refine Calls.mono (HY.out _ B.out) ?_
      rintro e w3 ⟨rfl, hb⟩
      replace B := hid (B.out.trans (hb.mono B.out.size))
      clear hb
      go_wp2
      go_ret2
      exact ⟨rfl, B.out⟩
    | some q =>
      rw [hy] at HY HVV
      have hql := hwy q hy
      have HV2 : Hid (whV (.two n x y) = .tuple #[.string ((⟨p.toArray⟩ : ByteArray) ++ ⟨q.toArray⟩), .bool true]) := by show _ = _; rw [HVV.out, cat_str]
      rw [HV2.out]
      have l1 : (⟨p.toArray⟩ : ByteArray).size ≤ 60 := by rw [size_str]; omega
      have l2 : (⟨q.toArray⟩ : ByteArray).size ≤ 60 := by rw [size_str]; omega
      clear hwx hwy
      simp only [Option.getD_none, Option.getD_some, Option.isSome_none, Option.isSome_some] at HX HY
      go_enter Tryz.func41, Tryz.ntmps41
      go_wp2_with fail
      rw [hk.out]
      refine Calls.mono HX.out ?_
      rintro e w1 ⟨rfl, hb⟩
      have B := hid hb
      clear hb
      go_wp2_with fail
      rw [hk.out]
      refine Calls.mono (HEN.out _ B.out) ?_
      rintro e w2 ⟨rfl, rfl⟩
      go_wp2_with fail
      refine Calls.mono (HY.out _ B.out) ?_
      rintro e w3 ⟨rfl, hb⟩
      replace B := hid (B.out.trans (hb.mono B.out.size))
      clear hb
      go_wp2
      go_ret2
      exact ⟨rfl, B.out⟩
theorem end_at (p q : List Nd) (n : Nd) (x y : Rx) (hx : x.Ok) (e : List Nd) (he : e = p ++ (Rx.two n x y).flat ++ q) : endE e (p.length + 1) = some (p.length + 1 + x.flat.length) := by
  have e1 : e = (p ++ [n]) ++ x.flat ++ (y.flat ++ q) := by rw [he]; simp [Rx.flat]
  have h := endF_flat x hx (p ++ [n]) (y.flat ++ q) (e.length + 1) (by rw [e1]; simp; omega)
  rw [← e1] at h
  unfold endE
  simpa using h
/-- WholeOf at every tree. -/
theorem wh_tree (b off cap : Nat) : ∀ (t : Rx), t.Ok → ∀ (p q : List Nd), (∀ n ∈ t.flat, (1 ≤ n.op ∧ n.op ≤ 9) ∧ n.c.ok) → (p ++ t.flat ++ q).length ≤ 60 → WhOk (p ++ t.flat ++ q) b off cap t p.length
  | .leaf n, h, p, q, ho, hl => by
    have h1 := ho n (by simp [Rx.flat])
    refine wh_leaf _ hl b off cap p.length n (by simp [Rx.flat]) (by simp [Rx.flat]) h1.2 ?_
    have h0 : prt n.op = 0 := h
    have h2 : ¬ prt n.op = 2 := by omega
    have h3 : ¬ prt n.op = 1 := by omega
    rw [prt_two] at h2
    rw [prt_one] at h3
    omega
  | .one n a, h, p, q, ho, hl => by
    have hop := (prt_one n.op).1 h.1
    exact wh_none _ hl b off cap p.length n _ rfl (by simp [Rx.flat]) (by simp [Rx.flat]) (by omega)
  | .two n x y, h, p, q, ho, hl => by
    have e1 : p ++ (Rx.two n x y).flat ++ q = (p ++ [n]) ++ x.flat ++ (y.flat ++ q) := by simp [Rx.flat]
    have e2 : p ++ (Rx.two n x y).flat ++ q = (p ++ [n] ++ x.flat) ++ y.flat ++ q := by simp [Rx.flat]
    rcases (prt_two n.op).1 h.1 with hop | hop
    · have ih1 := wh_tree b off cap x h.2.1 (p ++ [n]) (y.flat ++ q) (fun m hm => ho m (by simp [Rx.flat, hm])) (by rw [← e1]; exact hl)
      have ih2 := wh_tree b off cap y h.2.2 (p ++ [n] ++ x.flat) q (fun m hm => ho m (by simp [Rx.flat, hm])) (by rw [← e2]; exact hl)
      rw [← e1, show (p ++ [n]).length = p.length + 1 from by simp] at ih1
      rw [← e2, show (p ++ [n] ++ x.flat).length = p.length + 1 + x.flat.length from by simp; omega] at ih2
      have hb : x.flat.length ≤ 60 ∧ y.flat.length ≤ 60 := by
        rw [e1] at hl
        simp at hl
        omega
      exact wh_cat _ hl b off cap p.length n x y (by simp [Rx.flat]) (by simp [Rx.flat]) hop (end_at p q n x y h.2.1 _ rfl) hb.1 hb.2 ih1 ih2
    · exact wh_none _ hl b off cap p.length n _ (by simp [Rx.whl, hop]) (by simp [Rx.flat]) (by simp [Rx.flat]) (by omega)
end Go.Proofs.YtejbififfceamaaGreatDoor
namespace Go.Proofs.YtejbififfceamaaGreatDoor
set_option linter.unusedSimpArgs false
set_option linter.unusedVariables false
set_option maxRecDepth 100000
open Go.RowKit
/-- What a part needs, and whether that is its whole, as a value. -/
def muV (x : List UInt8) (b : Bool) : Value := .agg #[.string ⟨x.toArray⟩, .bool b]
/-- Of a tree. -/
def Rx.muV (t : Rx) : Value := Go.Proofs.YtejbififfceamaaGreatDoor.muV t.ned t.whl.isSome
/-- Of a class. -/
def C4.muV (k : C4) : Value := Go.Proofs.YtejbififfceamaaGreatDoor.muV ((k.only.map fun c => [c]).getD []) (k.only.map fun c => [c]).isSome
theorem ofL1_has (b : Nat) (hb : b < 256) (i : Nat) (hi : i < 256) : (C4.ofL [UInt8.ofNat b]).has i = decide (i = b) := by
  rw [ofL_has _ _ hi]
  congr 1
  apply propext
  have e : (UInt8.ofNat b).toNat = b := by simp; omega
  simp [e, eq_comm]
theorem only_ofL (b : Nat) (hb : b < 256) : (C4.ofL [UInt8.ofNat b]).only = some (UInt8.ofNat b) := by
  have h1 : cnt (C4.ofL [UInt8.ofNat b]).has 256 = 1 := by
    rw [cnt_filter]
    have : (List.range 256).filter (C4.ofL [UInt8.ofNat b]).has = (List.range 256).filter (fun i => decide (i = b)) := by
      apply List.filter_congr
      intro x hx
      exact ofL1_has b hb x (List.mem_range.1 hx)
    rw [this, ← List.countP_eq_length_filter]
    have : List.countP (fun i => decide (i = b)) (List.range 256) = List.count b (List.range 256) := by
      unfold List.count
      congr 1
    rw [this, List.nodup_range.count, if_pos (List.mem_range.2 hb)]
  exact only_one h1 hb (by rw [ofL1_has b hb b hb]; simp)
/-- A class has one byte just if it is that byte's. -/
theorem ofL_only {k : C4} (hk : k.ok) {c : UInt8} (h : k.only = some c) : k = C4.ofL [c] := by
  refine C4.ext_has hk (ofL_ok _) (fun i hi => ?_)
  rw [ofL_has _ _ hi]
  have := only_has h (UInt8.ofNat i)
  have e : (UInt8.ofNat i).toNat = i := by simp; omega
  rw [e] at this
  rw [Bool.eq_iff_iff, this]
  constructor
  · intro h2; subst h2; simp; omega
  · intro h2
    simp at h2
    rw [← h2]; simp
theorem muV_none {k : C4} (h : k.only = none) : k.muV = .agg #[.string ⟨#[]⟩, .bool false] := by unfold C4.muV; rw [h]; rfl
theorem muV_some {k : C4} {c : UInt8} (h : k.only = some c) : k.muV = .agg #[.string ⟨#[c]⟩, .bool true] := by unfold C4.muV; rw [h]; rfl
theorem eqb_iff {x y : C4} : x.eqb y = true ↔ x = y := by
  obtain ⟨a, b, c, d⟩ := x
  obtain ⟨a', b', c', d'⟩ := y
  simp [C4.eqb, and_assoc]
/-- Block b holds what a part needs. -/
def Hmu (w : World) (b : Nat) (s : ByteArray) (f : Bool) : Prop := w.heap[b]? = some (.cells #[.string s, .bool f] 131 (0, 0))
theorem Hmu.all {w : World} {b : Nat} {s : ByteArray} {f : Bool} (h : Hmu w b s f) : w.cell? ⟨b, 0, none⟩ = some (.string s) ∧ w.cell? ⟨b, 1, none⟩ = some (.bool f) ∧ w.frozen? ⟨b, 0, none⟩ = false ∧ w.frozen? ⟨b, 1, none⟩ = false := by
  refine ⟨?_, ?_, Lib.frozen_of_heap h 0, Lib.frozen_of_heap h 1⟩
  · rw [Lib.cell_of_heap h]; rfl
  · rw [Lib.cell_of_heap h]; rfl
theorem Hmu.lt {w : World} {b : Nat} {s : ByteArray} {f : Bool} (h : Hmu w b s f) : b < w.heap.size := by
  rcases Nat.lt_or_ge b w.heap.size with h' | h'
  · exact h'
  · simp [Hmu, Array.getElem?_eq_none h'] at h
theorem Hmu.below {w w' : World} {B b : Nat} {s : ByteArray} {f : Bool} (h : Hmu w b s f) (hb : Below B w w') (hlt : b < B) : Hmu w' b s f := (hb.block b hlt).trans h
theorem Hmu.alloc {w : World} {b : Nat} {s : ByteArray} {f : Bool} (h : Hmu w b s f) (o : Obj) : Hmu (w.alloc o) b s f := (Below.heap_alloc w o b h.lt).trans h
theorem Hmu.new (w : World) (s : ByteArray) (f : Bool) (b : Nat) (hb : b = w.heap.size) : Hmu (w.alloc (.cells #[.string s, .bool f] 131)) b s f := by subst hb; exact heap_alloc_new w _
theorem Hmu.other {w : World} {b : Nat} {s : ByteArray} {f : Bool} (h : Hmu w b s f) (p : Addr) (v : Value) (hp : b ≠ p.block) : Hmu (w.setCell p v) b s f := (Below.heap_setCell w p v b hp).trans h
/-- What a part needs is stored. -/
theorem Hmu.put {w : World} {b : Nat} {s : ByteArray} {f : Bool} (h : Hmu w b s f) (s' : ByteArray) (f' : Bool) : Hmu ((w.setCell ⟨b, 0, none⟩ (.string s')).setCell ⟨b, 1, none⟩ (.bool f')) b s' f' := by
  unfold Hmu at h ⊢
  simp [World.setCell, Array.getElem?_modify, h]
theorem below_putM {w0 w : World} {B b : Nat} (h : Below B w0 w) (hb : B ≤ b) (v v' : Value) : Below B w0 ((w.setCell ⟨b, 0, none⟩ v).setCell ⟨b, 1, none⟩ v') := (h.setCell hb _).setCell hb _
set_option maxHeartbeats 4000000 in
theorem ofByte_any (k : C4) (hk : k.ok) (w : World) : Calls Tryz.prog 84 #[k.v] w fun e w' => e = .returned k.muV ∧ Below w.heap.size w w' := by
  have he := eq4
  have HOF : Hid (∀ (x : Nat) (w' : World), Calls Tryz.prog 110 #[.string ⟨#[UInt8.ofNat x]⟩] w' fun e w'' => e = .returned (C4.ofL [UInt8.ofNat x]).v ∧ Below w'.heap.size w' w'') := fun x w' => of_any ⟨#[UInt8.ofNat x]⟩ w' (by show 1 ≤ maxLen; decide)
  go_enter Tryz.func84, Tryz.ntmps84
  go_wp2
  go_loopw [5] (fun i wr => ∃ n : Nat, n ≤ 256 ∧ i = .int .i64 n ∧ Hid (∀ y, y < n → k ≠ C4.ofL [UInt8.ofNat y]) ∧ Hid (Below w.heap.size w wr) ∧ Hb wr w.heap.size k ∧ Hmu wr (w.heap.size + 1) ⟨#[]⟩ false) (fun i _ => 256 - (intOf i).toNat)
  case atStart =>
    exact ⟨0, by omega, rfl, fun y hy => by omega, ((Below.refl _ _).alloc (Nat.le_refl _) _).alloc (by simp) _, (Hb.new _ k _ rfl).alloc _, Hmu.new _ _ _ _ (by simp)⟩
  case round =>
    obtain ⟨n, hn, rfl, HU, HB, hK, hM⟩ := hrel
    by_cases hlt : n < 256
    · have i0 : (n : Int) < 256 := by omega
      have hcv := convL_byte n wr
      have hx8 : IntKind.u8.wrap (n : Int) = (n : Int) := by
        have e : IntKind.u8.wrap (n : Int) = (n : Int) % 256 := rfl
        rw [e]
        omega
      go_wp2_with fail
      have hK1 := hK.alloc (.cells #[.int .u8 (n : Int)] 5)
      obtain ⟨a0, a1, a2, a3⟩ := hK1.cr
      refine wp_region_quiet_below (by kernel_rfl) (by kernel_rfl) ?_
      repeat (go_big_quiet_step (first
        | (go_at_call 110; exact Calls.regrown_of (HOF.out _ _))))
      refine wpQuiet_nil ?_
      intro _ hw'
      obtain ⟨⟨dq, osq⟩, hw''⟩ := hw'
      have hb4 := below_regrown (wr.alloc (.cells #[.int .u8 (n : Int)] 5)) dq osq
      have g4 := hid ((HB.out.alloc HB.out.size (.cells #[.int .u8 (n : Int)] 5)).trans (hb4.mono (by have := HB.out.size; simp; omega)))
      have hK4 := hK1.below hb4 hK1.lt
      have hM4 : Hmu _ _ _ _ := Hmu.below (show Hmu (wr.alloc (.cells #[.int .u8 (n : Int)] 5)) (w.heap.size + 1) ⟨#[]⟩ false from (Below.heap_alloc wr _ _ hM.lt).trans hM) hb4 (by simp; have := hM.lt; omega)
      subst hw''
      clear a0 a1 a2 a3
      generalize hgw : Go.Sort.grow (redrawn (wr.alloc (.cells #[.int .u8 (n : Int)] 5)) dq) osq = w4 at *
      clear hgw hb4 hK1
      obtain ⟨m0, m1, z0, z1⟩ := hM4.all
      clear hM hK
      cases hq : k.eqb (C4.ofL [UInt8.ofNat n])
      · have HU2 : Hid (∀ y, y < n + 1 → k ≠ C4.ofL [UInt8.ofNat y]) := by
          intro y hy
          by_cases hyn : y = n
          · subst hyn
            intro h
            rw [← eqb_iff] at h
            rw [hq] at h
            cases h
          · exact HU.out y (by omega)
        clear hq
        go_wp2
        exact ⟨⟨n + 1, by omega, by go_num, HU2, g4, hK4, hM4⟩, by simp [intOf]; omega⟩
      · have e := eqb_iff.1 hq
        have HV : Hid (k.muV = .agg #[.string ⟨#[UInt8.ofNat n]⟩, .bool true]) := by
          show _ = _
          rw [muV_some (by rw [e]; exact only_ofL n hlt)]
        clear hq e
        go_wp2
        have hp := (hM4.put ⟨#[UInt8.ofNat n]⟩ true).all
        refine bodyPost_ret (v := .agg #[.string ⟨#[UInt8.ofNat n]⟩, .bool true]) (by simp [results, Tryz.results84, go_sem, hp.1, hp.2.1]) rfl ⟨by rw [HV.out], ?_⟩
        exact below_putM g4.out (by omega) _ _
    · have hk4 : n = 256 := by omega
      subst hk4
      obtain ⟨m0, m1, z0, z1⟩ := hM.all
      have HV : Hid (k.muV = .agg #[.string ⟨#[]⟩, .bool false]) := by
        show _ = _
        rw [muV_none ?_]
        cases ho : k.only with
        | none => rfl
        | some c => exact absurd (by rw [show UInt8.ofNat c.toNat = c from by simp]; exact ofL_only hk ho) (HU.out c.toNat c.toNat_lt)
      go_wp2
      have hp := (hM.put ⟨#[]⟩ false).all
      refine bodyPost_ret (v := .agg #[.string ⟨#[]⟩, .bool false]) (by simp [results, Tryz.results84, go_sem, hp.1, hp.2.1]) rfl ⟨by rw [HV.out], ?_⟩
      exact below_putM HB.out (by omega) _ _
end Go.Proofs.YtejbififfceamaaGreatDoor
namespace Go.Proofs.YtejbififfceamaaGreatDoor
set_option linter.unusedSimpArgs false
set_option linter.unusedVariables false
set_option maxRecDepth 100000
open Go.RowKit
theorem ned_whl {t : Rx} {x : List UInt8} (h : t.whl = some x) : t.ned = x := by
  cases t with
  | leaf n => unfold Rx.ned; rw [h]; rfl
  | one n a => simp [Rx.whl] at h
  | two n a b => unfold Rx.ned; rw [h]
theorem ned_len : ∀ (t : Rx), t.ned.length ≤ t.flat.length
  | .leaf n => by
    unfold Rx.ned
    cases h : (Rx.leaf n).whl with
    | none => simp
    | some x => simpa using whl_len _ x h
  | .one n a => by
    unfold Rx.ned
    have := ned_len a
    split
    · simp [Rx.flat]; omega
    · simp
  | .two n a b => by
    unfold Rx.ned
    cases h : (Rx.two n a b).whl with
    | some x => exact whl_len _ x h
    | none =>
      simp only
      have h1 := ned_len a
      have h2 := ned_len b
      split
      · rcases longer_cases a.ned b.ned with e | e <;> rw [e] <;> simp [Rx.flat] <;> omega
      · simp
/-- NeededOf answers of the part at i as the tree t says. -/
def NeOk (ns : List Nd) (b off cap : Nat) (t : Rx) (i : Nat) : Prop := ∀ w : World, b < w.heap.size → NsAt w b off ns →
  Calls Tryz.prog 29 #[.slice (some ⟨b, off, none⟩) ns.length cap, .int .i64 (i : Int)] w fun e w' => e = .returned (.string ⟨t.ned.toArray⟩) ∧ Below w.heap.size w w'
set_option maxHeartbeats 4000000 in
theorem ne_whole (ns : List Nd) (hl : ns.length ≤ 60) (b off cap i : Nat) (t : Rx) (x : List UInt8) (hx : t.whl = some x) (hi : i < ns.length) (hW : WhOk ns b off cap t i) : NeOk ns b off cap t i := by
  intro w hlt hN
  have HW := hid (hW w hlt hN)
  unfold whV at HW
  rw [ned_whl hx]
  rw [hx] at HW
  simp only [Option.getD_some, Option.isSome_some] at HW
  clear hW hN
  go_enter Tryz.func29, Tryz.ntmps29
  go_wp2_with fail
  refine Calls.mono HW.out ?_
  rintro e w1 ⟨rfl, hb⟩
  have B := hid hb
  clear hb
  go_wp2
  go_ret
  exact ⟨rfl, B.out⟩
set_option maxHeartbeats 4000000 in
theorem ne_nothing (ns : List Nd) (hl : ns.length ≤ 60) (b off cap i : Nat) (n : Nd) (t : Rx) (hx : t.whl = none) (hd : t.ned = []) (hn : ns[i]? = some n) (hi : i < ns.length) (h3 : n.op ≠ 3) (h6 : n.op ≠ 6) (hW : WhOk ns b off cap t i) : NeOk ns b off cap t i := by
  intro w hlt hN
  have HW := hid (hW w hlt hN)
  unfold whV at HW
  rw [hx] at HW
  simp only [Option.getD_none, Option.isSome_none] at HW
  rw [hd]
  have HN := hid hN
  have i0 : (0 : Int) ≤ (i : Int) := by omega
  have i1 : (i : Int) < (ns.length : Int) := by omega
  have g3 : (n.op == 3) = false := by simp [h3]
  have g6 : (n.op == 6) = false := by simp [h6]
  clear hW hN h3 h6
  go_enter Tryz.func29, Tryz.ntmps29
  go_wp2_with fail
  refine Calls.mono HW.out ?_
  rintro e w1 ⟨rfl, hb⟩
  have B := hid hb
  obtain ⟨c0, c1, c2, c3, c4⟩ := (HN.out.below hb hlt) i n hn
  clear hb
  go_wp2
  go_ret
  exact ⟨rfl, B.out⟩
set_option maxHeartbeats 4000000 in
theorem ne_plus (ns : List Nd) (hl : ns.length ≤ 60) (b off cap i : Nat) (n : Nd) (a : Rx) (hn : ns[i]? = some n) (hi : i < ns.length) (h6 : n.op = 6) (hW : WhOk ns b off cap (.one n a) i) (hA : NeOk ns b off cap a (i + 1)) : NeOk ns b off cap (.one n a) i := by
  intro w hlt hN
  have HW := hid (hW w hlt hN)
  unfold whV at HW
  rw [show (Rx.one n a).whl = none from rfl] at HW
  simp only [Option.getD_none, Option.isSome_none] at HW
  have HA : Hid (∀ w', Below w.heap.size w w' → _) := fun w' hb => hA w' (Nat.lt_of_lt_of_le hlt hb.size) (hN.below hb hlt)
  have HD : Hid ((Rx.one n a).ned = a.ned) := by show _ = _; rw [Rx.ned, if_pos h6]
  rw [HD.out]
  have HN := hid hN
  have i0 : (0 : Int) ≤ (i : Int) := by omega
  have i1 : (i : Int) < (ns.length : Int) := by omega
  have hk : Hid ((i : Int) + 1 = ((i + 1 : Nat) : Int)) := by show _ = _; omega
  have g3 : (n.op == 3) = false := by simp [h6]
  have g6 : (n.op == 6) = true := by simp [h6]
  clear hW hN h6 hA
  go_enter Tryz.func29, Tryz.ntmps29
  go_wp2_with fail
  refine Calls.mono HW.out ?_
  rintro e w1 ⟨rfl, hb⟩
  have B := hid hb
  obtain ⟨c0, c1, c2, c3, c4⟩ := (HN.out.below hb hlt) i n hn
  clear hb
  go_wp2_with fail
  rw [hk.out]
  refine Calls.mono (HA.out _ B.out) ?_
  rintro e w2 ⟨rfl, hb⟩
  replace B := hid (B.out.trans (hb.mono B.out.size))
  clear hb
  go_wp2
  go_ret
  exact ⟨rfl, B.out⟩
set_option maxHeartbeats 4000000 in
theorem ne_cat (ns : List Nd) (hl : ns.length ≤ 60) (b off cap i : Nat) (n : Nd) (x y : Rx) (hw : (Rx.two n x y).whl = none) (hn : ns[i]? = some n) (hi : i < ns.length) (hop : n.op = 3) (he : endE ns (i + 1) = some (i + 1 + x.flat.length)) (hxl : x.flat.length ≤ 60) (hyl : y.flat.length ≤ 60) (hW : WhOk ns b off cap (.two n x y) i) (hX : NeOk ns b off cap x (i + 1)) (hY : NeOk ns b off cap y (i + 1 + x.flat.length)) : NeOk ns b off cap (.two n x y) i := by
  intro w hlt hN
  have HW := hid (hW w hlt hN)
  unfold whV at HW
  rw [hw] at HW
  simp only [Option.getD_none, Option.isSome_none] at HW
  have HX : Hid (∀ w', Below w.heap.size w w' → _) := fun w' hb => hX w' (Nat.lt_of_lt_of_le hlt hb.size) (hN.below hb hlt)
  have HY : Hid (∀ w', Below w.heap.size w w' → _) := fun w' hb => hY w' (Nat.lt_of_lt_of_le hlt hb.size) (hN.below hb hlt)
  have HEN : Hid (∀ w', Below w.heap.size w w' → _) := fun w' hb => endOf_any ns (.slice (some ⟨b, off, none⟩) ns.length cap) (i + 1) w' ⟨_, _, rfl, by unfold maxLen; omega, Or.inr ⟨b, off, rfl, Nat.lt_of_lt_of_le hlt hb.size, hN.below hb hlt⟩⟩
  rw [he, show endI (some (i + 1 + x.flat.length)) = ((i + 1 + x.flat.length : Nat) : Int) from rfl] at HEN
  have HD : Hid ((Rx.two n x y).ned = longer x.ned y.ned) := by show _ = _; rw [Rx.ned, hw]; simp only; rw [if_pos hop]
  rw [HD.out]
  have HN := hid hN
  have hlx := ned_len x
  have hly := ned_len y
  have s1 : (⟨x.ned.toArray⟩ : ByteArray).size = x.ned.length := size_str _
  have s2 : (⟨y.ned.toArray⟩ : ByteArray).size = y.ned.length := size_str _
  have i0 : (0 : Int) ≤ (i : Int) := by omega
  have i1 : (i : Int) < (ns.length : Int) := by omega
  have hk : Hid ((i : Int) + 1 = ((i + 1 : Nat) : Int)) := by show _ = _; omega
  have g3 : (n.op == 3) = true := by simp [hop]
  clear hW hN hop hX hY he hw
  go_enter Tryz.func29, Tryz.ntmps29
  go_wp2_with fail
  refine Calls.mono HW.out ?_
  rintro e w1 ⟨rfl, hb⟩
  have B := hid hb
  obtain ⟨c0, c1, c2, c3, c4⟩ := (HN.out.below hb hlt) i n hn
  clear hb
  go_wp2_with fail
  rw [hk.out]
  refine Calls.mono (HX.out _ B.out) ?_
  rintro e w2 ⟨rfl, hb⟩
  replace B := hid (B.out.trans (hb.mono B.out.size))
  clear hb c0 c1 c2 c3 c4
  go_wp2_with fail
  rw [hk.out]
  refine Calls.mono (HEN.out _ B.out) ?_
  rintro e w3 ⟨rfl, rfl⟩
  go_wp2_with fail
  refine Calls.mono (HY.out _ B.out) ?_
  rintro e w4 ⟨rfl, hb⟩
  replace B := hid (B.out.trans (hb.mono B.out.size))
  clear hb
  by_cases hc : x.ned.length < y.ned.length
  · have g4 : ((⟨x.ned.toArray⟩ : ByteArray).size : Int) < ((⟨y.ned.toArray⟩ : ByteArray).size : Int) := by rw [s1, s2]; omega
    have HL : Hid (longer x.ned y.ned = y.ned) := by show _ = _; unfold longer; rw [if_pos hc]
    have hcd : decide (x.ned.length < y.ned.length) = true := by simp only [hc, decide_true, decide_false]
    clear s1 s2 g4
    go_wp2
    go_ret
    exact ⟨by rw [HL.out]; rfl, B.out⟩
  · have g4 : ¬ ((⟨x.ned.toArray⟩ : ByteArray).size : Int) < ((⟨y.ned.toArray⟩ : ByteArray).size : Int) := by rw [s1, s2]; omega
    have HL : Hid (longer x.ned y.ned = x.ned) := by show _ = _; unfold longer; rw [if_neg hc]
    have hcd : decide (x.ned.length < y.ned.length) = false := by simp only [hc, decide_true, decide_false]
    clear s1 s2 g4
    go_wp2
    go_ret
    exact ⟨by rw [HL.out]; rfl, B.out⟩
/-- NeededOf at every tree. -/
theorem ne_tree (b off cap : Nat) : ∀ (t : Rx), t.Ok → ∀ (p q : List Nd), (∀ n ∈ t.flat, (1 ≤ n.op ∧ n.op ≤ 9) ∧ n.c.ok) → (p ++ t.flat ++ q).length ≤ 60 → NeOk (p ++ t.flat ++ q) b off cap t p.length
  | .leaf n, h, p, q, ho, hl => by
    have hW := wh_tree b off cap (.leaf n) h p q ho hl
    cases hx : (Rx.leaf n).whl with
    | some x => exact ne_whole _ hl b off cap p.length _ x hx (by simp [Rx.flat]) hW
    | none =>
      have h0 : prt n.op = 0 := h
      have h2 : ¬ prt n.op = 2 := by omega
      have h3 : ¬ prt n.op = 1 := by omega
      rw [prt_two] at h2
      rw [prt_one] at h3
      exact ne_nothing _ hl b off cap p.length n _ hx (by unfold Rx.ned; rw [hx]; rfl) (by simp [Rx.flat]) (by simp [Rx.flat]) (by omega) (by omega) hW
  | .one n a, h, p, q, ho, hl => by
    have hW := wh_tree b off cap (.one n a) h p q ho hl
    by_cases h6 : n.op = 6
    · have e : p ++ (Rx.one n a).flat ++ q = (p ++ [n]) ++ a.flat ++ q := by simp [Rx.flat]
      have ih := ne_tree b off cap a h.2 (p ++ [n]) q (fun m hm => ho m (by simp [Rx.flat, hm])) (by rw [← e]; exact hl)
      rw [← e, show (p ++ [n]).length = p.length + 1 from by simp] at ih
      exact ne_plus _ hl b off cap p.length n a (by simp [Rx.flat]) (by simp [Rx.flat]) h6 hW ih
    · have hop := (prt_one n.op).1 h.1
      exact ne_nothing _ hl b off cap p.length n _ rfl (by rw [Rx.ned, if_neg h6]) (by simp [Rx.flat]) (by simp [Rx.flat]) (by omega) h6 hW
  | .two n x y, h, p, q, ho, hl => by
    have hW := wh_tree b off cap (.two n x y) h p q ho hl
    cases hw : (Rx.two n x y).whl with
    | some z => exact ne_whole _ hl b off cap p.length _ z hw (by simp [Rx.flat]) hW
    | none =>
      have e1 : p ++ (Rx.two n x y).flat ++ q = (p ++ [n]) ++ x.flat ++ (y.flat ++ q) := by simp [Rx.flat]
      have e2 : p ++ (Rx.two n x y).flat ++ q = (p ++ [n] ++ x.flat) ++ y.flat ++ q := by simp [Rx.flat]
      rcases (prt_two n.op).1 h.1 with hop | hop
      · have ih1 := ne_tree b off cap x h.2.1 (p ++ [n]) (y.flat ++ q) (fun m hm => ho m (by simp [Rx.flat, hm])) (by rw [← e1]; exact hl)
        have ih2 := ne_tree b off cap y h.2.2 (p ++ [n] ++ x.flat) q (fun m hm => ho m (by simp [Rx.flat, hm])) (by rw [← e2]; exact hl)
        rw [← e1, show (p ++ [n]).length = p.length + 1 from by simp] at ih1
        rw [← e2, show (p ++ [n] ++ x.flat).length = p.length + 1 + x.flat.length from by simp; omega] at ih2
        have hb : x.flat.length ≤ 60 ∧ y.flat.length ≤ 60 := by
          rw [e1] at hl
          simp at hl
          omega
        exact ne_cat _ hl b off cap p.length n x y hw (by simp [Rx.flat]) (by simp [Rx.flat]) hop (end_at p q n x y h.2.1 _ rfl) hb.1 hb.2 hW ih1 ih2
      · exact ne_nothing _ hl b off cap p.length n _ hw (by rw [Rx.ned, hw]; simp only; rw [if_neg (by omega)]) (by simp [Rx.flat]) (by simp [Rx.flat]) (by omega) (by omega) hW
/-- What the two answer of a pattern that may be. -/
theorem wholeOf_any (t : Rx) (ht : t.Ok) (hf : faultL t.flat = 0) (hok : ∀ n ∈ t.flat, n.c.ok) (v : Value) (w : World) (h : NsIn w v t.flat) :
    Calls Tryz.prog 41 #[v, .int .i64 0] w fun e w' => e = .returned (whV t) ∧ Below w.heap.size w w' := by
  obtain ⟨h60, hops, -⟩ := (faultL_zero t.flat).1 hf
  have hpos := t.flat_pos
  obtain ⟨a, cap, rfl, hm, h | ⟨b, off, rfl, hlt, hn⟩⟩ := h
  · rw [h] at hpos; simp at hpos
  · have := wh_tree b off cap t ht [] [] (fun n hn => ⟨(hops n hn).1, hok n hn⟩) (by simpa using h60)
    simp only [List.nil_append, List.append_nil, List.length_nil] at this
    exact this w hlt hn
theorem neededOf_any (t : Rx) (ht : t.Ok) (hf : faultL t.flat = 0) (hok : ∀ n ∈ t.flat, n.c.ok) (v : Value) (w : World) (h : NsIn w v t.flat) :
    Calls Tryz.prog 29 #[v, .int .i64 0] w fun e w' => e = .returned (.string ⟨t.ned.toArray⟩) ∧ Below w.heap.size w w' := by
  obtain ⟨h60, hops, -⟩ := (faultL_zero t.flat).1 hf
  have hpos := t.flat_pos
  obtain ⟨a, cap, rfl, hm, h | ⟨b, off, rfl, hlt, hn⟩⟩ := h
  · rw [h] at hpos; simp at hpos
  · have := ne_tree b off cap t ht [] [] (fun n hn => ⟨(hops n hn).1, hok n hn⟩) (by simpa using h60)
    simp only [List.nil_append, List.append_nil, List.length_nil] at this
    exact this w hlt hn
end Go.Proofs.YtejbififfceamaaGreatDoor
namespace Go.Proofs.YtejbififfceamaaGreatDoor
set_option linter.unusedSimpArgs false
set_option linter.unusedVariables false
set_option maxRecDepth 100000
open Go.RowKit

/-- So many parts are missing: how many nodes they are, and whether all are there. -/
def beh : List Nd → Nat → Nat × Bool
  | _, 0 => (0, true)
  | [], _ + 1 => (0, false)
  | n :: r, m + 1 => ((beh r (m + prt n.op)).1 + 1, (beh r (m + prt n.op)).2)
theorem beh_zero (l : List Nd) : beh l 0 = (0, true) := by cases l <;> rfl
theorem beh_flat : ∀ (t : Rx), t.Ok → ∀ (q : List Nd) (m : Nat), beh (t.flat ++ q) (m + 1) = ((beh q m).1 + t.flat.length, (beh q m).2)
  | .leaf n, h, q, m => by
    have h0 : prt n.op = 0 := h
    simp [Rx.flat, beh, h0]
  | .one n a, h, q, m => by
    have ih := beh_flat a h.2 q m
    simp [Rx.flat, beh, h.1, ih]; omega
  | .two n a b, h, q, m => by
    have ih := beh_flat a h.2.1 (b.flat ++ q) (m + 1)
    have ih2 := beh_flat b h.2.2 q m
    rw [ih2] at ih
    simp only [Rx.flat, List.cons_append, List.append_assoc, beh, h.1, ih, List.length_cons, List.length_append]
    refine Prod.ext ?_ rfl
    simp only
    omega
theorem beh_le : ∀ (l : List Nd) (m : Nat), (beh l m).1 ≤ l.length
  | l, 0 => by rw [beh_zero]; simp
  | [], m + 1 => by simp [beh]
  | n :: r, m + 1 => by
    have := beh_le r (m + prt n.op)
    simp [beh]; omega
theorem beh_trees : ∀ (l : List Nd) (m : Nat), (beh l m).2 = true → ∃ (ts : List Rx) (q : List Nd), ts.length = m ∧ (∀ t ∈ ts, t.Ok) ∧ l = (ts.map Rx.flat).flatten ++ q ∧ (beh l m).1 = (ts.map Rx.flat).flatten.length
  | l, 0, h => ⟨[], l, rfl, by simp, by simp, by rw [beh_zero]; rfl⟩
  | [], m + 1, h => by simp [beh] at h
  | n :: r, m + 1, h => by
    simp only [beh] at h
    obtain ⟨ts, q, hl, hok, he, hk⟩ := beh_trees r (m + prt n.op) h
    have hp := prt_le n.op
    have h3 : prt n.op = 0 ∨ prt n.op = 1 ∨ prt n.op = 2 := by omega
    rcases h3 with h0 | h0 | h0
    · refine ⟨.leaf n :: ts, q, by simp; omega, ?_, by simp [he, Rx.flat], by simp [beh, hk, Rx.flat]⟩
      intro t ht
      rcases List.mem_cons.1 ht with rfl | ht
      · exact h0
      · exact hok t ht
    · match ts, hl, hok, he, hk with
      | [], hl, _, _, _ => simp at hl; omega
      | a :: ts, hl, hok, he, hk =>
        refine ⟨.one n a :: ts, q, by simp at hl ⊢; omega, ?_, by simp [he, Rx.flat], by simp [beh, hk, Rx.flat]⟩
        intro t ht
        rcases List.mem_cons.1 ht with rfl | ht
        · exact ⟨h0, hok a (by simp)⟩
        · exact hok t (by simp [ht])
    · match ts, hl, hok, he, hk with
      | [], hl, _, _, _ => simp at hl; omega
      | [a], hl, _, _, _ => simp at hl; omega
      | a :: b :: ts, hl, hok, he, hk =>
        refine ⟨.two n a b :: ts, q, by simp at hl ⊢; omega, ?_, by simp [he, Rx.flat], by simp [beh, hk, Rx.flat]⟩
        intro t ht
        rcases List.mem_cons.1 ht with rfl | ht
        · exact ⟨h0, hok a (by simp), hok b (by simp)⟩
        · exact hok t (by simp [ht])
theorem beh_end (ns : List Nd) (h : (beh ns 1).2 = true) : endE ns 0 = some (beh ns 1).1 := by
  obtain ⟨ts, q, hl, hok, he, hk⟩ := beh_trees ns 1 h
  match ts, hl, hok, he, hk with
  | [t], hl, hok, he, hk =>
    have e : ns = t.flat ++ q := by simpa using he
    have e2 : (beh ns 1).1 = t.flat.length := by simpa using hk
    have := endE_mid t (hok t (by simp)) [] q
    rw [e2, e]
    simpa using this
theorem end_beh (ns : List Nd) (f i j : Nat) (h : endF ns f i = some j) : (beh (ns.drop i) 1).2 = true ∧ i + (beh (ns.drop i) 1).1 = j := by
  obtain ⟨t, ht, q, e, ej⟩ := part_tree ns f i j h
  have := beh_flat t ht q 0
  rw [e, this, beh_zero]
  refine ⟨rfl, ?_⟩
  simp only
  omega
/-- The fault of nodes that are fine one by one. -/
theorem fault_beh (ns : List Nd) (h60 : ¬ 60 < ns.length) (h0 : scanL ns = 0) : faultL ns = if (beh ns 1).2 = true ∧ ns.length ≤ (beh ns 1).1 then 0 else 2 := by
  rw [faultL, if_neg h60, h0, if_neg (by simp)]
  by_cases h : (beh ns 1).2 = true ∧ ns.length ≤ (beh ns 1).1
  · have e := beh_end ns h.1
    have hl := beh_le ns 1
    have e2 : (beh ns 1).1 = ns.length := by omega
    rw [e2] at e
    have hne : ns ≠ [] := by rintro rfl; rw [endE_nil] at e; cases e
    rw [if_pos h, if_neg (by simp [e, hne])]
  · rw [if_neg h, if_pos]
    refine Or.inr fun e => h ?_
    have := end_beh ns _ 0 _ e
    rw [List.drop_zero] at this
    exact ⟨this.1, by omega⟩
/-- Each node of a valid pattern begins a part. -/
theorem tree_sub : ∀ (t : Rx), t.Ok → ∀ i, i < t.flat.length → ∃ s : Rx, s.Ok ∧ ∃ q, t.flat.drop i = s.flat ++ q
  | t, ht, 0, _ => ⟨t, ht, [], by simp⟩
  | .leaf n, ht, i + 1, h => by simp [Rx.flat] at h
  | .one n a, ht, i + 1, h => by
    obtain ⟨s, hs, q, e⟩ := tree_sub a ht.2 i (by simp [Rx.flat] at h; omega)
    exact ⟨s, hs, q, by simpa [Rx.flat] using e⟩
  | .two n a b, ht, i + 1, h => by
    by_cases hi : i < a.flat.length
    · obtain ⟨s, hs, q, e⟩ := tree_sub a ht.2.1 i hi
      refine ⟨s, hs, q ++ b.flat, ?_⟩
      simp only [Rx.flat, List.drop_succ_cons]
      rw [List.drop_append_of_le_length (by omega), e, List.append_assoc]
    · obtain ⟨s, hs, q, e⟩ := tree_sub b ht.2.2 (i - a.flat.length) (by simp [Rx.flat] at h; omega)
      refine ⟨s, hs, q, ?_⟩
      simp only [Rx.flat, List.drop_succ_cons]
      rw [List.drop_append, List.drop_eq_nil_of_le (by omega), List.nil_append, e]
theorem part_at (ns : List Nd) (hv : endE ns 0 = some ns.length) (i : Nat) (hi : i < ns.length) : ∃ j, endE ns i = some j := by
  obtain ⟨t, ht, rfl⟩ := tree_of ns hv
  obtain ⟨s, hs, q, e⟩ := tree_sub t ht i hi
  have h := endE_mid s hs (t.flat.take i) q
  have e1 : (t.flat.take i).length = i := by simp; omega
  have e2 : t.flat.take i ++ s.flat ++ q = t.flat := by rw [List.append_assoc, ← e, List.take_append_drop]
  rw [e1, e2] at h
  exact ⟨_, h⟩
theorem beh_step (ns : List Nd) (i m : Nat) (n : Nd) (hn : ns[i]? = some n) : beh (ns.drop i) (m + 1) = ((beh (ns.drop (i + 1)) (m + prt n.op)).1 + 1, (beh (ns.drop (i + 1)) (m + prt n.op)).2) := by
  have hi : i < ns.length := by
    rcases Nat.lt_or_ge i ns.length with h | h
    · exact h
    · rw [List.getElem?_eq_none h] at hn; cases hn
  rw [List.drop_eq_getElem_cons hi]
  rw [List.getElem?_eq_getElem hi] at hn
  rw [Option.some.inj hn, beh]
end Go.Proofs.YtejbififfceamaaGreatDoor

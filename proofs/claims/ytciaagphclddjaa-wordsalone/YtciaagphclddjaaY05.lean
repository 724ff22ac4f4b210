/- Lists of texts of the call's own: append. The law WordsMore, walked from what the document asks of package words. (Made by wip/tools/genwdm.py.) append of hits that lie anywhere. -/
import Derived.Test.YtciaagphclddjaaY02
import Derived.Test.YtciaagphclddjaaY04
import Derived.Deep.AppendLies
import Derived.Deep.CutRange
namespace Go.Proofs.Ytciaagphclddjaa
set_option linter.unusedSimpArgs false
set_option linter.unusedVariables false
set_option maxRecDepth 100000
open Go.RowKit
def tsCells (l : List ByteArray) : List Value := l.map Value.string
def TsOwn (w : World) (B : Nat) (v : Value) (l : List ByteArray) : Prop := w.ownsRow B 9 1 v l.length (tsCells l)
theorem TsOwn.nil (w : World) (B : Nat) : TsOwn w B (.slice none 0 0) [] := ⟨rfl, Or.inl ⟨rfl, rfl⟩⟩
theorem TsOwn.form {w : World} {B : Nat} {v : Value} {l : List ByteArray} (h : TsOwn w B v l) : ∃ a cap, v = .slice a l.length cap := by
  rcases h.2 with ⟨hv, hn⟩ | ⟨g, cap, cur, hv, _⟩
  · exact ⟨none, 0, by rw [hv, hn]⟩
  · exact ⟨_, cap, hv⟩
theorem TsOwn.isIn {w : World} {B : Nat} {v : Value} {l : List ByteArray} (h : TsOwn w B v l) (hm : l.length ≤ maxLen) : TsIn w v l := by
  rcases h.2 with ⟨hv, hn⟩ | ⟨g, cap, cur, hv, hb, hh, hnc, hcm, hcs, htk⟩
  · exact ⟨none, 0, by rw [hv, hn], ⟨by omega, by unfold maxLen; omega⟩, Or.inl (List.length_eq_zero_iff.1 hn)⟩
  · refine ⟨_, cap, hv, ⟨hnc, hcm⟩, Or.inr ⟨g, 0, rfl, (Array.getElem?_eq_some_iff.1 hh).1, fun i t hi => ?_⟩⟩
    rw [Lib.cell_of_heap hh, Nat.zero_add]
    have hi' : i < l.length := (List.getElem?_eq_some_iff.1 hi).1
    have e : (tsCells l)[i]? = some (.string t) := by simp [tsCells, hi]
    rw [← htk, List.getElem?_take_of_lt (by omega)] at e
    simpa using e
theorem TsOwn.kept {w w' : World} {B : Nat} {v : Value} {l : List ByteArray} (h : TsOwn w B v l) (hb : Below w.heap.size w w') : TsOwn w' B v l := by
  refine World.ownsRow.kept (row := none) h ⟨hb.os, hb.tape, hb.output, hb.size, fun k hk _ => hb.block k hk⟩ ?_
  cases hv : v.ownBlock with
  | none => exact Or.inl rfl
  | some x => exact Or.inr (by simp)
theorem TsOwn.ne {w : World} {B : Nat} {v : Value} {l : List ByteArray} (h : TsOwn w B v l) (k : Nat) (hk : v.ownBlock = some k) : B ≤ k := by
  rcases h.2 with ⟨hv, _⟩ | ⟨g, cap, cur, hv, hb, _⟩
  · rw [hv] at hk; cases hk
  · rw [hv] at hk
    injection hk with hk
    simp only at hk
    omega
theorem TsOwn.grown {w w' : World} {B : Nat} {v : Value} {l : List ByteArray} (h : TsOwn w B v l) (hB : B ≤ w.heap.size) (hg : w.grownBy w' v.ownBlock) : Below B w w' :=
  (Below.refl B w).grown hg hB (fun k e => h.ne k e)
theorem wpList_append_ts {ops : Array Oper} {rest : List Oper} {o : Oper} {a : Act} {Q : Exit → Act → World → Prop} {w : World} (hgd : o.guard = none) (s x : Operand)
    (ho : o.op = .call { callee := .builtin .append, args := #[s, x], argTypes := #[36, 36] })
    (B : Nat) (v : Value) (hs : a.eval s = v) (l : List ByteArray) (hown : TsOwn w B v l) (b off cap : Nat) (m : List ByteArray) (hx : a.eval x = .slice (some ⟨b, off, none⟩) m.length cap) (h0 : 0 < m.length)
    (hnews : ∀ i t, m[i]? = some t → w.cell? ⟨b, off + i, none⟩ = some (.string t)) (hbytes : (l.length + m.length) * 16 ≤ 140737488355328) (hbase : B ≤ w.heap.size)
    (h : ∀ g c w', TsOwn w' B (.slice (some ⟨g, 0, none⟩) (l ++ m).length c) (l ++ m) → w.grownBy w' v.ownBlock → wpList Try.prog ops Q rest (a.put o.dst (.slice (some ⟨g, 0, none⟩) (l.length + m.length) c)) w') : wpList Try.prog ops Q (o :: rest) a w := by
  have hinfo : (Try.prog.info? 9).map (fun i => (i.zero, i.size, i.bytes)) = some (some (.string ByteArray.empty), 1, 16) := by kernel_rfl
  obtain ⟨i0, hi, hz0, hz1, hz2⟩ := info_parts hinfo
  refine wpList_append_lies w hgd s x 36 ho B 9 i0 _ 1 16 Try.underlying36 hi hz0 hz1 hz2 rfl (by decide) v l.length (tsCells l) hs hown ⟨b, off, none⟩ m.length cap (tsCells m) hx (by simp [tsCells]) ?_ ?_ h0 (by unfold maxLen; omega) hbytes hbase w.heap.size rfl ?_
  · intro j u hj
    rw [Addr.add_lit]
    simp only [tsCells, List.getElem?_map, Option.map_eq_some_iff] at hj
    obtain ⟨t, ht, rfl⟩ := hj
    exact hnews j t ht
  · intro u hu
    simp only [tsCells, List.mem_map] at hu
    obtain ⟨t, _, rfl⟩ := hu
    rfl
  · intro g c w' h1 h2 _ _
    refine h g c w' ?_ h2
    unfold TsOwn tsCells
    rw [List.length_append, List.map_append]
    exact h1
theorem append_ts_nil (a : Option Addr) (cap : Nat) (ty : TypeId) (w : World) : (Builtin.append_ #[36, 36] ty #[.slice none 0 0, .slice a 0 cap]).run Try.prog w = .ok (.slice none 0 0) w := by
  cases a <;> kernel_rfl
/-- append of nothing to nothing. -/
theorem wpList_append_ts0 {ops : Array Oper} {rest : List Oper} {o : Oper} {a : Act} {Q : Exit → Act → World → Prop} {w : World} (hgd : o.guard = none) (s x : Operand)
    (ho : o.op = .call { callee := .builtin .append, args := #[s, x], argTypes := #[36, 36] })
    (hs : a.eval s = .slice none 0 0) (z : Option Addr) (cap : Nat) (hx : a.eval x = .slice z 0 cap)
    (h : wpList Try.prog ops Q rest (a.put o.dst (.slice none 0 0)) w) : wpList Try.prog ops Q (o :: rest) a w := by
  refine wpList_plain hgd fun K hK => ?_
  unfold Oper.wp execOp
  simp only [ho, resolve, invoke, builtin, Sem.run_bind, Sem.run_pure, Result.andThen_ok, List.map_toArray, List.map_cons, List.map_nil, hs, hx, append_ts_nil]
  exact hK _ _ h
end Go.Proofs.Ytciaagphclddjaa
namespace Go.Proofs.Ytciaagphclddjaa
set_option linter.unusedSimpArgs false
set_option linter.unusedVariables false
set_option maxRecDepth 100000
open Go.RowKit
/-- What All answers: the hits, or an error and nothing. -/
noncomputable def allR (l : List ByteArray) (s : ByteArray) : List Ht := @ite _ (wE l s.size = 0) (Classical.propDecidable _) (hits (wdL l) s.data.toList) []
theorem allR_ok {l : List ByteArray} {s : ByteArray} (h : wE l s.size = 0) : allR l s = hits (wdL l) s.data.toList := by unfold allR; rw [if_pos h]
theorem allR_bad {l : List ByteArray} {s : ByteArray} (h : ¬ wE l s.size = 0) : allR l s = [] := by unfold allR; rw [if_neg h]
theorem WordsL.any {X : World → Prop} (W : WordsL X) (l : List ByteArray) (v : Value) (s : ByteArray) (w : World) (hX : X w) (hN : TsIn w v l) (wN : ∀ x ∈ l, x.size ≤ maxLen) (hs : s.size ≤ maxLen) :
    Calls Try.prog 9 #[v, .string s] w fun e w' => ∃ a c, e = .returned (.tuple #[.slice a (allR l s).length c, errV (wE l s.size)]) ∧ Below w.heap.size w w' ∧ HtIn w' (.slice a (allR l s).length c) (allR l s) := by
  by_cases h : wE l s.size = 0
  · rw [allR_ok h, h, show errV 0 = .nilIface from rfl]
    refine (W.all l v s w hX hN wN h).mono ?_
    rintro e w' ⟨u, rfl, hb, hu⟩
    obtain ⟨a, c, rfl, _⟩ := htIn_form hu
    exact ⟨a, c, rfl, hb, hu⟩
  · rw [allR_bad h]
    refine (W.bad l v s w hN wN hs h).mono ?_
    rintro e w' ⟨u, rfl, hb, hu⟩
    obtain ⟨a, c, rfl, _⟩ := htIn_form hu
    exact ⟨a, c, rfl, hb, hu⟩
theorem wF_one {x : ByteArray} (h1 : 1 ≤ x.size) (h2 : x.size ≤ 20) : wF [x] = 0 := by
  unfold wF
  rw [if_neg (by simp)]
  refine wFrom_of [x] _ 0 fun k _ hk => ?_
  obtain rfl : k = 0 := by simp at hk; omega
  exact wBad_ok (x := x) rfl (by omega) (fun ⟨m, hm, _⟩ => by omega)
theorem all_b : allR [⟨#[98]⟩] ⟨#[97, 98]⟩ = [(0, 1, 2)] ∧ wE [⟨#[98]⟩] (ByteArray.mk #[97, 98]).size = 0 := by
  have h : wE [⟨#[98]⟩] (ByteArray.mk #[97, 98]).size = 0 := (wE_zero _ _).2 ⟨wF_one (by decide) (by decide), by decide⟩
  exact ⟨(allR_ok h).trans (by decide), h⟩
theorem hits_more (l : List (List UInt8)) (w s : List UInt8) : (hits (l ++ [w]) s).filter (fun h => decide (h.1 < l.length)) = hits l s ∧ ((hits (l ++ [w]) s).filter (fun h => ! decide (h.1 < l.length))).length = (hits [w] s).length := by
  obtain ⟨h1, h2⟩ := hitsTo_more l w s (s.length + 1)
  refine ⟨h1, ?_⟩
  unfold hits
  rw [h2, List.length_map]
theorem wE_more {l : List ByteArray} {y : ByteArray} {n : Nat} (h : wE (l ++ [y]) n = 0) : wE l n = 0 ∧ wE [y] n = 0 := by
  obtain ⟨h1, h2⟩ := (wE_zero _ _).1 h
  obtain ⟨h3, h4⟩ := wF_less h1
  exact ⟨(wE_zero _ _).2 ⟨h3, h2⟩, (wE_zero _ _).2 ⟨h4, h2⟩⟩
theorem hits_long (l : List ByteArray) (hl : l.length ≤ 20) (s : List UInt8) (hs : s.length ≤ 400) : (hits (wdL l) s).length ≤ 8020 := by
  have h1 := hitsTo_len (wdL l) s (s.length + 1)
  rw [wdL_len] at h1
  exact Nat.le_trans h1 (Nat.le_trans (Nat.mul_le_mul (show s.length + 1 ≤ 401 by omega) hl) (by decide))
/-- Between two rounds. -/
def MoR (Y : List Ht) (m : Nat) (w : World) (i : Nat) (u : Value) (k : Nat) (wr : World) : Prop := HtOwn wr w.heap.size u ((Y.take i).filter fun h => decide (h.1 < m)) ∧ k = ((Y.take i).filter fun h => ! decide (h.1 < m)).length ∧ Below w.heap.size w wr
theorem MoR.form {Y : List Ht} {m : Nat} {w : World} {i : Nat} {u : Value} {k : Nat} {wr : World} (h : MoR Y m w i u k wr) : ∃ a n c, u = .slice a n c ∧ n = ((Y.take i).filter fun h => decide (h.1 < m)).length := by
  obtain ⟨a, c, h1⟩ := h.1.form
  exact ⟨a, _, c, h1, rfl⟩
theorem MoR.no {Y : List Ht} {m : Nat} {w : World} {i : Nat} {u : Value} {k : Nat} {wr : World} {x : Ht} (h : MoR Y m w i u k wr) (hx : Y[i]? = some x) (hn : ¬ x.1 < m) : MoR Y m w (i + 1) u (k + 1) wr := by
  obtain ⟨h1, h2, h3⟩ := h
  have e : Y.take (i + 1) = Y.take i ++ [x] := by rw [List.take_add_one, hx]; rfl
  refine ⟨?_, ?_, h3⟩
  · rw [e, List.filter_append, show [x].filter (fun h => decide (h.1 < m)) = [] by simp [hn], List.append_nil]
    exact h1
  · rw [e, List.filter_append, List.length_append, ← h2, show [x].filter (fun h => ! decide (h.1 < m)) = [x] by simp [hn]]
    rfl
theorem MoR.yes {Y : List Ht} {m : Nat} {w : World} {i : Nat} {u u' : Value} {k : Nat} {wr wz : World} {x : Ht} (h : MoR Y m w i u k wr) (hx : Y[i]? = some x) (hn : x.1 < m) (ho : HtOwn wz w.heap.size u' (((Y.take i).filter fun h => decide (h.1 < m)) ++ [x])) (hb : Below w.heap.size w wz) : MoR Y m w (i + 1) u' k wz := by
  obtain ⟨h1, h2, h3⟩ := h
  have e : Y.take (i + 1) = Y.take i ++ [x] := by rw [List.take_add_one, hx]; rfl
  refine ⟨?_, ?_, hb⟩
  · rw [e, List.filter_append, show [x].filter (fun h => decide (h.1 < m)) = [x] by simp [hn]]
    exact ho
  · rw [e, List.filter_append, List.length_append, ← h2, show [x].filter (fun h => ! decide (h.1 < m)) = [] by simp [hn]]
    rfl
set_option maxHeartbeats 8000000 in
theorem wordsMore_bad {X : World → Prop} (hXb : ∀ w w', X w → Below w.heap.size w w' → X w') (W : WordsL X) (l : List ByteArray) (v : Value) (y s : ByteArray) (hy : y.size ≤ maxLen) (hs : s.size ≤ maxLen) (w : World) (hX : X w) (hN : TsIn w v l) (wN : ∀ x ∈ l, x.size ≤ maxLen) (hsz : (l.length + 1) * 16 ≤ 140737488355328) (h2 : ¬ wE (l ++ [y]) s.size = 0) (h1 : wE l s.size = 0) :
    Calls Try.prog 5 #[v, .string y, .string s] w fun e w' => e = .returned (.bool true) ∧ Below w.heap.size w w' := by
  have hml : l.length + 1 ≤ maxLen := by unfold maxLen; omega
  obtain ⟨W1, hW1⟩ : ∃ W1, w.alloc (.cells #[.string ⟨#[98]⟩] 9) = W1 := ⟨_, rfl⟩
  have hB1 : Below w.heap.size w W1 := by rw [← hW1]; exact (Below.refl _ _).alloc (Nat.le_refl _) _
  have hb1 : TsIn W1 (.slice (some ⟨w.heap.size, 0, none⟩) 1 1) [⟨#[98]⟩] := by
    refine ⟨_, 1, rfl, by unfold maxLen; simp, Or.inr ⟨w.heap.size, 0, rfl, by rw [← hW1]; simp, fun i t hi => ?_⟩⟩
    have : i = 0 := by
      have := (List.getElem?_eq_some_iff.1 hi).1
      simp at this
      omega
    subst this
    simp at hi
    subst hi
    rw [← hW1]
    exact (Lib.cell_of_heap (heap_alloc_new w _) 0).trans rfl
  have HA0 := hid (W.any [⟨#[98]⟩] _ ⟨#[97, 98]⟩ W1 (hXb _ _ hX hB1) hb1 (by simp; unfold maxLen; decide) (by unfold maxLen; decide))
  rw [all_b.1, all_b.2, show errV 0 = .nilIface from rfl] at HA0
  have HA := hid (fun (m : List ByteArray) (u : Value) (t : ByteArray) w' (hb : Below w.heap.size w w') (hu : TsIn w' u m) (wm : ∀ x ∈ m, x.size ≤ maxLen) (ht : t.size ≤ maxLen) => W.any m u t w' (hXb w w' hX hb) hu wm ht)
  have HN := hid (fun w' (hb : Below w.heap.size w w') => hN.below hb)
  have HAX := hid (fun w' (hb : Below w.heap.size w w') => HA.out l v s w' hb (HN.out w' hb) wN hs)
  have HAY := hid (fun u w' (hb : Below w.heap.size w w') (hu : TsIn w' u (l ++ [y])) => HA.out (l ++ [y]) u s w' hb hu (by
    intro x hx
    rcases List.mem_append.1 hx with hx | hx
    · exact wN x hx
    · rw [List.mem_singleton.1 hx]; exact hy) hs)
  have hE2 : errV (wE (l ++ [y]) s.size) = .iface 52 (.int .i64 (wE (l ++ [y]) s.size)) := by unfold errV; rw [if_neg h2]
  rw [hE2] at HAY
  clear hE2
  rw [h1, show errV 0 = .nilIface from rfl] at HAX
  obtain ⟨va, vc, rfl, vm, hvv⟩ := hN
  have HVV := hid hvv
  have HB1 := hid hB1
  clear hB1 hb1 hvv hXb hX W
  go_enter Try.func5, Try.ntmps5
  go_wp2_with fail
  refine Calls.mono HA0.out ?_
  rintro e w2 ⟨a2, c2, rfl, hb2, _⟩
  have HB2 := hid (HB1.out.trans (hb2.mono HB1.out.size))
  clear hb2 hW1 HB1 HA0
  go_upto_region 5 with fail
  go_cut [9] from 32 to 102 (fun s9 wc => ∃ a c, s9 = .slice a l.length c ∧ TsOwn wc w.heap.size (.slice a l.length c) l ∧ Below w.heap.size w wc)
  case first =>
    rcases HVV.out with hnil | ⟨b, off, rfl, hlt, hcells⟩
    · subst hnil
      go_wp2_with (at_builtin; refine wpList_append_ts0 rfl _ _ rfl rfl va vc rfl ?_)
      go_meet
      case rel => exact ⟨none, 0, rfl, TsOwn.nil _ _, HB2.out⟩
    · by_cases hl0 : l = []
      · subst hl0
        go_wp2_with (at_builtin; refine wpList_append_ts0 rfl _ _ rfl rfl (some ⟨b, off, none⟩) vc rfl ?_)
        go_meet
        case rel => exact ⟨none, 0, rfl, TsOwn.nil _ _, HB2.out⟩
      · have hpos : 0 < l.length := List.length_pos_iff.2 hl0
        have hcc : ∀ i t, l[i]? = some t → w2.cell? ⟨b, off + i, none⟩ = some (.string t) := fun i t hi => (HB2.out.cell (p := ⟨b, off + i, none⟩) hlt).trans (hcells i t hi)
        have hcc := hid hcc
        have hcells := hid hcells
        go_wp2_with (at_builtin; refine wpList_append_ts rfl _ _ rfl w.heap.size _ rfl [] (TsOwn.nil _ _) b off vc l rfl hpos hcc.out (by simp; omega) HB2.out.size ?_; intro g c w3 hown hgr)
        have HR : Hid (∃ a c', (Value.slice (some ⟨g, 0, none⟩) l.length c) = .slice a l.length c' ∧ TsOwn w3 w.heap.size (.slice a l.length c') l ∧ Below w.heap.size w w3) := by
          refine ⟨_, c, rfl, ?_, HB2.out.trans ((TsOwn.nil w2 w.heap.size).grown HB2.out.size hgr)⟩
          simpa using hown
        clear hown hgr
        try go_wp2_with fail
        go_meet
        case rel => exact HR.out
  case rest =>
    obtain ⟨a3, c3, rfl, hown3, hB3⟩ := hcut
    have HB3 := hid hB3
    have HO3 := hid (hown3.kept ((Below.refl _ _).alloc (Nat.le_refl _) (.cells #[.string y] 9)))
    clear hown3 hB3 HB2 HVV
    go_wp2_with (at_builtin; refine wpList_append_ts rfl _ _ rfl w.heap.size _ rfl l HO3.out wc.heap.size 0 1 [y] rfl (by simp) (by intro i t hi; have hi0 : i = 0 := by { have := (List.getElem?_eq_some_iff.1 hi).1; simp at this; omega }; subst hi0; simp at hi; subst hi; exact (Lib.cell_of_heap (heap_alloc_new wc _) 0).trans rfl) (by simpa using hsz) (by have := HB3.out.size; simp; omega) ?_; intro g4 c4 w4 hown4 hgr4)
    have HB4 := hid ((HB3.out.alloc HB3.out.size (.cells #[.string y] 9)).trans (HO3.out.grown (by have := HB3.out.size; simp; omega) hgr4))
    have hO4 : TsIn w4 (.slice (some ⟨g4, 0, none⟩) (l.length + 1) c4) (l ++ [y]) := by
      have := hown4.isIn (by simpa using hml)
      simpa using this
    have HO4 := hid hO4
    clear hO4
    clear hown4 hgr4 HO3 HB3
    have hl1 : l.length + [y].length = l.length + 1 := by simp
    try rw [hl1]
    go_wp2_with fail
    refine Calls.mono (HAX.out w4 HB4.out) ?_
    rintro e w5 ⟨a5, c5, rfl, hb5, hx5⟩
    have HB5 := hid (HB4.out.trans (hb5.mono HB4.out.size))
    have HO5 := hid (HO4.out.below hb5)
    have HX5 := hid hx5
    clear hb5 hx5 HB4 HO4
    go_wp2_with fail
    refine Calls.mono (HAY.out _ w5 HB5.out HO5.out) ?_
    rintro e w6 ⟨a6, c6, rfl, hb6, hy6⟩
    have HB6 := hid (HB5.out.trans (hb6.mono HB5.out.size))
    have HX6 := hid (HX5.out.below hb6)
    have HY6 := hid hy6
    clear hb6 hy6 HB5 HX5 HO5
    go_wp2
    go_ret
    exact ⟨rfl, HB6.out⟩
set_option maxHeartbeats 8000000 in
theorem wordsMore_both {X : World → Prop} (hXb : ∀ w w', X w → Below w.heap.size w w' → X w') (W : WordsL X) (l : List ByteArray) (v : Value) (y s : ByteArray) (hy : y.size ≤ maxLen) (hs : s.size ≤ maxLen) (w : World) (hX : X w) (hN : TsIn w v l) (wN : ∀ x ∈ l, x.size ≤ maxLen) (hsz : (l.length + 1) * 16 ≤ 140737488355328) (h2 : ¬ wE (l ++ [y]) s.size = 0) (h1 : ¬ wE l s.size = 0) :
    Calls Try.prog 5 #[v, .string y, .string s] w fun e w' => e = .returned (.bool true) ∧ Below w.heap.size w w' := by
  have hml : l.length + 1 ≤ maxLen := by unfold maxLen; omega
  obtain ⟨W1, hW1⟩ : ∃ W1, w.alloc (.cells #[.string ⟨#[98]⟩] 9) = W1 := ⟨_, rfl⟩
  have hB1 : Below w.heap.size w W1 := by rw [← hW1]; exact (Below.refl _ _).alloc (Nat.le_refl _) _
  have hb1 : TsIn W1 (.slice (some ⟨w.heap.size, 0, none⟩) 1 1) [⟨#[98]⟩] := by
    refine ⟨_, 1, rfl, by unfold maxLen; simp, Or.inr ⟨w.heap.size, 0, rfl, by rw [← hW1]; simp, fun i t hi => ?_⟩⟩
    have : i = 0 := by
      have := (List.getElem?_eq_some_iff.1 hi).1
      simp at this
      omega
    subst this
    simp at hi
    subst hi
    rw [← hW1]
    exact (Lib.cell_of_heap (heap_alloc_new w _) 0).trans rfl
  have HA0 := hid (W.any [⟨#[98]⟩] _ ⟨#[97, 98]⟩ W1 (hXb _ _ hX hB1) hb1 (by simp; unfold maxLen; decide) (by unfold maxLen; decide))
  rw [all_b.1, all_b.2, show errV 0 = .nilIface from rfl] at HA0
  have HA := hid (fun (m : List ByteArray) (u : Value) (t : ByteArray) w' (hb : Below w.heap.size w w') (hu : TsIn w' u m) (wm : ∀ x ∈ m, x.size ≤ maxLen) (ht : t.size ≤ maxLen) => W.any m u t w' (hXb w w' hX hb) hu wm ht)
  have HN := hid (fun w' (hb : Below w.heap.size w w') => hN.below hb)
  have HAX := hid (fun w' (hb : Below w.heap.size w w') => HA.out l v s w' hb (HN.out w' hb) wN hs)
  have HAY := hid (fun u w' (hb : Below w.heap.size w w') (hu : TsIn w' u (l ++ [y])) => HA.out (l ++ [y]) u s w' hb hu (by
    intro x hx
    rcases List.mem_append.1 hx with hx | hx
    · exact wN x hx
    · rw [List.mem_singleton.1 hx]; exact hy) hs)
  have hE2 : errV (wE (l ++ [y]) s.size) = .iface 52 (.int .i64 (wE (l ++ [y]) s.size)) := by unfold errV; rw [if_neg h2]
  rw [hE2] at HAY
  clear hE2
  rw [show errV (wE l s.size) = .iface 52 (.int .i64 (wE l s.size)) by unfold errV; rw [if_neg h1]] at HAX
  obtain ⟨va, vc, rfl, vm, hvv⟩ := hN
  have HVV := hid hvv
  have HB1 := hid hB1
  clear hB1 hb1 hvv hXb hX W
  go_enter Try.func5, Try.ntmps5
  go_wp2_with fail
  refine Calls.mono HA0.out ?_
  rintro e w2 ⟨a2, c2, rfl, hb2, _⟩
  have HB2 := hid (HB1.out.trans (hb2.mono HB1.out.size))
  clear hb2 hW1 HB1 HA0
  go_upto_region 5 with fail
  go_cut [9] from 32 to 102 (fun s9 wc => ∃ a c, s9 = .slice a l.length c ∧ TsOwn wc w.heap.size (.slice a l.length c) l ∧ Below w.heap.size w wc)
  case first =>
    rcases HVV.out with hnil | ⟨b, off, rfl, hlt, hcells⟩
    · subst hnil
      go_wp2_with (at_builtin; refine wpList_append_ts0 rfl _ _ rfl rfl va vc rfl ?_)
      go_meet
      case rel => exact ⟨none, 0, rfl, TsOwn.nil _ _, HB2.out⟩
    · by_cases hl0 : l = []
      · subst hl0
        go_wp2_with (at_builtin; refine wpList_append_ts0 rfl _ _ rfl rfl (some ⟨b, off, none⟩) vc rfl ?_)
        go_meet
        case rel => exact ⟨none, 0, rfl, TsOwn.nil _ _, HB2.out⟩
      · have hpos : 0 < l.length := List.length_pos_iff.2 hl0
        have hcc : ∀ i t, l[i]? = some t → w2.cell? ⟨b, off + i, none⟩ = some (.string t) := fun i t hi => (HB2.out.cell (p := ⟨b, off + i, none⟩) hlt).trans (hcells i t hi)
        have hcc := hid hcc
        have hcells := hid hcells
        go_wp2_with (at_builtin; refine wpList_append_ts rfl _ _ rfl w.heap.size _ rfl [] (TsOwn.nil _ _) b off vc l rfl hpos hcc.out (by simp; omega) HB2.out.size ?_; intro g c w3 hown hgr)
        have HR : Hid (∃ a c', (Value.slice (some ⟨g, 0, none⟩) l.length c) = .slice a l.length c' ∧ TsOwn w3 w.heap.size (.slice a l.length c') l ∧ Below w.heap.size w w3) := by
          refine ⟨_, c, rfl, ?_, HB2.out.trans ((TsOwn.nil w2 w.heap.size).grown HB2.out.size hgr)⟩
          simpa using hown
        clear hown hgr
        try go_wp2_with fail
        go_meet
        case rel => exact HR.out
  case rest =>
    obtain ⟨a3, c3, rfl, hown3, hB3⟩ := hcut
    have HB3 := hid hB3
    have HO3 := hid (hown3.kept ((Below.refl _ _).alloc (Nat.le_refl _) (.cells #[.string y] 9)))
    clear hown3 hB3 HB2 HVV
    go_wp2_with (at_builtin; refine wpList_append_ts rfl _ _ rfl w.heap.size _ rfl l HO3.out wc.heap.size 0 1 [y] rfl (by simp) (by intro i t hi; have hi0 : i = 0 := by { have := (List.getElem?_eq_some_iff.1 hi).1; simp at this; omega }; subst hi0; simp at hi; subst hi; exact (Lib.cell_of_heap (heap_alloc_new wc _) 0).trans rfl) (by simpa using hsz) (by have := HB3.out.size; simp; omega) ?_; intro g4 c4 w4 hown4 hgr4)
    have HB4 := hid ((HB3.out.alloc HB3.out.size (.cells #[.string y] 9)).trans (HO3.out.grown (by have := HB3.out.size; simp; omega) hgr4))
    have hO4 : TsIn w4 (.slice (some ⟨g4, 0, none⟩) (l.length + 1) c4) (l ++ [y]) := by
      have := hown4.isIn (by simpa using hml)
      simpa using this
    have HO4 := hid hO4
    clear hO4
    clear hown4 hgr4 HO3 HB3
    have hl1 : l.length + [y].length = l.length + 1 := by simp
    try rw [hl1]
    go_wp2_with fail
    refine Calls.mono (HAX.out w4 HB4.out) ?_
    rintro e w5 ⟨a5, c5, rfl, hb5, hx5⟩
    have HB5 := hid (HB4.out.trans (hb5.mono HB4.out.size))
    have HO5 := hid (HO4.out.below hb5)
    have HX5 := hid hx5
    clear hb5 hx5 HB4 HO4
    go_wp2_with fail
    refine Calls.mono (HAY.out _ w5 HB5.out HO5.out) ?_
    rintro e w6 ⟨a6, c6, rfl, hb6, hy6⟩
    have HB6 := hid (HB5.out.trans (hb6.mono HB5.out.size))
    have HX6 := hid (HX5.out.below hb6)
    have HY6 := hid hy6
    clear hb6 hy6 HB5 HX5 HO5
    go_wp2
    go_ret
    exact ⟨rfl, HB6.out⟩
set_option maxHeartbeats 8000000 in
theorem wordsMore_ok {X : World → Prop} (hXb : ∀ w w', X w → Below w.heap.size w w' → X w') (W : WordsL X) (l : List ByteArray) (v : Value) (y s : ByteArray) (hy : y.size ≤ maxLen) (hs : s.size ≤ maxLen) (w : World) (hX : X w) (hN : TsIn w v l) (wN : ∀ x ∈ l, x.size ≤ maxLen) (hsz : (l.length + 1) * 16 ≤ 140737488355328) (h2 : wE (l ++ [y]) s.size = 0) :
    Calls Try.prog 5 #[v, .string y, .string s] w fun e w' => e = .returned (.bool true) ∧ Below w.heap.size w w' := by
  obtain ⟨h1, h3⟩ := wE_more h2
  obtain ⟨hwf, hs4⟩ := (wE_zero _ _).1 h2
  obtain ⟨h20, hsz2⟩ := wF_zero hwf
  have hml : l.length + 1 ≤ maxLen := by unfold maxLen; omega
  obtain ⟨W1, hW1⟩ : ∃ W1, w.alloc (.cells #[.string ⟨#[98]⟩] 9) = W1 := ⟨_, rfl⟩
  have hB1 : Below w.heap.size w W1 := by rw [← hW1]; exact (Below.refl _ _).alloc (Nat.le_refl _) _
  have hb1 : TsIn W1 (.slice (some ⟨w.heap.size, 0, none⟩) 1 1) [⟨#[98]⟩] := by
    refine ⟨_, 1, rfl, by unfold maxLen; simp, Or.inr ⟨w.heap.size, 0, rfl, by rw [← hW1]; simp, fun i t hi => ?_⟩⟩
    have : i = 0 := by
      have := (List.getElem?_eq_some_iff.1 hi).1
      simp at this
      omega
    subst this
    simp at hi
    subst hi
    rw [← hW1]
    exact (Lib.cell_of_heap (heap_alloc_new w _) 0).trans rfl
  have HA0 := hid (W.any [⟨#[98]⟩] _ ⟨#[97, 98]⟩ W1 (hXb _ _ hX hB1) hb1 (by simp; unfold maxLen; decide) (by unfold maxLen; decide))
  rw [all_b.1, all_b.2, show errV 0 = .nilIface from rfl] at HA0
  have HA := hid (fun (m : List ByteArray) (u : Value) (t : ByteArray) w' (hb : Below w.heap.size w w') (hu : TsIn w' u m) (wm : ∀ x ∈ m, x.size ≤ maxLen) (ht : t.size ≤ maxLen) => W.any m u t w' (hXb w w' hX hb) hu wm ht)
  have HN := hid (fun w' (hb : Below w.heap.size w w') => hN.below hb)
  have HAX := hid (fun w' (hb : Below w.heap.size w w') => HA.out l v s w' hb (HN.out w' hb) wN hs)
  have HAY := hid (fun u w' (hb : Below w.heap.size w w') (hu : TsIn w' u (l ++ [y])) => HA.out (l ++ [y]) u s w' hb hu (by
    intro x hx
    rcases List.mem_append.1 hx with hx | hx
    · exact wN x hx
    · rw [List.mem_singleton.1 hx]; exact hy) hs)
  have HAO := hid (fun u w' (hb : Below w.heap.size w w') (hu : TsIn w' u [y]) => HA.out [y] u s w' hb hu (by simpa using hy) hs)
  rw [h1, show errV 0 = .nilIface from rfl] at HAX
  rw [h2, show errV 0 = .nilIface from rfl] at HAY
  rw [h3, show errV 0 = .nilIface from rfl] at HAO
  obtain ⟨va, vc, rfl, vm, hvv⟩ := hN
  have HVV := hid hvv
  have HB1 := hid hB1
  clear hB1 hb1 hvv hXb hX W
  go_enter Try.func5, Try.ntmps5
  go_wp2_with fail
  refine Calls.mono HA0.out ?_
  rintro e w2 ⟨a2, c2, rfl, hb2, _⟩
  have HB2 := hid (HB1.out.trans (hb2.mono HB1.out.size))
  clear hb2 hW1 HB1 HA0
  go_upto_region 5 with fail
  go_cut [9] from 32 to 102 (fun s9 wc => ∃ a c, s9 = .slice a l.length c ∧ TsOwn wc w.heap.size (.slice a l.length c) l ∧ Below w.heap.size w wc)
  case first =>
    rcases HVV.out with hnil | ⟨b, off, rfl, hlt, hcells⟩
    · subst hnil
      go_wp2_with (at_builtin; refine wpList_append_ts0 rfl _ _ rfl rfl va vc rfl ?_)
      go_meet
      case rel => exact ⟨none, 0, rfl, TsOwn.nil _ _, HB2.out⟩
    · by_cases hl0 : l = []
      · subst hl0
        go_wp2_with (at_builtin; refine wpList_append_ts0 rfl _ _ rfl rfl (some ⟨b, off, none⟩) vc rfl ?_)
        go_meet
        case rel => exact ⟨none, 0, rfl, TsOwn.nil _ _, HB2.out⟩
      · have hpos : 0 < l.length := List.length_pos_iff.2 hl0
        have hcc : ∀ i t, l[i]? = some t → w2.cell? ⟨b, off + i, none⟩ = some (.string t) := fun i t hi => (HB2.out.cell (p := ⟨b, off + i, none⟩) hlt).trans (hcells i t hi)
        have hcc := hid hcc
        have hcells := hid hcells
        go_wp2_with (at_builtin; refine wpList_append_ts rfl _ _ rfl w.heap.size _ rfl [] (TsOwn.nil _ _) b off vc l rfl hpos hcc.out (by simp; omega) HB2.out.size ?_; intro g c w3 hown hgr)
        have HR : Hid (∃ a c', (Value.slice (some ⟨g, 0, none⟩) l.length c) = .slice a l.length c' ∧ TsOwn w3 w.heap.size (.slice a l.length c') l ∧ Below w.heap.size w w3) := by
          refine ⟨_, c, rfl, ?_, HB2.out.trans ((TsOwn.nil w2 w.heap.size).grown HB2.out.size hgr)⟩
          simpa using hown
        clear hown hgr
        try go_wp2_with fail
        go_meet
        case rel => exact HR.out
  case rest =>
    obtain ⟨a3, c3, rfl, hown3, hB3⟩ := hcut
    have HB3 := hid hB3
    have HO3 := hid (hown3.kept ((Below.refl _ _).alloc (Nat.le_refl _) (.cells #[.string y] 9)))
    clear hown3 hB3 HB2 HVV
    go_wp2_with (at_builtin; refine wpList_append_ts rfl _ _ rfl w.heap.size _ rfl l HO3.out wc.heap.size 0 1 [y] rfl (by simp) (by intro i t hi; have hi0 : i = 0 := by { have := (List.getElem?_eq_some_iff.1 hi).1; simp at this; omega }; subst hi0; simp at hi; subst hi; exact (Lib.cell_of_heap (heap_alloc_new wc _) 0).trans rfl) (by simpa using hsz) (by have := HB3.out.size; simp; omega) ?_; intro g4 c4 w4 hown4 hgr4)
    have HB4 := hid ((HB3.out.alloc HB3.out.size (.cells #[.string y] 9)).trans (HO3.out.grown (by have := HB3.out.size; simp; omega) hgr4))
    have hO4 : TsIn w4 (.slice (some ⟨g4, 0, none⟩) (l.length + 1) c4) (l ++ [y]) := by
      have := hown4.isIn (by simpa using hml)
      simpa using this
    have HO4 := hid hO4
    clear hO4
    clear hown4 hgr4 HO3 HB3
    have hl1 : l.length + [y].length = l.length + 1 := by simp
    try rw [hl1]
    go_wp2_with fail
    refine Calls.mono (HAX.out w4 HB4.out) ?_
    rintro e w5 ⟨a5, c5, rfl, hb5, hx5⟩
    have HB5 := hid (HB4.out.trans (hb5.mono HB4.out.size))
    have HO5 := hid (HO4.out.below hb5)
    have HX5 := hid hx5
    clear hb5 hx5 HB4 HO4
    go_wp2_with fail
    refine Calls.mono (HAY.out _ w5 HB5.out HO5.out) ?_
    rintro e w6 ⟨a6, c6, rfl, hb6, hy6⟩
    have HB6 := hid (HB5.out.trans (hb6.mono HB5.out.size))
    have HX6 := hid (HX5.out.below hb6)
    have HY6 := hid hy6
    clear hb6 hy6 HB5 HX5 HO5
    have hsl : s.data.toList.length = s.size := by simp
    have HM := hid (hits_more (wdL l) y.data.toList s.data.toList)
    rw [wdL_len, show wdL l ++ [y.data.toList] = wdL (l ++ [y]) by simp [wdL], ← allR_ok h2, ← allR_ok h1, show [y.data.toList] = wdL [y] from rfl, ← allR_ok h3] at HM
    have hYl : (allR (l ++ [y]) s).length ≤ 8020 := by rw [allR_ok h2]; exact hits_long _ h20 _ (by omega)
    have hl20 : l.length ≤ 19 := by simp at h20; omega
    generalize allR (l ++ [y]) s = Y at *
    generalize allR l s = Z at *
    obtain ⟨a6', c6', hq6, _, hYY⟩ := HY6.out
    injection hq6 with q1 _ q2
    subst q1 q2
    have HYY := hid hYY
    have H0 : Hid (MoR Y l.length w6 0 (.slice none 0 0) 0 w6) := ⟨HtOwn.nil _ _, rfl, Below.refl _ _⟩
    have HS6 : Hid (w.heap.size ≤ w6.heap.size) := HB6.out.size
    clear hYY
    go_wp2_with fail
    go_loopw [14, 15, 16] (fun u k v wr => ∃ i m : Nat, i ≤ Y.length ∧ v = .int .i64 (i : Int) ∧ k = .int .i64 (m : Int) ∧ Hid (MoR Y l.length w6 i u m wr)) (fun _ _ v _ => Y.length - (intOf v).toNat)
    case atStart => exact ⟨0, 0, by omega, rfl, rfl, H0⟩
    case round =>
      clear H0
      obtain ⟨i, m, hi, rfl, rfl, HR⟩ := hrel
      obtain ⟨ua, un, uc, rfl, hun⟩ := HR.out.form
      by_cases hil : i < Y.length
      · obtain ⟨⟨n, p, q⟩, hx⟩ : ∃ x, Y[i]? = some x := ⟨Y[i], List.getElem?_eq_getElem hil⟩
        rcases HYY.out with hnil | ⟨b6, o6, rfl, hb6, hat⟩
        · rw [hnil] at hil; simp at hil
        have hB := HR.out.2.2
        obtain ⟨d0, d1, d2⟩ := hat i (n, p, q) hx
        replace d0 := (hB.cell (p := ⟨b6, _, none⟩) hb6).trans d0
        replace d1 := (hB.cell (p := ⟨b6, _, none⟩) hb6).trans d1
        replace d2 := (hB.cell (p := ⟨b6, _, none⟩) hb6).trans d2
        simp only at d0 d1 d2
        have g0 : (0 : Int) ≤ (i : Int) := by omega
        have g1 : (i : Int) < (Y.length : Int) := by omega
        have HXY := hid hx
        have hkm : m ≤ 8020 := by
          have h1 := HR.out.2.1
          have h2 := List.length_filter_le (fun h : Ht => ! decide (h.1 < l.length)) (Y.take i)
          have h3 := List.length_take_le i Y
          omega
        clear hx hat
        by_cases hn : n < l.length
        · have hn1 : (n : Int) < (l.length : Int) := by omega
          obtain ⟨LL, hLL⟩ : ∃ LL, (Y.take i).filter (fun h => decide (h.1 < l.length)) = LL := ⟨_, rfl⟩
          have hLn : LL.length ≤ 8020 := by
            rw [← hLL]
            have h2 := List.length_filter_le (fun h : Ht => decide (h.1 < l.length)) (Y.take i)
            have h3 := List.length_take_le i Y
            omega
          rw [hLL] at hun
          subst hun
          have HO2 := hid (HR.out.1.kept ((Below.refl _ _).alloc (Nat.le_refl _) (.cells #[.int .i64 (n : Int), .int .i64 (p : Int), .int .i64 (q : Int)] 43)))
          rw [hLL] at HO2
          have HB2 := hid (hB.alloc hB.size (.cells #[.int .i64 (n : Int), .int .i64 (p : Int), .int .i64 (q : Int)] 43))
          have HLL := hid hLL
          clear hLL hB
          go_wp2_with (at_builtin; refine wpList_append_ht rfl _ _ rfl w6.heap.size _ rfl LL HO2.out wr.heap.size 1 (n, p, q) rfl (by rw [World.cell?_alloc_at (w := wr) _ _ wr.heap.size 0 rfl]; rfl) (by rw [World.cell?_alloc_at (w := wr) _ _ wr.heap.size 1 rfl]; rfl) (by rw [World.cell?_alloc_at (w := wr) _ _ wr.heap.size 2 rfl]; rfl) (by omega) HB2.out.size ?_; intro g cap' w8 hown hgr _ _)
          have HR2 : Hid (MoR Y l.length w6 (i + 1) (.slice (some ⟨g, 0, none⟩) (LL.length + 1) cap') m w8) := by
            refine HR.out.yes HXY.out hn ?_ (HB2.out.trans (HO2.out.grown HB2.out.size hgr))
            rw [HLL.out]
            exact hown
          clear hown hgr HO2 HB2
          exact ⟨⟨i + 1, m, by omega, by go_num, rfl, HR2⟩, by simp [intOf]; omega⟩
        · have hn1 : (l.length : Int) ≤ (n : Int) := by omega
          have HR2 := hid (HR.out.no HXY.out hn)
          clear hB HR
          go_wp2
          exact ⟨⟨i + 1, m + 1, by omega, by go_num, by go_num, HR2⟩, by simp [intOf]; omega⟩
      · have hi2 : i = Y.length := by omega
        subst hi2
        have hR := HR.out
        unfold MoR at hR
        rw [List.take_length, HM.out.1] at hR
        obtain ⟨hO, hm, hB⟩ := hR
        rw [HM.out.2] at hm
        rw [List.take_length, HM.out.1] at hun
        subst hun hm
        have hZl : Z.length ≤ maxLen := by
          have h2 := List.length_filter_le (fun h : Ht => decide (h.1 < l.length)) Y
          rw [HM.out.1] at h2
          unfold maxLen
          omega
        have HB7 := hid (HB6.out.trans (hB.mono HB6.out.size))
        obtain ⟨W8, hW8⟩ : ∃ W8, wr.alloc (.cells #[.string y] 9) = W8 := ⟨_, rfl⟩
        have hb8 : Below wr.heap.size wr W8 := by rw [← hW8]; exact (Below.refl _ _).alloc (Nat.le_refl _) _
        have hy8 : TsIn W8 (.slice (some ⟨wr.heap.size, 0, none⟩) 1 1) [y] := by
          refine ⟨_, 1, rfl, by unfold maxLen; simp, Or.inr ⟨wr.heap.size, 0, rfl, by rw [← hW8]; simp, fun i t hi => ?_⟩⟩
          have : i = 0 := by
            have := (List.getElem?_eq_some_iff.1 hi).1
            simp at this
            omega
          subst this
          simp at hi
          subst hi
          rw [← hW8]
          exact (Lib.cell_of_heap (heap_alloc_new wr _) 0).trans rfl
        have HAO8 := hid (HAO.out _ W8 (HB7.out.trans (hb8.mono HB7.out.size)) hy8)
        have HO8 := hid ((hO.isIn hZl).below hb8)
        have HX8 := hid ((HX6.out.below hB).below hb8)
        have HB8 := hid (HB7.out.trans (hb8.mono HB7.out.size))
        clear hO hB hb8 hy8 HR HM HYY HY6 HX6 HB6 HB7
        go_wp2_with fail
        refine Calls.mono HAO8.out ?_
        rintro e w9 ⟨a9, c9, rfl, hb9, _⟩
        have HH := hid (hits_s_any Z Z _ _ w9 (HO8.out.below hb9) (HX8.out.below hb9))
        rw [htEq_self] at HH
        have HB9 := hid (HB8.out.trans (hb9.mono HB8.out.size))
        clear hb9 HO8 HX8 HB8 HAO8 hW8
        go_wp2_with fail
        refine Calls.mono HH.out ?_
        rintro e w10 ⟨rfl, hb10⟩
        go_wp2
        go_ret
        exact ⟨by simp, HB9.out.trans (hb10.mono HB9.out.size)⟩
theorem wordsMore_any {X : World → Prop} (hXb : ∀ w w', X w → Below w.heap.size w w' → X w') (W : WordsL X) (l : List ByteArray) (v : Value) (y s : ByteArray) (hy : y.size ≤ maxLen) (hs : s.size ≤ maxLen) (w : World) (hX : X w) (hN : TsIn w v l) (wN : ∀ x ∈ l, x.size ≤ maxLen) (hsz : (l.length + 1) * 16 ≤ 140737488355328) :
    Calls Try.prog 5 #[v, .string y, .string s] w fun e w' => e = .returned (.bool true) ∧ Below w.heap.size w w' := by
  by_cases h2 : wE (l ++ [y]) s.size = 0
  · exact wordsMore_ok hXb W l v y s hy hs w hX hN wN hsz h2
  · by_cases h1 : wE l s.size = 0
    · exact wordsMore_bad hXb W l v y s hy hs w hX hN wN hsz h2 h1
    · exact wordsMore_both hXb W l v y s hy hs w hX hN wN hsz h2 h1
end Go.Proofs.Ytciaagphclddjaa
namespace Go.Proofs.Ytciaagphclddjaa
set_option linter.unusedSimpArgs false
set_option linter.unusedVariables false
set_option maxRecDepth 100000
open Go.RowKit
theorem htCells_of : ∀ (l : List (Nat × Nat × Nat)) (j : Nat) (u : Value), (htCells l)[j]? = some u → ∃ i x, l[i]? = some x ∧ ((j = i * 3 ∧ u = .int .i64 (x.1 : Int)) ∨ (j = i * 3 + 1 ∧ u = .int .i64 (x.2.1 : Int)) ∨ (j = i * 3 + 2 ∧ u = .int .i64 (x.2.2 : Int)))
  | [], j, u, h => by simp [htCells] at h
  | m :: r, 0, u, h => by
    simp [htCells] at h
    exact ⟨0, m, rfl, Or.inl ⟨rfl, h.symm⟩⟩
  | m :: r, 1, u, h => by
    simp [htCells] at h
    exact ⟨0, m, rfl, Or.inr (Or.inl ⟨rfl, h.symm⟩)⟩
  | m :: r, 2, u, h => by
    simp [htCells] at h
    exact ⟨0, m, rfl, Or.inr (Or.inr ⟨rfl, h.symm⟩)⟩
  | m :: r, j + 3, u, h => by
    obtain ⟨i, x, h1, h2⟩ := htCells_of r j u (by simpa [htCells] using h)
    refine ⟨i + 1, x, by simpa using h1, ?_⟩
    rcases h2 with ⟨rfl, e⟩ | ⟨rfl, e⟩ | ⟨rfl, e⟩
    · exact Or.inl ⟨by omega, e⟩
    · exact Or.inr (Or.inl ⟨by omega, e⟩)
    · exact Or.inr (Or.inr ⟨by omega, e⟩)
theorem wpList_append_hts {ops : Array Oper} {rest : List Oper} {o : Oper} {a : Act} {Q : Exit → Act → World → Prop} {w : World} (hgd : o.guard = none) (s x : Operand)
    (ho : o.op = .call { callee := .builtin .append, args := #[s, x], argTypes := #[37, 37] })
    (B : Nat) (v : Value) (hs : a.eval s = v) (l : List (Nat × Nat × Nat)) (hown : HtOwn w B v l) (b off cap : Nat) (m : List (Nat × Nat × Nat)) (hx : a.eval x = .slice (some ⟨b, off, none⟩) m.length cap) (h0 : 0 < m.length)
    (hnews : HtAt w b off m) (hlen : l.length + m.length ≤ 1000000000) (hbase : B ≤ w.heap.size)
    (h : ∀ g c w', HtOwn w' B (.slice (some ⟨g, 0, none⟩) (l ++ m).length c) (l ++ m) → w.grownBy w' v.ownBlock → wpList Try.prog ops Q rest (a.put o.dst (.slice (some ⟨g, 0, none⟩) (l.length + m.length) c)) w') : wpList Try.prog ops Q (o :: rest) a w := by
  have hinfo : (Try.prog.info? 43).map (fun i => (i.zero, i.size, i.bytes)) = some (some (.agg #[.int .i64 0, .int .i64 0, .int .i64 0]), 3, 24) := by kernel_rfl
  obtain ⟨i0, hi, hz0, hz1, hz2⟩ := info_parts hinfo
  refine wpList_append_lies w hgd s x 37 ho B 43 i0 _ 3 24 Try.underlying37 hi hz0 hz1 hz2 rfl (by decide) v l.length (htCells l) hs hown ⟨b, off, none⟩ m.length cap (htCells m) hx (htCells_len m) ?_ (htCells_one m) h0 (by unfold maxLen; omega) (by omega) hbase _ rfl ?_
  · intro j u hj
    rw [Addr.add_lit]
    obtain ⟨i, y, h1, h2⟩ := htCells_of m j u hj
    obtain ⟨c0, c1, c2⟩ := hnews i y h1
    rcases h2 with ⟨rfl, rfl⟩ | ⟨rfl, rfl⟩ | ⟨rfl, rfl⟩
    · exact c0
    · rw [← Nat.add_assoc]; exact c1
    · rw [← Nat.add_assoc]; exact c2
  · intro g c w' h1 h2 _ _
    refine h g c w' ?_ h2
    unfold HtOwn
    rw [List.length_append, htCells_append]
    exact h1
theorem append_ht_nil (a : Option Addr) (cap : Nat) (ty : TypeId) (w : World) : (Builtin.append_ #[37, 37] ty #[.slice none 0 0, .slice a 0 cap]).run Try.prog w = .ok (.slice none 0 0) w := by
  cases a <;> kernel_rfl
/-- append of nothing to nothing. -/
theorem wpList_append_ht0 {ops : Array Oper} {rest : List Oper} {o : Oper} {a : Act} {Q : Exit → Act → World → Prop} {w : World} (hgd : o.guard = none) (s x : Operand)
    (ho : o.op = .call { callee := .builtin .append, args := #[s, x], argTypes := #[37, 37] })
    (hs : a.eval s = .slice none 0 0) (z : Option Addr) (cap : Nat) (hx : a.eval x = .slice z 0 cap)
    (h : wpList Try.prog ops Q rest (a.put o.dst (.slice none 0 0)) w) : wpList Try.prog ops Q (o :: rest) a w := by
  refine wpList_plain hgd fun K hK => ?_
  unfold Oper.wp execOp
  simp only [ho, resolve, invoke, builtin, Sem.run_bind, Sem.run_pure, Result.andThen_ok, List.map_toArray, List.map_cons, List.map_nil, hs, hx, append_ht_nil]
  exact hK _ _ h
/-- append of hits to nothing. -/
theorem wpList_append_htn {ops : Array Oper} {rest : List Oper} {o : Oper} {a : Act} {Q : Exit → Act → World → Prop} {w : World} (hgd : o.guard = none) (s x : Operand)
    (ho : o.op = .call { callee := .builtin .append, args := #[s, x], argTypes := #[37, 37] })
    (B : Nat) (hs : a.eval s = .slice none 0 0) (z : Option Addr) (cap : Nat) (m : List (Nat × Nat × Nat)) (hx : a.eval x = .slice z m.length cap) (hin : HtIn w (.slice z m.length cap) m) (hlen : m.length ≤ 1000000000) (hbase : B ≤ w.heap.size)
    (h : ∀ v w', HtOwn w' B v m → Below B w w' → wpList Try.prog ops Q rest (a.put o.dst v) w') : wpList Try.prog ops Q (o :: rest) a w := by
  obtain ⟨z', cap', hq, _, hin⟩ := hin
  injection hq with q1 _ q2
  subst q1 q2
  rcases hin with rfl | ⟨b, off, rfl, hb, hat⟩
  · exact wpList_append_ht0 hgd s x ho hs z cap hx (h _ _ (HtOwn.nil _ _) (Below.refl _ _))
  · by_cases h0 : 0 < m.length
    · refine wpList_append_hts hgd s x ho B _ hs [] (HtOwn.nil _ _) b off cap m hx h0 hat (by simpa using hlen) hbase fun g c w' h1 h2 => ?_
      have e := h (.slice (some ⟨g, 0, none⟩) m.length c) w' (by simpa using h1) ((HtOwn.nil w B).grown hbase h2)
      simpa using e
    · have e : m = [] := List.eq_nil_of_length_eq_zero (by omega)
      subst e
      exact wpList_append_ht0 hgd s x ho hs _ cap hx (h _ _ (HtOwn.nil _ _) (Below.refl _ _))
end Go.Proofs.Ytciaagphclddjaa

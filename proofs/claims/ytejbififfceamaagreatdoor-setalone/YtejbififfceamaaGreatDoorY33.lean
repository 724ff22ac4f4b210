/- append of hits that lie anywhere. The landed Set: what a member's pattern is found at. The landed Set: Scan. The landed package set: what the document asks of it. What the cards of package set share: the library's number of bytealg. A set that has come to be of another one. Scripts in memory. A script is played on a set. -/
import Derived.Test.YtejbififfceamaaGreatDoorY08
import Derived.Deep.AppendLies
import Derived.Test.YtejbififfceamaaGreatDoorY32
import Derived.RangeFuncRecord
import Derived.Test.YtejbififfceamaaGreatDoorY20
import Derived.Test.YtejbififfceamaaGreatDoorY19
import Derived.Deep.AppendSrc
import Derived.Test.YtejbififfceamaaGreatDoorY03
import Derived.Shelf.Vars
import Derived.Deep.DeepHandedRow
import Derived.Test.YtejbififfceamaaGreatDoorY25
import Derived.Test.YtejbififfceamaaGreatDoorY07
import Derived.KernelRfl
import Derived.WalkKit
namespace Go.Proofs.YtejbififfceamaaGreatDoor
set_option linter.unusedSimpArgs false
set_option linter.unusedVariables false
set_option maxRecDepth 100000
open Go.RowKit
theorem htCells_of : ∀ (l : List (Nat × Nat × Nat)) (j : Nat) (u : Value), (htCells l)[j]? = some u → ∃ i x, l[i]? = some x ∧ ((j = i * 3 ∧ u = .int .i64 (x.1 : Int)) ∨ (j = i * 3 + 1 ∧ u = .int .i64 (x.2.1 : Int)) ∨ (j = i * 3 + 2 ∧ u = .int .i64 (x.2.2 : Int)))
  | [], j, u, h => by simp [htCells] at h
  | m :: r, 0, u, h => by
    simp [htCells] at h
    exact ⟨0, m, rfl, Or.inl ⟨rfl, h.symm⟩⟩
  | m :: r, 1, u, h => by
    simp [htCells] at h
    exact ⟨0, m, rfl, Or.inr (Or.inl ⟨rfl, h.symm⟩)⟩
  | m :: r, 2, u, h => by
    simp [htCells] at h
    exact ⟨0, m, rfl, Or.inr (Or.inr ⟨rfl, h.symm⟩)⟩
  | m :: r, j + 3, u, h => by
    obtain ⟨i, x, h1, h2⟩ := htCells_of r j u (by simpa [htCells] using h)
    refine ⟨i + 1, x, by simpa using h1, ?_⟩
    rcases h2 with ⟨rfl, e⟩ | ⟨rfl, e⟩ | ⟨rfl, e⟩
    · exact Or.inl ⟨by omega, e⟩
    · exact Or.inr (Or.inl ⟨by omega, e⟩)
    · exact Or.inr (Or.inr ⟨by omega, e⟩)
theorem wpList_append_hts {ops : Array Oper} {rest : List Oper} {o : Oper} {a : Act} {Q : Exit → Act → World → Prop} {w : World} (hgd : o.guard = none) (s x : Operand)
    (ho : o.op = .call { callee := .builtin .append, args := #[s, x], argTypes := #[43, 43] })
    (B : Nat) (v : Value) (hs : a.eval s = v) (l : List (Nat × Nat × Nat)) (hown : HtOwn w B v l) (b off cap : Nat) (m : List (Nat × Nat × Nat)) (hx : a.eval x = .slice (some ⟨b, off, none⟩) m.length cap) (h0 : 0 < m.length)
    (hnews : HtAt w b off m) (hlen : l.length + m.length ≤ 1000000000) (hbase : B ≤ w.heap.size)
    (h : ∀ g c w', HtOwn w' B (.slice (some ⟨g, 0, none⟩) (l ++ m).length c) (l ++ m) → w.grownBy w' v.ownBlock → wpList Tryz.prog ops Q rest (a.put o.dst (.slice (some ⟨g, 0, none⟩) (l.length + m.length) c)) w') : wpList Tryz.prog ops Q (o :: rest) a w := by
  have hinfo : (Tryz.prog.info? 56).map (fun i => (i.zero, i.size, i.bytes)) = some (some (.agg #[.int .i64 0, .int .i64 0, .int .i64 0]), 3, 24) := by kernel_rfl
  obtain ⟨i0, hi, hz0, hz1, hz2⟩ := info_parts hinfo
  refine wpList_append_lies w hgd s x 43 ho B 56 i0 _ 3 24 Tryz.underlying43 hi hz0 hz1 hz2 rfl (by decide) v l.length (htCells l) hs hown ⟨b, off, none⟩ m.length cap (htCells m) hx (htCells_len m) ?_ (htCells_one m) h0 (by unfold maxLen; omega) (by omega) hbase _ rfl ?_
  · intro j u hj
    rw [Addr.add_lit]
    obtain ⟨i, y, h1, h2⟩ := htCells_of m j u hj
    obtain ⟨c0, c1, c2⟩ := hnews i y h1
    rcases h2 with ⟨rfl, rfl⟩ | ⟨rfl, rfl⟩ | ⟨rfl, rfl⟩
    · exact c0
    · rw [← Nat.add_assoc]; exact c1
    · rw [← Nat.add_assoc]; exact c2
  · intro g c w' h1 h2 _ _
    refine h g c w' ?_ h2
    unfold HtOwn
    rw [List.length_append, htCells_append]
    exact h1
theorem append_ht_nil (a : Option Addr) (cap : Nat) (ty : TypeId) (w : World) : (Builtin.append_ #[43, 43] ty #[.slice none 0 0, .slice a 0 cap]).run Tryz.prog w = .ok (.slice none 0 0) w := by
  cases a <;> kernel_rfl
/-- append of nothing to nothing. -/
theorem wpList_append_ht0 {ops : Array Oper} {rest : List Oper} {o : Oper} {a : Act} {Q : Exit → Act → World → Prop} {w : World} (hgd : o.guard = none) (s x : Operand)
    (ho : o.op = .call { callee := .builtin .append, args := #[s, x], argTypes := #[43, 43] })
    (hs : a.eval s = .slice none 0 0) (z : Option Addr) (cap : Nat) (hx : a.eval x = .slice z 0 cap)
    (h : wpList Tryz.prog ops Q rest (a.put o.dst (.slice none 0 0)) w) : wpList Tryz.prog ops Q (o :: rest) a w := by
  refine wpList_plain hgd fun K hK => ?_
  unfold Oper.wp execOp
  simp only [ho, resolve, invoke, builtin, Sem.run_bind, Sem.run_pure, Result.andThen_ok, List.map_toArray, List.map_cons, List.map_nil, hs, hx, append_ht_nil]
  exact hK _ _ h
/-- append of hits to nothing. -/
theorem wpList_append_htn {ops : Array Oper} {rest : List Oper} {o : Oper} {a : Act} {Q : Exit → Act → World → Prop} {w : World} (hgd : o.guard = none) (s x : Operand)
    (ho : o.op = .call { callee := .builtin .append, args := #[s, x], argTypes := #[43, 43] })
    (B : Nat) (hs : a.eval s = .slice none 0 0) (z : Option Addr) (cap : Nat) (m : List (Nat × Nat × Nat)) (hx : a.eval x = .slice z m.length cap) (hin : HtIn w (.slice z m.length cap) m) (hlen : m.length ≤ 1000000000) (hbase : B ≤ w.heap.size)
    (h : ∀ v w', HtOwn w' B v m → Below B w w' → wpList Tryz.prog ops Q rest (a.put o.dst v) w') : wpList Tryz.prog ops Q (o :: rest) a w := by
  obtain ⟨z', cap', hq, _, hin⟩ := hin
  injection hq with q1 _ q2
  subst q1 q2
  rcases hin with rfl | ⟨b, off, rfl, hb, hat⟩
  · exact wpList_append_ht0 hgd s x ho hs z cap hx (h _ _ (HtOwn.nil _ _) (Below.refl _ _))
  · by_cases h0 : 0 < m.length
    · refine wpList_append_hts hgd s x ho B _ hs [] (HtOwn.nil _ _) b off cap m hx h0 hat (by simpa using hlen) hbase fun g c w' h1 h2 => ?_
      have e := h (.slice (some ⟨g, 0, none⟩) m.length c) w' (by simpa using h1) ((HtOwn.nil w B).grown hbase h2)
      simpa using e
    · have e : m = [] := List.eq_nil_of_length_eq_zero (by omega)
      subst e
      exact wpList_append_ht0 hgd s x ho hs _ cap hx (h _ _ (HtOwn.nil _ _) (Below.refl _ _))
end Go.Proofs.YtejbififfceamaaGreatDoor
namespace Go.Proofs.YtejbififfceamaaGreatDoor
set_option linter.unusedSimpArgs false
set_option linter.unusedVariables false
set_option maxRecDepth 100000
open Go.RowKit
set_option maxHeartbeats 4000000 in
theorem lhits_any (m : Mbr) (hm : m.ok) (hw : ∀ n ∈ m.pat.flat, n.wf) (s : ByteArray) (hs : s.size ≤ 400) (l : List (Nat × Nat)) (hl : AllR s.data.toList m.pat 0 l) (za : Option Addr) (zc : Nat) (d : ByteArray) (B0 : Nat) (w : World) (hT : Tab w) (hN : NsOwn w B0 (.slice za m.pat.flat.length zc) m.pat.flat) :
    Calls Tryz.prog 33 #[.agg #[.int .i64 (m.id : Int), .string m.text, .slice za m.pat.flat.length zc, .string d], .string s] w fun e w' => ∃ u, e = .returned (.tuple #[u, .nilIface]) ∧ HtOwn w' w.heap.size u (l.map (fun x => (m.id, x.1, x.2))) ∧ Below w.heap.size w w' := by
  have hll : l.length ≤ 401 := by
    have := hl.len
    have hlen : s.data.toList.length = s.size := by simp
    omega
  have h60 : m.pat.flat.length ≤ 60 := by have := hm.2.2.2; omega
  have hb0 : Below w.heap.size w (w.alloc (.cells #[.int .i64 (m.id : Int), .string m.text, .slice za m.pat.flat.length zc, .string d] 73)) := (Below.refl _ _).alloc (Nat.le_refl _) _
  have CF := hid (findL.all m.pat (.slice za m.pat.flat.length zc) s l _ (hT.below hb0 (Nat.le_refl _)) hm.isOk (NsOwn.isIn (show NsOwn _ B0 _ _ from owns_below hN hb0) (by unfold maxLen; omega)) hw ((meanF_zero _ _).2 ⟨hm.fault, hs⟩) hl)
  have HB0 := hid hb0
  clear hl hT hN hw hm hb0
  go_enter Tryz.func33, Tryz.ntmps33
  go_wp2_with fail
  refine Calls.mono CF.out ?_
  rintro e w1 ⟨u, rfl, hb, hin⟩
  obtain ⟨la, lc, rfl, hlm⟩ := spIn_form hin
  have hb1 := HB0.out.trans (hb.mono HB0.out.size)
  have HI := hid hin
  have hrec : w1.heap[w.heap.size]? = some (.cells #[.int .i64 (m.id : Int), .string m.text, .slice za m.pat.flat.length zc, .string d] 73 (0, 0)) := (hb.block w.heap.size (by simp)).trans (World.alloc_heap_new w _)
  have HR := hid hrec
  have HB1 := hid hb1
  have HI0 : Hid (HtOwn w1 w.heap.size (.slice none 0 0) ((l.take 0).map (fun x => (m.id, x.1, x.2))) ∧ Below w1.heap.size w1 w1) := ⟨HtOwn.nil _ _, Below.refl _ _⟩
  clear hb hb1 hin hrec CF HB0
  go_wp2_with fail
  go_loopw [8, 23] (fun o v wr => ∃ k : Nat, k ≤ l.length ∧ v = .int .i64 (k : Int) ∧ Hid (HtOwn wr w1.heap.size o ((l.take k).map (fun x => (m.id, x.1, x.2))) ∧ Below w1.heap.size w1 wr)) (fun _ v _ => l.length - (intOf v).toNat)
  case atStart => exact ⟨0, by omega, rfl, ⟨HtOwn.nil _ _, Below.refl _ _⟩⟩
  case round =>
    clear HI0
    obtain ⟨k, hk, rfl, HQ⟩ := hrel
    by_cases hkl : k < l.length
    · obtain ⟨x, hx⟩ : ∃ x, l[k]? = some x := ⟨l[k], List.getElem?_eq_getElem hkl⟩
      have k0 : (0 : Int) ≤ (k : Int) := by omega
      have k1 : (k : Int) < (l.length : Int) := by omega
      obtain ⟨M, hM⟩ : ∃ M, M = (l.take k).map (fun x => (m.id, x.1, x.2)) := ⟨_, rfl⟩
      have hML : M.length ≤ 401 := by rw [hM, List.length_map, List.length_take]; omega
      have HST : Hid ((l.take (k + 1)).map (fun x => (m.id, x.1, x.2)) = M ++ [(m.id, x.1, x.2)]) := by
        show _ = _
        rw [List.take_add_one, hx, List.map_append, hM]
        rfl
      rw [← hM] at HQ
      obtain ⟨oa, oc, rfl⟩ := HQ.out.1.form
      obtain ⟨lb, off, rfl, hlb, hat⟩ : ∃ b off, la = some ⟨b, off, none⟩ ∧ b < w1.heap.size ∧ SpAt w1 b off l := by
        obtain ⟨a', c', e, _, h | h⟩ := HI.out
        · rw [h] at hkl; simp at hkl
        · injection e with e _ _
          rw [e]
          exact h
      obtain ⟨s0, s1⟩ := hat k x hx
      have x0 := (HQ.out.2.cell (p := ⟨lb, _, none⟩) hlb).trans s0
      have x1 := (HQ.out.2.cell (p := ⟨lb, _, none⟩) hlb).trans s1
      have hrw := (HQ.out.2.block w.heap.size (hp_lt HR.out)).trans HR.out
      have r0 := Lib.cell_of_heap hrw 0
      simp only [List.getElem?_toArray, List.getElem?_cons_zero, List.getElem?_cons_succ] at r0
      have hwr := hp_lt hrw
      have r1 : ∀ o, (wr.alloc o).cell? ⟨w.heap.size, 0, none⟩ = some (.int .i64 (m.id : Int)) := fun o => (World.cell?_of_block (Below.heap_alloc _ _ _ hwr)).trans r0
      have hbA : Below wr.heap.size wr ((wr.alloc (.cells #[.int .i64 (x.1 : Int), .int .i64 (x.2 : Int)] 54)).alloc (.cells #[.int .i64 (m.id : Int), .int .i64 (x.1 : Int), .int .i64 (x.2 : Int)] 56)) := ((Below.refl _ _).alloc (Nat.le_refl _) _).alloc (by simp) _
      have HO := hid (owns_below HQ.out.1 hbA)
      have HBA := hid hbA
      clear hx hM hbA hat s0 s1 hrw
      go_wp2_with (at_builtin; refine wpList_append_ht rfl _ _ rfl w1.heap.size _ rfl M HO.out (wr.heap.size + 1) 1 (m.id, x.1, x.2) rfl (by rw [World.cell?_alloc_at (w := wr.alloc _) _ _ (wr.heap.size + 1) 0 (by simp)]; rfl) (by rw [World.cell?_alloc_at (w := wr.alloc _) _ _ (wr.heap.size + 1) 1 (by simp)]; rfl) (by rw [World.cell?_alloc_at (w := wr.alloc _) _ _ (wr.heap.size + 1) 2 (by simp)]; rfl) (by omega) (by have := HQ.out.2.size; simp; omega) ?_; intro g2 cap2 w2 ho2 hg2 _ _)
      all_goals
        have HQ2 : Hid (HtOwn w2 w1.heap.size (.slice (some ⟨g2, 0, none⟩) (M.length + 1) cap2) ((l.take (k + 1)).map (fun x => (m.id, x.1, x.2))) ∧ Below w1.heap.size w1 w2) := ⟨by rw [HST.out]; exact ho2, (HQ.out.2.trans (HBA.out.mono HQ.out.2.size)).trans (owns_grown HO.out (by have := HQ.out.2.size; simp; omega) hg2)⟩
        exact ⟨⟨k + 1, by omega, by go_num, HQ2⟩, by simp [intOf]; omega⟩
    · have g1 : ¬ (k : Int) < (l.length : Int) := by omega
      have HZ : Hid (HtOwn wr w.heap.size u8 (l.map (fun x => (m.id, x.1, x.2))) ∧ Below w.heap.size w wr) := by
        have h := HQ.out
        rw [List.take_of_length_le (by omega)] at h
        exact ⟨World.ownsRow.mono h.1 HB1.out.size, HB1.out.trans (h.2.mono HB1.out.size)⟩
      clear HQ
      go_wp2
      go_ret2
      exact ⟨_, rfl, HZ.out.1, HZ.out.2⟩
end Go.Proofs.YtejbififfceamaaGreatDoor
namespace Go.Proofs.YtejbififfceamaaGreatDoor
set_option linter.unusedSimpArgs false
set_option linter.unusedVariables false
set_option maxRecDepth 100000
open Go.RowKit
theorem ht_info : (Tryz.prog.info? 56).map (fun i => (i.zero, i.size, i.bytes)) = some (some (.agg #[.int .i64 0, .int .i64 0, .int .i64 0]), 3, 24) := by kernel_rfl
/-- append of no hit at all: nothing turns. -/
theorem append_ht_none {w : World} {B : Nat} {v : Value} {l : List (Nat × Nat × Nat)} (hown : HtOwn w B v l) (z : Option Addr) (cap : Nat) (ty : TypeId) : (Builtin.append_ #[43, 43] ty #[v, .slice z 0 cap]).run Tryz.prog w = .ok v w := by
  obtain ⟨i0, hi, hz0, hz1, hz2⟩ := info_parts ht_info
  rcases hown.2 with ⟨hv, h0⟩ | ⟨g, c, cur, hv, hb, hg, hc, _⟩
  · subst hv
    exact append_ht_nil z cap ty w
  · subst hv
    have hs : Src Tryz.prog i0.size 43 (.slice z 0 cap) 0 [] w := by
      cases z with
      | none => exact Src.ofNil w Tryz.underlying43 cap
      | some a => exact Src.ofSlice w Tryz.underlying43 a 0 cap [] (by simp) (fun j u hj => by simp at hj) (fun u hu => by cases hu)
    have h := run_append_room_src w 43 43 ty 56 i0 Tryz.underlying43 hi g 0 l.length c (.slice z 0 cap) 0 [] hs (by omega) (fun j hj => by simp at hj) (fun j hj => by simp at hj)
    exact h
theorem wpList_append_hte {ops : Array Oper} {rest : List Oper} {o : Oper} {a : Act} {Q : Exit → Act → World → Prop} {w : World} (hgd : o.guard = none) (s x : Operand)
    (ho : o.op = .call { callee := .builtin .append, args := #[s, x], argTypes := #[43, 43] })
    (B : Nat) (v : Value) (hs : a.eval s = v) (l : List (Nat × Nat × Nat)) (hown : HtOwn w B v l) (z : Option Addr) (cap : Nat) (hx : a.eval x = .slice z 0 cap)
    (h : wpList Tryz.prog ops Q rest (a.put o.dst v) w) : wpList Tryz.prog ops Q (o :: rest) a w := by
  refine wpList_plain hgd fun K hK => ?_
  unfold Oper.wp execOp
  simp only [ho, resolve, invoke, builtin, Sem.run_bind, Sem.run_pure, Result.andThen_ok, List.map_toArray, List.map_cons, List.map_nil, hs, hx, append_ht_none hown]
  exact hK _ _ h
set_option maxHeartbeats 1000000 in
theorem lscan_full (mb : Nat) (w : World) (s : ByteArray) (hs : s.size ≤ maxLen) (h4 : 400 < s.size) :
    Calls Tryz.prog 14 #[.pointer (some ⟨mb, 0, none⟩), .string s] w fun x w' => x = .returned (.tuple #[.slice none 0 0, .iface 32 (.int .i64 3)]) ∧ w' = w := by
  unfold maxLen at hs
  have g1 : (s.size : Int) > 400 := by omega
  go_enter Tryz.func14, Tryz.ntmps14
  go_wp2
  go_ret2
  exact ⟨rfl, rfl⟩
/-- Those that are tried. -/
noncomputable def trl (on : Bool) (s : List UInt8) (ps : List (Mbr × Value)) : List (Mbr × Value) := ps.filter (fun x => x.1.try s || !on)
theorem trl_map (on : Bool) (s : List UInt8) (ps : List (Mbr × Value)) : (trl on s ps).map (·.1) = (ps.map (·.1)).filter (fun m => m.try s || !on) := by
  unfold trl
  rw [List.filter_map]
  rfl
theorem trl_on (s : List UInt8) (ps : List (Mbr × Value)) : trs s ps = trl true s ps := by
  unfold trs trl
  congr 1
  funext x
  rw [try_index]
  simp
theorem trl_off (s : List UInt8) (ps : List (Mbr × Value)) : trl false s ps = ps := by
  unfold trl
  rw [List.filter_eq_self]
  intro x _
  simp
theorem ltry_any (mb : Nat) (v : Value) (ps : List (Mbr × Value)) (σ : SetS) (w : World) (h : MsI mb v ps σ w) (hσ : σ.Ok) (s : ByteArray) (hs : s.size ≤ 400) (hX : Mxl w) :
    Calls Tryz.prog 32 #[.pointer (some ⟨mb, 0, none⟩), .string s] w fun e w' => ∃ u, e = .returned u ∧ MbOwn w' 0 u (trl σ.on s.data.toList ps) ∧ Below w.heap.size w w' := by
  cases hon : σ.on with
  | false =>
    refine (ltry_off mb v ps σ w h hon s).mono ?_
    rintro e w' ⟨rfl, rfl⟩
    exact ⟨v, rfl, by rw [trl_off]; exact h.row, Below.refl _ _⟩
  | true =>
    refine (ltry_on mb v ps σ w h hσ hon s hs hX).mono ?_
    rintro e w' ⟨u, rfl, hO, hb⟩
    exact ⟨u, rfl, by rw [← trl_on]; exact World.ownsRow.mono hO (Nat.zero_le _), hb⟩
set_option maxHeartbeats 8000000 in
theorem lscan_ok (mb : Nat) (v : Value) (ps : List (Mbr × Value)) (σ : SetS) (w : World) (h : MsI mb v ps σ w) (hσ : σ.Ok) (s : ByteArray) (hs : s.size ≤ 400) (hT : Tab w) (hX : Mxl w) (hits : List (Nat × Nat × Nat)) (hA : AllsR s.data.toList σ.ms hits) :
    Calls Tryz.prog 14 #[.pointer (some ⟨mb, 0, none⟩), .string s] w fun x w' => ∃ u, x = .returned (.tuple #[u, .nilIface]) ∧ HtOwn w' w.heap.size u hits ∧ MsI mb v ps ⟨σ.ms, σ.last, σ.on, triedL σ.on σ.ms s.data.toList⟩ w' ∧ But (fun k => k = mb) w w' := by
  have hhl : hits.length ≤ 4812 := by
    have h3 := hA.len
    have h4 : σ.ms.length * (s.data.toList.length + 1) ≤ 12 * 401 := Nat.mul_le_mul hσ.len (by simp; omega)
    omega
  have g0 : ¬ (s.size : Int) > 400 := by omega
  have CT := hid (ltry_any mb v ps σ w h hσ s hs hX)
  obtain ⟨qs, hqs⟩ : ∃ qs, qs = trl σ.on s.data.toList ps := ⟨_, rfl⟩
  rw [← hqs] at CT
  have hmem : ∀ x ∈ qs, x ∈ ps := fun x hx => by rw [hqs] at hx; exact (List.mem_filter.1 hx).1
  have HME := hid hmem
  have HMO : Hid (∀ x ∈ qs, x.1.ok) := fun x hx => (hσ.each x.1 (by rw [h.ms]; exact List.mem_map.2 ⟨x, hmem x hx, rfl⟩)).1
  have HTR : Hid (qs.length = triedL σ.on σ.ms s.data.toList) := by
    show _ = _
    unfold triedL
    rw [h.ms, ← trl_map, List.length_map, hqs]
  have hAQ : AllsR s.data.toList (qs.map (·.1)) hits := by
    rw [hqs, trl_map, ← h.ms]
    exact alls_try σ.on s.data.toList σ.ms hits (fun m hm => (hσ.each m hm).1) hA
  have HAQ := hid hAQ
  have hq12 : qs.length ≤ 12 := by
    have h1 : qs.length ≤ ps.length := by rw [hqs]; exact List.length_filter_le _ _
    have := h.len
    have := hσ.len
    omega
  have H := hid h
  have HT := hid hT
  have HX := hid hX
  clear h hσ hT hX hA hAQ hmem hqs
  go_enter Tryz.func14, Tryz.ntmps14
  go_wp2_with fail
  refine Calls.mono CT.out ?_
  rintro e w1 ⟨u, rfl, hO, hb⟩
  obtain ⟨qa, qc, rfl, hat⟩ := MbOwn.at hO
  have HO := hid hO
  have HAT := hid hat
  have HB := hid hb
  have H1 := hid (H.out.below hb)
  have HI0 : Hid (∃ L r, HtOwn w1 w1.heap.size (.slice none 0 0) L ∧ hits = L ++ r ∧ AllsR s.data.toList ((qs.drop 0).map (·.1)) r ∧ Below w1.heap.size w1 w1) := ⟨[], hits, HtOwn.nil _ _, rfl, HAQ.out, Below.refl _ _⟩
  clear hO hat hb CT
  go_wp2_with fail
  go_loopw [6, 21] (fun o v wr => ∃ k : Nat, k ≤ qs.length ∧ v = .int .i64 (k : Int) ∧ Hid (∃ L r, HtOwn wr w1.heap.size o L ∧ hits = L ++ r ∧ AllsR s.data.toList ((qs.drop k).map (·.1)) r ∧ Below w1.heap.size w1 wr)) (fun _ v _ => qs.length - (intOf v).toNat)
  case atStart => exact ⟨0, by omega, rfl, HI0⟩
  case round =>
    clear HI0
    obtain ⟨i, hi, rfl, HQ⟩ := hrel
    obtain ⟨L, r, hL1, hL2, hL3, hL4⟩ := HQ.out
    obtain ⟨oa, oc, ho⟩ := owns_form hL1
    subst ho
    have HLO := hid hL1
    have HBR := hid hL4
    have HPT := hid hL2
    have hLl : L.length ≤ 4812 := by have := congrArg List.length hL2; rw [List.length_append] at this; omega
    by_cases hil : i < qs.length
    · obtain ⟨x, hx⟩ : ∃ x, qs[i]? = some x := ⟨qs[i], List.getElem?_eq_getElem hil⟩
      have i0 : (0 : Int) ≤ (i : Int) := by omega
      have i1 : (i : Int) < (qs.length : Int) := by omega
      obtain ⟨b, hbb, hmat⟩ : ∃ b, qa = some ⟨b, 0, none⟩ ∧ MbAt w1 b qs := by
        rcases HAT.out with h | h
        · rw [h] at hil; simp at hil
        · exact h
      subst hbb
      have hbw : b < w1.heap.size := (owns_block HO.out (g := b) rfl).2.1
      have hxm := List.mem_of_getElem? hx
      have hNs := H1.out.pats x (HME.out x hxm)
      have hok := HMO.out x hxm
      obtain ⟨za, zc, hz⟩ := owns_form hNs
      obtain ⟨y0, y1, y2, y3⟩ := hmat i x hx
      have x0 := (HBR.out.cell (p := ⟨b, i * 4, none⟩) hbw).trans y0
      have x1 := (HBR.out.cell (p := ⟨b, i * 4 + 1, none⟩) hbw).trans y1
      have x2 := (HBR.out.cell (p := ⟨b, i * 4 + 2, none⟩) hbw).trans y2
      have x3 := (HBR.out.cell (p := ⟨b, i * 4 + 3, none⟩) hbw).trans y3
      obtain ⟨l, rr, hl, hrr, hre⟩ : ∃ l rr, AllR s.data.toList x.1.pat 0 l ∧ AllsR s.data.toList ((qs.drop (i + 1)).map (·.1)) rr ∧ r = l.map (fun y => (x.1.id, y.1, y.2)) ++ rr := by
        have e : qs.drop i = x :: qs.drop (i + 1) := by
          rw [List.drop_eq_getElem_cons hil]
          rw [List.getElem?_eq_getElem hil] at hx
          rw [Option.some.inj hx]
        rw [e] at hL3
        cases hL3 with
        | cons _ _ l h h1 h2 => exact ⟨l, h, h1, h2, rfl⟩
      obtain ⟨m, z⟩ := x
      simp only at hz
      subst hz
      simp only at x0 x1 x2 x3 hl hre hok hNs
      have hwf : ∀ n ∈ m.pat.flat, n.wf := fun n hn => good_wf (hok.good.all n hn)
      have hbA : Below wr.heap.size wr (wr.alloc (.cells #[.int .i64 (m.id : Int), .string m.text, .slice za m.pat.flat.length zc, .string m.need] 73)) := (Below.refl _ _).alloc (Nat.le_refl _) _
      have hb2 := HBR.out.trans (hbA.mono HBR.out.size)
      have CH := hid (lhits_any m hok hwf s hs l hl za zc m.need 0 _ (HT.out.below (HB.out.trans (hb2.mono HB.out.size)) (Nat.le_refl _)) (owns_below hNs hb2))
      have hll : l.length ≤ 401 := by
        have := hl.len
        have hlen : s.data.toList.length = s.size := by simp
        omega
      have HBA := hid hbA
      have HB2 := hid hb2
      have HRR := hid hrr
      have HRE := hid hre
      obtain ⟨F, hF⟩ : ∃ F, F = l.map (fun y => (m.id, y.1, y.2)) := ⟨_, rfl⟩
      have hFl : F.length ≤ 401 := by rw [hF, List.length_map]; exact hll
      rw [← hF] at CH HRE
      clear hx hmat y0 y1 y2 y3 hxm hNs hok hl hrr hre hwf hbA hb2 hL1 hL2 hL3 hL4 HQ hF hll
      go_wp2_with fail
      refine Calls.mono CH.out ?_
      rintro e w3 ⟨fu, rfl, hfu, hb3⟩
      obtain ⟨fa, fc, hff⟩ := owns_form hfu
      subst hff
      have hb4 := HB2.out.trans (hb3.mono HB2.out.size)
      have HLO3 := hid (owns_below (owns_below HLO.out HBA.out) hb3)
      have HFU := hid hfu
      have HB4 := hid hb4
      clear hfu hb3 hb4 CH HBA HB2 x0 x1 x2 x3
      by_cases hF0 : F = []
      · subst hF0
        go_wp2_with (at_builtin; refine wpList_append_hte rfl _ _ rfl w1.heap.size _ rfl L HLO3.out fa fc rfl ?_)
        have HQ2 : Hid (∃ L' r', HtOwn w3 w1.heap.size (.slice oa L.length oc) L' ∧ hits = L' ++ r' ∧ AllsR s.data.toList ((qs.drop (i + 1)).map (·.1)) r' ∧ Below w1.heap.size w1 w3) := ⟨L, rr, HLO3.out, by rw [HPT.out, HRE.out, List.nil_append], HRR.out, HB4.out⟩
        exact ⟨⟨i + 1, by omega, by go_num, HQ2⟩, by simp [intOf]; omega⟩
      · obtain ⟨fb, hfb, hfat⟩ : ∃ fb off, fa = some ⟨fb, off, none⟩ ∧ HtAt w3 fb off F := by
          obtain ⟨a', c', e, _, h | ⟨b', off', h1, _, h2⟩⟩ := HFU.out.isIn (by unfold maxLen; omega)
          · exact absurd h hF0
          · injection e with e _ _
            exact ⟨b', off', e.trans h1, h2⟩
        obtain ⟨rfl, hfat⟩ := hfat
        have HFA := hid hfat
        have hF1 : 0 < F.length := List.length_pos_iff.2 hF0
        clear hfat hF0
        go_wp2_with (at_builtin; refine wpList_append_hts rfl _ _ rfl w1.heap.size _ rfl L HLO3.out fb hfb fc F rfl hF1 HFA.out (by omega) (by have := HB4.out.size; omega) ?_; intro g5 c5 w5 ho5 hg5)
        have HQ2 : Hid (∃ L' r', HtOwn w5 w1.heap.size (.slice (some ⟨g5, 0, none⟩) (L.length + F.length) c5) L' ∧ hits = L' ++ r' ∧ AllsR s.data.toList ((qs.drop (i + 1)).map (·.1)) r' ∧ Below w1.heap.size w1 w5) := ⟨L ++ F, rr, by rw [← List.length_append]; exact ho5, by rw [HPT.out, HRE.out, List.append_assoc], HRR.out, HB4.out.trans (owns_grown HLO3.out (by have := HB4.out.size; omega) hg5)⟩
        exact ⟨⟨i + 1, by omega, by go_num, HQ2⟩, by simp [intOf]; omega⟩
    · have g1 : ¬ (i : Int) < (qs.length : Int) := by omega
      obtain rfl : i = qs.length := by omega
      rw [List.drop_length] at hL3
      cases hL3
      rw [List.append_nil] at hL2
      subst hL2
      obtain ⟨d0, -, -, d3, df⟩ := (H1.out.below hL4).cells
      have f3 := df 3
      have hbx := (H1.out.below hL4).box
      have HBX := hid hbx
      have HM := hid (H1.out.below hL4)
      clear df hbx HQ hL4 hL1 d0
      go_wp2
      have hg := grown_cellR wr ⟨mb, 3, none⟩ (.int .i64 (qs.length : Int))
      have hrow := owns_other HLO.out HBX.out (by decide) hg
      have hmi : MsI mb v ps ⟨σ.ms, σ.last, σ.on, qs.length⟩ (wr.setCell ⟨mb, 3, none⟩ (.int .i64 (qs.length : Int))) := HM.out.put hg rfl (by simp [World.setCell, Array.getElem?_modify, HBX.out])
      have hbut : But (fun k => k = mb) w (wr.setCell ⟨mb, 3, none⟩ (.int .i64 (qs.length : Int))) := (But.below (HB.out.trans (HBR.out.mono HB.out.size))).trans (But.grown (F := fun k => k = mb) hg (fun k e => by injection e with e; exact e.symm)) (fun k hk => Or.inl hk)
      have HZ : Hid (HtOwn (wr.setCell ⟨mb, 3, none⟩ (.int .i64 (qs.length : Int))) w.heap.size (.slice oa hits.length oc) hits ∧ MsI mb v ps ⟨σ.ms, σ.last, σ.on, triedL σ.on σ.ms s.data.toList⟩ (wr.setCell ⟨mb, 3, none⟩ (.int .i64 (qs.length : Int))) ∧ But (fun k => k = mb) w (wr.setCell ⟨mb, 3, none⟩ (.int .i64 (qs.length : Int)))) := ⟨World.ownsRow.mono hrow HB.out.size, by rw [← HTR.out]; exact hmi, hbut⟩
      clear hg hrow hmi hbut
      go_ret2
      exact ⟨_, rfl, HZ.out.1, HZ.out.2.1, HZ.out.2.2⟩
/-- Scan, whatever comes of it. -/
theorem lscan_any (mb : Nat) (v : Value) (ps : List (Mbr × Value)) (σ σ' : SetS) (w : World) (h : MsI mb v ps σ w) (hσ : σ.Ok) (s : ByteArray) (hs : s.size ≤ maxLen) (hT : Tab w) (hX : Mxl w) (e : Int) (hits : List (Nat × Nat × Nat)) (g : ScanR σ s e hits σ') :
    Calls Tryz.prog 14 #[.pointer (some ⟨mb, 0, none⟩), .string s] w fun x w' => ∃ u, x = .returned (.tuple #[u, errV e]) ∧ HtOwn w' w.heap.size u hits ∧ MsI mb v ps σ' w' ∧ But (fun k => k = mb) w w' := by
  cases g with
  | full h4 =>
    refine (lscan_full mb w s hs h4).mono ?_
    rintro x w' ⟨rfl, rfl⟩
    exact ⟨_, rfl, HtOwn.nil _ _, h, But.refl _ _⟩
  | ok hits h4 hA => exact lscan_ok mb v ps σ w h hσ s h4 hT hX hits hA
end Go.Proofs.YtejbififfceamaaGreatDoor
namespace Go.Proofs.YtejbififfceamaaGreatDoor
set_option linter.unusedSimpArgs false
set_option linter.unusedVariables false
set_option maxRecDepth 100000
open Go.RowKit
/-- What the library's tables hold. -/
def Xs (w : World) : Prop := Tab w ∧ Mxl w
theorem HtOwn.offL {w : World} {B : Nat} {v : Value} {l : List (Nat × Nat × Nat)} (h : HtOwn w B v l) (hm : l.length ≤ maxLen) : HtOff (fun k => k < B) w v l := by
  have hi := h.isIn hm
  rcases h.2 with ⟨hv, h0⟩ | ⟨g, cap, cur, hv, hb, hg, _⟩
  · exact ⟨none, 0, by rw [hv, h0], hm, Or.inl (List.eq_nil_of_length_eq_zero h0)⟩
  · obtain ⟨a, c, hv2, _, hq⟩ := hi
    refine ⟨a, c, hv2, hm, ?_⟩
    rcases hq with hq | ⟨b, off, ha, hlt, hat⟩
    · exact Or.inl hq
    · refine Or.inr ⟨b, off, ha, hlt, ?_, hat⟩
      rw [hv] at hv2
      injection hv2 with e _ _
      rw [ha] at e
      injection e with e
      injection e with e _ _
      omega
theorem own_new {w : World} {B n k : Nat} {T : TypeId} {v : Value} {xs : List Value} (h : w.ownsRow B T n v k xs) : NewAt B v := fun g e => (owns_block h e).1
/-- Scan: the hits are new, and lie in nothing that the Set keeps. -/
theorem lscan_out (F : Nat → Prop) (w : World) (u : Value) (σ : SetS) (s : ByteArray) (e : Int) (h : List (Nat × Nat × Nat)) (σ' : SetS) (hX : Xs w) (hS : SvL F w u σ) (hσ : σ.Ok) (hs : s.size ≤ maxLen) (g : ScanR σ s e h σ') :
    Calls Tryz.prog 14 #[u, .string s] w fun x w' => ∃ v, x = .returned (.tuple #[v, errV e]) ∧ NewAt w.heap.size v ∧ Turns F w w' (fun F' => SvL F' w' u σ' ∧ HtOff F' w' v h) := by
  obtain ⟨mb, v, ps, rfl, hm, hF⟩ := hS
  refine (lscan_any mb v ps σ σ' w hm hσ s hs hX.1 hX.2 e h g).mono ?_
  rintro x w' ⟨z, rfl, hO, hm', hb⟩
  have hl : h.length ≤ maxLen := by have := g.len hσ; unfold maxLen; omega
  refine ⟨z, rfl, own_new hO, F, ⟨⟨mb, v, ps, rfl, hm', hF⟩, ?_⟩, hb.mono (fun k _ hk => (hF k).2 (Or.inl hk)), fun k hk => Or.inl hk⟩
  obtain ⟨a, c, h1, h2, h3⟩ := hO.offL hl
  refine ⟨a, c, h1, h2, ?_⟩
  rcases h3 with h3 | ⟨b, off, h4, h5, h6, h7⟩
  · exact Or.inl h3
  · exact Or.inr ⟨b, off, h4, h5, fun hf => h6 (hm.lt ((hF b).1 hf)), h7⟩
theorem llist_out (F : Nat → Prop) (w : World) (u : Value) (σ : SetS) (hS : SvL F w u σ) (hσ : σ.Ok) :
    Calls Tryz.prog 17 #[u] w fun x w' => ∃ v, x = .returned v ∧ (ItIn w' v σ.items ∧ NewAt w.heap.size v) ∧ Below w.heap.size w w' := by
  obtain ⟨mb, v, ps, rfl, hm, hF⟩ := hS
  refine (llist_any mb v ps σ w hm hσ).mono ?_
  rintro x w' ⟨z, rfl, hO, hb⟩
  have hl : σ.items.length ≤ maxLen := by
    have := hσ.len
    have e : σ.items.length = σ.ms.length := by simp [SetS.items]
    unfold maxLen
    omega
  exact ⟨z, rfl, ⟨hO.isIn hl, own_new hO⟩, hb⟩
/-- A call that turned what the Set keeps alone. -/
theorem turnsL {mb : Nat} {v v' : Value} {ps ps' : List (Mbr × Value)} {σ' : SetS} {F : Nat → Prop} {w w' : World} (hF : ∀ k, F k ↔ FootL mb v ps k) (hm : MsI mb v' ps' σ' w') (hb : But (FootL mb v ps) w w') (ho : Onto (FootL mb v ps) (FootL mb v' ps') w) : Turns F w w' (fun F' => SvL F' w' (.pointer (some ⟨mb, 0, none⟩)) σ') :=
  ⟨FootL mb v' ps', ⟨mb, v', ps', rfl, hm, fun _ => Iff.rfl⟩, hb.mono (fun k _ hk => (hF k).2 hk), fun k hk => (ho k hk).imp (fun h => (hF k).2 h) id⟩
/-- Package set is as the document asks. -/
theorem setC : SetC Xs SvL where
  lt := fun F w u σ h => h.lt
  ptr := fun F w u σ h => h.ptr
  keep := fun F G w w' u σ h hb hG => h.keep hb hG
  new := fun w _ => lnew_any w
  add := by
    rintro F w u σ s n k e σ' hX ⟨mb, v, ps, rfl, hm, hF⟩ hσ hl hs ha
    refine (ladd_any mb v ps σ σ' w hm hσ hl s hs n k e ha).mono ?_
    rintro x w' ⟨rfl, v', ps', h1, h2, h3⟩
    exact ⟨rfl, turnsL hF h1 h2 h3⟩
  remove := by
    rintro F w u σ n hX ⟨mb, v, ps, rfl, hm, hF⟩ hσ
    refine (lremove_any mb v ps σ w hm hσ n).mono ?_
    rintro x w' ⟨rfl, v', ps', h1, h2, h3⟩
    exact ⟨rfl, turnsL hF h1 h2 h3⟩
  list := fun F w u σ hX hS hσ => (llist_out F w u σ hS hσ).mono fun _ _ ⟨v, h1, h2, h3⟩ => ⟨v, h1, h2.1, h3⟩
  scan := fun F w u σ s e h σ' hX hS hσ hs g => (lscan_out F w u σ s e h σ' hX hS hσ hs g).mono fun _ _ ⟨v, h1, _, h3⟩ => ⟨v, h1, h3⟩
  filter := by
    rintro F w u σ b hX ⟨mb, v, ps, rfl, hm, hF⟩ hσ
    refine (lfilter_any mb v ps σ w hm b).mono ?_
    rintro x w' ⟨rfl, h1, h2⟩
    exact ⟨rfl, turnsL hF h1 h2 (fun k hk => Or.inl hk)⟩
theorem setT : SetT Xs SvL where
  tried := by
    rintro F w u σ hX ⟨mb, v, ps, rfl, hm, hF⟩ hσ
    refine (ltried_any mb v ps σ w hm).mono ?_
    rintro x w' ⟨rfl, rfl⟩
    exact ⟨rfl, Below.refl _ _⟩
theorem setN : SetN Xs SvL where
  list := fun F w u σ hX hS hσ => llist_out F w u σ hS hσ
  scan := fun F w u σ s e h σ' hX hS hσ hs g => lscan_out F w u σ s e h σ' hX hS hσ hs g
theorem findLX : FindL Xs := ⟨findL.bad, fun t v s l w h => findL.all t v s l w h.1⟩
theorem lasts_xs : Lasts Xs := fun w w' h hb => ⟨h.1.below hb (Nat.le_refl _), h.2.below hb (Nat.le_refl _)⟩
end Go.Proofs.YtejbififfceamaaGreatDoor
namespace Go.Proofs.YtejbififfceamaaGreatDoor
set_option linter.unusedSimpArgs false
set_option linter.unusedVariables false
set_option maxRecDepth 100000
open Go.ChangeShapes Go.WideShapes Go.ChangeAt Go.RowKit
theorem mxl_of_shaped {W : World} (h : W.ShapedOpen Tryz.prog) : Mxl W :=
  cell_of_shapedOpen_int (g := 1) (t := 3) (zero := #[.int .i64 0]) h (by decide +kernel) (by kernel_rfl) rfl (by kernel_rfl) (by kernel_rfl) Tryz.underlying3
end Go.Proofs.YtejbififfceamaaGreatDoor
namespace Go.Proofs.YtejbififfceamaaGreatDoor
set_option linter.unusedSimpArgs false
set_option linter.unusedVariables false
set_option maxRecDepth 100000
open Go.RowKit
/-- A set that has come to be of another one. -/
structure Came (Sv : (Nat → Prop) → World → Value → SetS → Prop) (w0 : World) (u : Value) (F : Nat → Prop) (w : World) (n : Nat) (F' : Nat → Prop) (σ : SetS) (w' : World) : Prop where
  s : Sv F' w' u σ
  ok : σ.Ok
  last : σ.last ≤ n
  but : But F w w'
  onto : Onto F F' w
  lo : ∀ k, F' k → w0.heap.size ≤ k
  b : Below w0.heap.size w0 w'
theorem Came.turn {Sv : (Nat → Prop) → World → Value → SetS → Prop} {w0 : World} {u : Value} {F : Nat → Prop} {w : World} {n m : Nat} {F1 F2 : Nat → Prop} {σ1 σ2 : SetS} {w1 w2 : World} (h : Came Sv w0 u F w n F1 σ1 w1) (hs : Sv F2 w2 u σ2) (hb : But F1 w1 w2) (ho : Onto F1 F2 w1) (hok : σ2.Ok) (hl : σ2.last ≤ m) : Came Sv w0 u F w m F2 σ2 w2 where
  s := hs
  ok := hok
  last := hl
  but := h.but.trans hb h.onto
  onto := fun k hk => by
    rcases ho k hk with h1 | h1
    · exact h.onto k h1
    · exact Or.inr (Nat.le_trans h.but.size h1)
  lo := fun k hk => by
    rcases ho k hk with h1 | h1
    · exact h.lo k h1
    · exact Nat.le_trans h.b.size h1
  b := h.b.trans (hb.to h.b.size h.lo)
theorem Came.below {X : World → Prop} {Sv : (Nat → Prop) → World → Value → SetS → Prop} (S : SetC X Sv) {w0 : World} {u : Value} {F : Nat → Prop} {w : World} {n : Nat} {F1 : Nat → Prop} {σ1 : SetS} {w1 w2 : World} (h : Came Sv w0 u F w n F1 σ1 w1) (hb : Below w1.heap.size w1 w2) : Came Sv w0 u F w n F1 σ1 w2 :=
  h.turn (S.keep F1 (fun _ => False) w1 w2 u σ1 h.s (But.below hb) (fun _ h => h.elim)) (But.below hb) (fun k hk => Or.inl hk) h.ok h.last
theorem Came.refl {Sv : (Nat → Prop) → World → Value → SetS → Prop} {w0 : World} {u : Value} {F : Nat → Prop} {w : World} {σ : SetS} (hs : Sv F w u σ) (hok : σ.Ok) (lo : ∀ k, F k → w0.heap.size ≤ k) (b : Below w0.heap.size w0 w) : Came Sv w0 u F w σ.last F σ w := ⟨hs, hok, Nat.le_refl _, But.refl _ _, fun k hk => Or.inl hk, lo, b⟩
end Go.Proofs.YtejbififfceamaaGreatDoor
namespace Go.Proofs.YtejbififfceamaaGreatDoor
set_option linter.unusedSimpArgs false
set_option linter.unusedVariables false
set_option maxRecDepth 100000
open Go.RowKit
def Stp3.cells (n : Stp3) : List Value := [.int .i64 n.what, .string n.text, .int .i64 n.n]
def Stp3.wf (n : Stp3) : Prop := (Lit.int .i64 n.what).wf = true ∧ n.text.size ≤ maxLen ∧ (Lit.int .i64 n.n).wf = true
instance : Inhabited Stp3 := ⟨⟨0, ⟨#[]⟩, 0⟩⟩
/-- The steps ss lie in block b from off on. -/
def PlAt (w : World) (b off : Nat) (ss : List Stp3) : Prop := ∀ i n, ss[i]? = some n → w.cell? ⟨b, off + i * 3, none⟩ = some (.int .i64 n.what) ∧ w.cell? ⟨b, off + i * 3 + 1, none⟩ = some (.string n.text) ∧ w.cell? ⟨b, off + i * 3 + 2, none⟩ = some (.int .i64 n.n)
/-- A slice that reads as the steps ss. -/
def PlIn (w : World) (v : Value) (ss : List Stp3) : Prop := ∃ a cap, v = .slice a ss.length cap ∧ ss.length ≤ maxLen ∧ (ss = [] ∨ ∃ b off, a = some ⟨b, off, none⟩ ∧ b < w.heap.size ∧ PlAt w b off ss)
theorem PlAt.below {w w' : World} {B b off : Nat} {ss : List Stp3} (h : PlAt w b off ss) (hb : Below B w w') (hlt : b < B) : PlAt w' b off ss := fun i n hn =>
  ⟨(hb.cell (p := ⟨b, _, none⟩) hlt).trans (h i n hn).1, (hb.cell (p := ⟨b, _, none⟩) hlt).trans (h i n hn).2.1, (hb.cell (p := ⟨b, _, none⟩) hlt).trans (h i n hn).2.2⟩
theorem PlIn.below {w w' : World} {v : Value} {ss : List Stp3} (h : PlIn w v ss) (hb : Below w.heap.size w w') : PlIn w' v ss := by
  obtain ⟨a, cap, rfl, hm, h | ⟨b, off, rfl, hlt, hn⟩⟩ := h
  · exact ⟨a, cap, rfl, hm, Or.inl h⟩
  · exact ⟨_, cap, rfl, hm, Or.inr ⟨b, off, rfl, Nat.lt_of_lt_of_le hlt hb.size, hn.below hb hlt⟩⟩
end Go.Proofs.YtejbififfceamaaGreatDoor
namespace Go.Proofs.YtejbififfceamaaGreatDoor
set_option linter.unusedSimpArgs false
set_option linter.unusedVariables false
set_option maxRecDepth 100000
open Go.RowKit
set_option maxHeartbeats 8000000 in
theorem play_any {X : World → Prop} {Sv : (Nat → Prop) → World → Value → SetS → Prop} (hXb : Lasts X) (S : SetC X Sv) (l : List Stp3) (v u : Value) (w0 w : World) (hX : X w0) (hL : PlIn w0 v l) (wL : ∀ n ∈ l, n.wf) (F : Nat → Prop) (σ : SetS) (hs : Sv F w u σ) (hok : σ.Ok) (hl : σ.last ≤ 100) (lo : ∀ k, F k → w0.heap.size ≤ k) (hb : Below w0.heap.size w0 w) :
    Calls Tryz.prog 19 #[u, v] w fun e w' => e = .returned (.tuple #[]) ∧ ∃ F' σ', Came Sv w0 u F w (σ.last + 30) F' σ' w' := by
  have HXb := hid hXb
  have HS := hid S
  have HX := hid hX
  have HWL := hid wL
  have HI0 : Hid (Came Sv w0 u F w (σ.last + 0) F σ w) := Came.refl hs hok lo hb
  obtain ⟨va, vc, rfl, vm, hcase⟩ := hL
  have HCS := hid hcase
  unfold maxLen at vm
  clear hXb S hX wL hcase hs hok lo hb
  go_enter Tryz.func19, Tryz.ntmps19
  go_wp2_with fail
  go_loopw [4] (fun v wr => ∃ i : Nat, i ≤ l.length ∧ i ≤ 30 ∧ v = .int .i64 (i : Int) ∧ Hid (∃ F' σ', Came Sv w0 u F w (σ.last + i) F' σ' wr)) (fun v _ => l.length - (intOf v).toNat)
  case atStart => exact ⟨0, by omega, by omega, rfl, ⟨_, _, HI0.out⟩⟩
  case round =>
    clear HI0
    obtain ⟨i, hi, hi30, rfl, HA⟩ := hrel
    obtain ⟨F1, σ1, hA⟩ := HA.out
    have HA1 := hid hA
    clear HA hA
    by_cases hil : i < l.length
    · by_cases hi3 : i < 30
      · obtain ⟨n, hn⟩ : ∃ n, l[i]? = some n := ⟨l[i], List.getElem?_eq_getElem hil⟩
        have i0 : (0 : Int) ≤ (i : Int) := by omega
        have i1 : (i : Int) < (l.length : Int) := by omega
        have i2 : (i : Int) < 30 := by omega
        obtain ⟨b, off, rfl, hlt, hat⟩ : ∃ b off, va = some ⟨b, off, none⟩ ∧ b < w0.heap.size ∧ PlAt w0 b off l := by
          rcases HCS.out with h | h
          · rw [h] at hil; simp at hil
          · exact h
        obtain ⟨x0, x1, x2⟩ := (hat.below HA1.out.b hlt) i n hn
        have HTX : Hid (n.text.size ≤ maxLen) := (HWL.out n (List.mem_of_getElem? hn)).2.1
        have HXr := hid (HXb.out w0 wr HX.out HA1.out.b)
        have HLA := hid HA1.out.last
        clear hn hat HCS hil hi3
        by_cases h012 : n.what = 0 ∨ n.what = 1 ∨ n.what = 2
        · obtain ⟨n1, k1, e1, σ2, had⟩ := add_total σ1 n.text
          have HAD := hid had
          have CB := hid (HS.out.add F1 wr u σ1 n.text n1 k1 e1 σ2 HXr.out HA1.out.s HA1.out.ok (by have := HLA.out; omega) HTX.out had)
          clear had
          rcases h012 with hp | hp | hp
          case' inl => have t0 : (n.what == 0) = true := by rw [beq_iff_eq]; exact hp
          case' inr.inl =>
            have t0 : (n.what == 0) = false := by rw [beq_eq_false_iff_ne]; omega
            have t1 : (n.what == 1) = true := by rw [beq_iff_eq]; exact hp
          case' inr.inr =>
            have t0 : (n.what == 0) = false := by rw [beq_eq_false_iff_ne]; omega
            have t1 : (n.what == 1) = false := by rw [beq_eq_false_iff_ne]; omega
            have t2 : (n.what == 2) = true := by rw [beq_iff_eq]; exact hp
          all_goals
            have HP := hid hp
            clear hp
            go_wp2_with fail
            refine Calls.mono CB.out ?_
            rintro e w2 ⟨rfl, F2, hs2, hb2, ho2⟩
            have HI : Hid (∃ F' σ', Came Sv w0 u F w (σ.last + (i + 1)) F' σ' w2) := ⟨F2, σ2, HA1.out.turn hs2 hb2 ho2 (HAD.out.isOk HA1.out.ok) (by have := HAD.out.last; have := HLA.out; omega)⟩
            clear hs2 hb2 ho2 CB x0 x1 x2
            go_wp2
            exact ⟨⟨i + 1, by omega, by omega, by go_num, HI⟩, by simp [intOf]; omega⟩
        · have hn0 : (n.what == 0) = false := by rw [beq_eq_false_iff_ne]; omega
          have hn1 : (n.what == 1) = false := by rw [beq_eq_false_iff_ne]; omega
          have hn2 : (n.what == 2) = false := by rw [beq_eq_false_iff_ne]; omega
          by_cases h3 : n.what = 3
          · have hn3 : (n.what == 3) = true := by rw [beq_iff_eq]; exact h3
            have CB := hid (HS.out.remove F1 wr u σ1 n.n HXr.out HA1.out.s HA1.out.ok)
            clear h3 h012
            go_wp2_with fail
            refine Calls.mono CB.out ?_
            rintro e w2 ⟨rfl, F2, hs2, hb2, ho2⟩
            have HI : Hid (∃ F' σ', Came Sv w0 u F w (σ.last + (i + 1)) F' σ' w2) := ⟨F2, σ1.del n.n, HA1.out.turn hs2 hb2 ho2 (HA1.out.ok.del _) (by have := HLA.out; show σ1.last ≤ _; omega)⟩
            clear hs2 hb2 ho2 CB x0 x1 x2
            go_wp2
            exact ⟨⟨i + 1, by omega, by omega, by go_num, HI⟩, by simp [intOf]; omega⟩
          · have hn3 : (n.what == 3) = false := by rw [beq_eq_false_iff_ne]; exact h3
            by_cases h4 : n.what = 4
            · have hn4 : (n.what == 4) = true := by rw [beq_iff_eq]; exact h4
              have CB := hid (HS.out.filter F1 wr u σ1 (n.n.tmod 2 == 0) HXr.out HA1.out.s HA1.out.ok)
              clear h3 h4 h012
              go_wp2_with fail
              refine Calls.mono CB.out ?_
              rintro e w2 ⟨rfl, F2, hs2, hb2, ho2⟩
              have HI : Hid (∃ F' σ', Came Sv w0 u F w (σ.last + (i + 1)) F' σ' w2) := ⟨F2, σ1.filt _, HA1.out.turn hs2 hb2 ho2 (HA1.out.ok.filt _) (by have := HLA.out; show σ1.last ≤ _; omega)⟩
              clear hs2 hb2 ho2 CB x0 x1 x2
              go_wp2
              exact ⟨⟨i + 1, by omega, by omega, by go_num, HI⟩, by simp [intOf]; omega⟩
            · have hn4 : (n.what == 4) = false := by rw [beq_eq_false_iff_ne]; exact h4
              obtain ⟨e1, hits, σ2, hsc⟩ := scan_total σ1 n.text
              have HSC := hid hsc
              have CB := hid (HS.out.scan F1 wr u σ1 n.text e1 hits σ2 HXr.out HA1.out.s HA1.out.ok HTX.out hsc)
              clear h3 h4 h012 hsc
              go_wp2_with fail
              refine Calls.mono CB.out ?_
              rintro e w2 ⟨v2, rfl, F2, ⟨hs2, _⟩, hb2, ho2⟩
              have HI : Hid (∃ F' σ', Came Sv w0 u F w (σ.last + (i + 1)) F' σ' w2) := ⟨F2, σ2, HA1.out.turn hs2 hb2 ho2 (HSC.out.isOk HA1.out.ok) (by have := HLA.out; have := HSC.out.last.1; omega)⟩
              clear hs2 hb2 ho2 CB x0 x1 x2
              go_wp2
              exact ⟨⟨i + 1, by omega, by omega, by go_num, HI⟩, by simp [intOf]; omega⟩
      · have g1 : (i : Int) < (l.length : Int) := by omega
        have g2 : ¬ (i : Int) < 30 := by omega
        have HI : Hid (∃ F' σ', Came Sv w0 u F w (σ.last + 30) F' σ' wr) := ⟨F1, σ1, { HA1.out with last := by have := HA1.out.last; omega }⟩
        clear HA1
        go_wp2
        go_end0
        exact ⟨rfl, HI.out⟩
    · have g1 : ¬ (i : Int) < (l.length : Int) := by omega
      have HI : Hid (∃ F' σ', Came Sv w0 u F w (σ.last + 30) F' σ' wr) := ⟨F1, σ1, { HA1.out with last := by have := HA1.out.last; omega }⟩
      clear HA1
      go_wp2
      go_end0
      exact ⟨rfl, HI.out⟩
theorem items_lenF (σ : SetS) : σ.items.length = σ.ms.length := by unfold SetS.items; simp
/-- A scan tells all, or the text is too long. -/
theorem scan_case (σ : SetS) (t : ByteArray) : (∃ h σ', ScanR σ t 0 h σ' ∧ σ'.ms = σ.ms ∧ σ'.last = σ.last ∧ (σ.on = false → σ'.tried = σ.ms.length)) ∨ 400 < t.size := by
  rcases Nat.lt_or_ge 400 t.size with h | h
  · exact Or.inr h
  · obtain ⟨l, hl⟩ := alls_total t.data.toList σ.ms
    exact Or.inl ⟨l, _, .ok l h hl, rfl, rfl, fun e => by simp only [e]; exact triedL_off _ _⟩
theorem HtIn.form7 {w : World} {v : Value} {l : List (Nat × Nat × Nat)} (h : HtIn w v l) : ∃ a cap, v = .slice a l.length cap ∧ l.length ≤ maxLen := by
  obtain ⟨a, cap, h1, h2, _⟩ := h
  exact ⟨a, cap, h1, h2⟩
end Go.Proofs.YtejbififfceamaaGreatDoor

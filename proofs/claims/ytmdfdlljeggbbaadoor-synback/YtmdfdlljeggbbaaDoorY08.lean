/- Library functions that the program calls (strings.Builder, strings.IndexByte), as the shelf's contracts say them of this program. append, of nodes. The landed reader of package syn: in memory; more, sees, skip, misfitAt, take. The landed writer of package syn: a Builder inside a writer: copyCheck, WriteString, WriteByte, Len. The landed writer: String; needsBrackets. The landed writer: needsBrackets. What each call of package class does: third part: byteText, runText, runEnd, runs. -/
import Derived.Shelf.Strings.Builder1
import Derived.Shelf.Small.Strs
import Derived.WalkKit
import Derived.WalkSpells
import Derived.WalkLawsBesides
import Derived.Test.YtmdfdlljeggbbaaDoorProg
import Derived.Test.YtmdfdlljeggbbaaDoorY02
import Derived.OwnWalk
import Derived.KernelRfl
import Derived.Test.YtmdfdlljeggbbaaDoorY04
import Derived.Lib.BufferOwn
import Derived.Test.YtmdfdlljeggbbaaDoorY03
import Derived.Test.YtmdfdlljeggbbaaDoorY06
namespace Go.Proofs.YtmdfdlljeggbbaaDoor
set_option linter.unusedSimpArgs false
set_option linter.unusedVariables false
open Go.Shelf Go.RowKit

def strRen : Go.Shelf.Ren := ⟨fun | 169 => 48 | n => n, fun | 70 => 71 | 9 => 9 | 0 => 0 | 72 => 74 | 37 => 72 | 127 => 92 | 3 => 3 | 5 => 5 | n => n, fun | n => n⟩
theorem strLays : Go.Proofs.Lays.n169 Tryd.prog strRen := {
  mixed := by kernel_rfl
  f169 := Tryd.func48.trans (congrArg some (by kernel_rfl))
  t0 := Tryd.underlying0
  a0 := Tryd.isAgg0
  z0 := Tryd.sizeOf0
  v0 := Tryd.zeroValue0
  t3 := Tryd.underlying3
  a3 := Tryd.isAgg3
  z3 := Tryd.sizeOf3
  v3 := Tryd.zeroValue3
  t9 := Tryd.underlying9
  a9 := Tryd.isAgg9
  z9 := Tryd.sizeOf9
  v9 := Tryd.zeroValue9
  t37 := Tryd.underlying72
  a37 := Tryd.isAgg72
  z37 := Tryd.sizeOf72
  v37 := Tryd.zeroValue72
  t70 := Tryd.underlying71
  a70 := Tryd.isAgg71
  z70 := Tryd.sizeOf71
  v70 := Tryd.zeroValue71
  t72 := Tryd.underlying74
  a72 := Tryd.isAgg74
  z72 := Tryd.sizeOf74
  v72 := Tryd.zeroValue74
  t127 := Tryd.underlying92
  a127 := Tryd.isAgg92
  z127 := Tryd.sizeOf92
  v127 := Tryd.zeroValue92 }
theorem strExtra : Builder.Extra Tryd.prog strRen := {
  sizeBuilder := by kernel_rfl
  liesBuilder := by kernel_rfl
  t5 := Tryd.underlying5
  a5 := Tryd.isAgg5
  z5 := Tryd.sizeOf5
  v5 := Tryd.zeroValue5
  infoByte := by kernel_rfl
  cellsByte := by kernel_rfl
  sizeByte := by kernel_rfl
  neB5 := by decide }
theorem string_any (B b : Nat) (l : List UInt8) (w : World) (h : Lib.IsBuilder 74 5 B b (Lib.byteCells l) w) (hBw : B ≤ w.heap.size) :
    Calls Tryd.prog 48 #[.pointer (some ⟨b, 0, none⟩)] w fun e w' => e = .returned (.string ⟨l.toArray⟩) ∧ Below B w w' := Any.Builder_String_any strLays strExtra B b l w h hBw

def ixRen : Go.Shelf.Ren := ⟨fun | 137 => 78 | 217 => 84 | 266 => 89 | n => n, fun | 9 => 9 | 5 => 5 | 3 => 3 | n => n, fun | n => n⟩
theorem ixLays : Go.Proofs.Lays.n137 Tryd.prog ixRen := {
  mixed := by kernel_rfl
  f137 := Tryd.func78.trans (congrArg some (by kernel_rfl))
  f217 := Tryd.func84.trans (congrArg some (by kernel_rfl))
  f266 := Tryd.func89.trans (congrArg some (by kernel_rfl))
  t3 := Tryd.underlying3
  a3 := Tryd.isAgg3
  z3 := Tryd.sizeOf3
  v3 := Tryd.zeroValue3
  t5 := Tryd.underlying5
  a5 := Tryd.isAgg5
  z5 := Tryd.sizeOf5
  v5 := Tryd.zeroValue5
  t9 := Tryd.underlying9
  a9 := Tryd.isAgg9
  z9 := Tryd.sizeOf9
  v9 := Tryd.zeroValue9 }
theorem indexByte_any (s : ByteArray) (c : Int) (w : World) :
    Calls Tryd.prog 78 #[.string s, .int .u8 c] w fun e w' => e = .returned (.int .i64 (Lib.indexByte s.data.toList c.toNat.toUInt8)) ∧ w' = w := Any.strings_IndexByte ixLays s c w

/-! strings.Builder's writing: copyCheck, WriteString -/
set_option maxHeartbeats 1000000 in
set_option maxRecDepth 100000 in
theorem copyCheck_used (b : Nat) (w : World) (h0 : w.cell? ⟨b, 0, none⟩ = some (.pointer (some ⟨b, 0, none⟩))) :
    Calls Tryd.prog 68 #[.pointer (some ⟨b, 0, none⟩)] w fun e w' => e = .returned (.tuple #[]) ∧ w' = w := by
  obtain ⟨j, hj, _⟩ := Option.map_eq_some_iff.1 strExtra.sizeBuilder
  go_enter Tryd.func68, Tryd.ntmps68
  go_wp2
  rw [Lib.run_neq_ptr_same w _ Tryd.underlying71 hj]
  go_wp2
  go_end0
  exact ⟨rfl, rfl⟩
set_option maxHeartbeats 1000000 in
set_option maxRecDepth 100000 in
theorem copyCheck_fresh (b : Nat) (w : World) (h0 : w.cell? ⟨b, 0, none⟩ = some (.pointer none)) (hsh : w.shape? b = some (74, 2)) (hfz : w.frozen? ⟨b, 0, none⟩ = false) :
    Calls Tryd.prog 68 #[.pointer (some ⟨b, 0, none⟩)] w fun e w' => e = .returned (.tuple #[]) ∧ w' = w.setCell ⟨b, 0, none⟩ (.pointer (some ⟨b, 0, none⟩)) := by
  obtain ⟨j, hj, hjs⟩ := Option.map_eq_some_iff.1 strExtra.sizeBuilder
  go_enter Tryd.func68, Tryd.ntmps68
  go_wp2
  rw [Lib.run_to_unsafe w ⟨b, 0, none⟩ Tryd.underlying71 Tryd.underlying100 hj (by rw [hjs]; decide) hsh (Nat.zero_lt_succ 1)]
  simp only [Result.andThen]
  rw [Oper.upon_value]
  go_wp2
  rw [run_callFunc_extern Tryd.func77 (by kernel_rfl) (by kernel_rfl) (by kernel_rfl) (e := Extern.AbiNoEscape.same) (by kernel_rfl)]
  rw [Lib.run_noEscape]
  simp only [Result.andThen]
  rw [Oper.upon_value]
  go_wp2
  rw [Lib.run_from_unsafe w ⟨b, 0, none⟩ Tryd.underlying100 Tryd.underlying71 hj hsh strExtra.liesBuilder]
  simp only [Result.andThen]
  rw [Oper.upon_value]
  go_wp2
  go_end0
  exact ⟨rfl, rfl⟩
theorem copyCheck_any (B b : Nat) (bs : List Value) (w : World) (h : Lib.IsBuilder 74 5 B b bs w) :
    Calls Tryd.prog 68 #[.pointer (some ⟨b, 0, none⟩)] w fun e w' => e = .returned (.tuple #[]) ∧ (Lib.BuilderAt 74 5 B b (.pointer (some ⟨b, 0, none⟩)) bs w' ∧ Below B w w') := by
  rcases h with h | h
  · refine (copyCheck_fresh b w h.cell0 h.shape h.frozen0).mono ?_
    rintro e w' ⟨rfl, rfl⟩
    exact ⟨rfl, h.used _, (Below.refl B w).setCell (p := ⟨b, 0, none⟩) h.1 _⟩
  · refine (copyCheck_used b w h.cell0).mono ?_
    rintro e w' ⟨rfl, rfl⟩
    exact ⟨rfl, h, Below.refl B _⟩
set_option maxHeartbeats 1000000 in
set_option maxRecDepth 100000 in
theorem writeString_any (B b : Nat) (bs : List Value) (s : ByteArray) (w : World) (h : Lib.IsBuilder 74 5 B b bs w) (hlen : bs.length + s.size ≤ 140737488355328) (hBw : B ≤ w.heap.size) :
    Calls Tryd.prog 52 #[.pointer (some ⟨b, 0, none⟩), .string s] w fun e w' => e = .returned (.tuple #[.int .i64 s.size, .nilIface]) ∧ (Lib.BuilderAt 74 5 B b (.pointer (some ⟨b, 0, none⟩)) (bs ++ Lib.strCells s) w' ∧ Below B w w') := by
  obtain ⟨i0, hi, hz0, hz1, hz2⟩ := info_parts strExtra.infoByte
  go_enter Tryd.func52, Tryd.ntmps52
  go_wp2_with (go_at_call 68; refine (copyCheck_any B b bs _ h).mono ?_)
  rintro e w1 ⟨rfl, h1, hb1⟩
  obtain ⟨hB, v, hbk, hown, hne⟩ := h1
  have c0 : w1.cell? ⟨b, 0, none⟩ = some (.pointer (some ⟨b, 0, none⟩)) := by rw [Lib.cell_of_heap hbk]; rfl
  have c1 : w1.cell? ⟨b, 1, none⟩ = some v := by rw [Lib.cell_of_heap hbk]; rfl
  go_wp2_with (at_builtin; refine Lib.wpList_append_own_string _ rfl _ _ 72 9 rfl B 5 i0 Tryd.underlying72 Tryd.underlying9 hi hz0 hz1 hz2 _ _ _ rfl hown s rfl ?c3 ?c4 ?c5 ?_)
  case c3 => unfold maxLen; omega
  case c4 => omega
  case c5 => have := hb1.size; omega
  intro v' w2 hown' hgrow _
  have hlt : b < w1.heap.size := by
    rcases Nat.lt_or_ge b w1.heap.size with h' | h'
    · exact h'
    · simp [Array.getElem?_eq_none h'] at hbk
  have hb2 : w2.heap[b]? = some (.cells #[.pointer (some ⟨b, 0, none⟩), v] 74 (0, 0)) := by
    rw [hgrow.block b hlt (fun e => hne e.symm)]
    exact hbk
  have d0 : w2.cell? ⟨b, 0, none⟩ = some (.pointer (some ⟨b, 0, none⟩)) := by rw [Lib.cell_of_heap hb2]; rfl
  have d1 : w2.cell? ⟨b, 1, none⟩ = some v := by rw [Lib.cell_of_heap hb2]; rfl
  have f1 : w2.frozen? ⟨b, 1, none⟩ = false := Lib.frozen_of_heap hb2 1
  obtain ⟨ao, n', cap, rfl⟩ : ∃ ao n' cap, v' = .slice ao n' cap := by
    rcases hown'.2 with ⟨hv, _⟩ | ⟨g, cap, cur, hv, _⟩
    · exact ⟨_, _, _, hv⟩
    · exact ⟨_, _, _, hv⟩
  go_wp2
  go_ret2
  refine ⟨rfl, ?_, ?_⟩
  · exact Lib.BuilderAt.put (T := 74) (e := 5) hB hb2 (bs' := bs ++ Lib.strCells s) (by simpa [Lib.strCells_length] using hown') strExtra.neB5
  · exact (hb1.grown hgrow (by have := hb1.size; omega) (fun k hk => (hown.lt k hk).1)).setCell (p := ⟨b, 1, none⟩) hB _
end Go.Proofs.YtmdfdlljeggbbaaDoor
namespace Go.Proofs.YtmdfdlljeggbbaaDoor
set_option linter.unusedSimpArgs false
set_option linter.unusedVariables false
set_option maxRecDepth 100000
open Go.RowKit

theorem grown_cells {w4 w5 : World} {r : Nat} {xs : List Value} (h : w4.grownBy w5 (some r)) {g : Nat} (hg : g < w4.heap.size) (hne : g ≠ r) (hc : ∀ (j : Nat) u, xs[j]? = some u → w4.cell? ⟨g, j, none⟩ = some u) : ∀ (j : Nat) u, xs[j]? = some u → w5.cell? ⟨g, j, none⟩ = some u := by
  intro j u hj
  rw [World.cell?_of_block (a := ⟨g, j, none⟩) (h.block g hg (by intro e; injection e with e; exact hne e))]
  exact hc j u hj
/-- append, of nodes of the call's own to nodes of the call's own. -/
theorem wpList_append_ns {ops : Array Oper} {rest : List Oper} {o : Oper} {a : Act} {Q : Exit → Act → World → Prop} {w : World} (hgd : o.guard = none) (s x : Operand)
    (ho : o.op = .call { callee := .builtin .append, args := #[s, x], argTypes := #[40, 40] })
    (B : Nat) (v : Value) (hs : a.eval s = v) (ns : List Nd) (hown : NsOwn w B v ns) (g2 m2 c2 : Nat) (ms : List Nd) (hx : a.eval x = .slice (some ⟨g2, 0, none⟩) m2 c2) (hm2 : m2 = ms.length)
    (hnews : ∀ j u, (nsCells ms)[j]? = some u → w.cell? ⟨g2, j, none⟩ = some u) (hm : 0 < ms.length) (hbytes : (ns.length + ms.length) * 40 ≤ 140737488355328) (hbase : B ≤ w.heap.size)
    (h : ∀ g cap w', NsOwn w' B (.slice (some ⟨g, 0, none⟩) (ns.length + ms.length) cap) (ns ++ ms) → w.grownBy w' v.ownBlock → B ≤ g → g < w'.heap.size → wpList Tryd.prog ops Q rest (a.put o.dst (.slice (some ⟨g, 0, none⟩) (ns.length + ms.length) cap)) w') : wpList Tryd.prog ops Q (o :: rest) a w := by
  subst hm2
  have hinfo : (Tryd.prog.info? 56).map (fun i => (i.zero, i.size, i.bytes)) = some (some (.agg #[.int .i64 0, .int .u64 0, .int .u64 0, .int .u64 0, .int .u64 0]), 5, 40) := by kernel_rfl
  obtain ⟨i0, hi, hz0, hz1, hz2⟩ := info_parts hinfo
  refine wpList_append_lies w hgd s x 40 ho B 56 i0 _ 5 40 Tryd.underlying40 hi hz0 hz1 hz2 rfl (by decide) v ns.length (nsCells ns) hs hown ⟨g2, 0, none⟩ ms.length c2 (nsCells ms) hx (nsCells_len ms) ?_ (nsCells_one ms) hm (by unfold maxLen; omega) hbytes hbase w.heap.size rfl ?_
  · intro j u hj
    have e : (⟨g2, 0, none⟩ : Addr).add j = ⟨g2, j, none⟩ := by
      rcases j with _ | j <;> simp [Addr.add]
    rw [e]
    exact hnews j u hj
  · intro g cap w' h1 h2 h3 h4
    have e : NsOwn w' B (.slice (some ⟨g, 0, none⟩) (ns.length + ms.length) cap) (ns ++ ms) := by
      unfold NsOwn
      rw [nsCells_append, List.length_append]
      exact h1
    have hg : B ≤ g := by
      rcases h3 with h3 | h3
      · rcases hown.2 with ⟨hv, _⟩ | ⟨g', cap', cur, hv, hb, _⟩
        · rw [hv] at h3; cases h3
        · rw [hv] at h3
          injection h3 with h3
          simp at h3
          omega
      · omega
    exact h g cap w' e h2 hg h4
end Go.Proofs.YtmdfdlljeggbbaaDoor
namespace Go.Proofs.YtmdfdlljeggbbaaDoor
set_option linter.unusedSimpArgs false
set_option linter.unusedVariables false
set_option maxRecDepth 100000
open Go.RowKit

theorem hid {p : Prop} (h : p) : Hid p := h
/-- Block g holds a reader. -/
def Rdr (w : World) (g : Nat) (s : ByteArray) (a : Int) (v : Value) (st : Bool) : Prop := w.heap[g]? = some (.cells #[.string s, .int .i64 a, v, .bool st] 97 (0, 0))
theorem Rdr.all {w : World} {g : Nat} {s : ByteArray} {a : Int} {v : Value} {st : Bool} (h : Rdr w g s a v st) : w.cell? ⟨g, 0, none⟩ = some (.string s) ∧ w.cell? ⟨g, 1, none⟩ = some (.int .i64 a) ∧ w.cell? ⟨g, 2, none⟩ = some v ∧ w.cell? ⟨g, 3, none⟩ = some (.bool st) ∧ w.frozen? ⟨g, 1, none⟩ = false ∧ w.frozen? ⟨g, 2, none⟩ = false ∧ w.frozen? ⟨g, 3, none⟩ = false := by
  refine ⟨?_, ?_, ?_, ?_, Lib.frozen_of_heap h 1, Lib.frozen_of_heap h 2, Lib.frozen_of_heap h 3⟩ <;> (rw [Lib.cell_of_heap h]; rfl)
theorem Rdr.lt {w : World} {g : Nat} {s : ByteArray} {a : Int} {v : Value} {st : Bool} (h : Rdr w g s a v st) : g < w.heap.size := by
  rcases Nat.lt_or_ge g w.heap.size with h' | h'
  · exact h'
  · simp [Rdr, Array.getElem?_eq_none h'] at h
theorem Rdr.setPlace {w : World} {g : Nat} {s : ByteArray} {a : Int} {v : Value} {st : Bool} (h : Rdr w g s a v st) (z : Int) : Rdr (w.setCell ⟨g, 1, none⟩ (.int .i64 z)) g s z v st := by
  simp only [Rdr] at h ⊢
  simp [World.setCell, Array.getElem?_modify, h]
theorem Rdr.setNodes {w : World} {g : Nat} {s : ByteArray} {a : Int} {v : Value} {st : Bool} (h : Rdr w g s a v st) (u : Value) : Rdr (w.setCell ⟨g, 2, none⟩ u) g s a u st := by
  simp only [Rdr] at h ⊢
  simp [World.setCell, Array.getElem?_modify, h]
theorem Rdr.setStuck {w : World} {g : Nat} {s : ByteArray} {a : Int} {v : Value} {st : Bool} (h : Rdr w g s a v st) (z : Bool) : Rdr (w.setCell ⟨g, 3, none⟩ (.bool z)) g s a v z := by
  simp only [Rdr] at h ⊢
  simp [World.setCell, Array.getElem?_modify, h]
theorem Rdr.below {w w' : World} {g : Nat} {s : ByteArray} {a : Int} {v : Value} {st : Bool} (h : Rdr w g s a v st) (hb : Below w.heap.size w w') : Rdr w' g s a v st := (hb.block g h.lt).trans h
theorem Rdr.alloc {w : World} {g : Nat} {s : ByteArray} {a : Int} {v : Value} {st : Bool} (h : Rdr w g s a v st) (o : Obj) : Rdr (w.alloc o) g s a v st := (Below.heap_alloc w o g h.lt).trans h
theorem Rdr.ca {w : World} {g : Nat} {s : ByteArray} {a : Int} {v : Value} {st : Bool} (h : Rdr w g s a v st) : (∀ o, (w.alloc o).cell? ⟨g, 0, none⟩ = some (.string s)) ∧ (∀ o, (w.alloc o).cell? ⟨g, 1, none⟩ = some (.int .i64 a)) ∧ (∀ o, (w.alloc o).cell? ⟨g, 2, none⟩ = some v) ∧ (∀ o, (w.alloc o).cell? ⟨g, 3, none⟩ = some (.bool st)) ∧ (∀ o, (w.alloc o).frozen? ⟨g, 1, none⟩ = false) ∧ (∀ o, (w.alloc o).frozen? ⟨g, 2, none⟩ = false) ∧ (∀ o, (w.alloc o).frozen? ⟨g, 3, none⟩ = false) :=
  ⟨fun o => (h.alloc o).all.1, fun o => (h.alloc o).all.2.1, fun o => (h.alloc o).all.2.2.1, fun o => (h.alloc o).all.2.2.2.1, fun o => (h.alloc o).all.2.2.2.2.1, fun o => (h.alloc o).all.2.2.2.2.2.1, fun o => (h.alloc o).all.2.2.2.2.2.2⟩
theorem grown_cell (w : World) (g : Nat) (i : Nat) (v : Value) : w.grownBy (w.setCell ⟨g, i, none⟩ v) (some g) := Lib.grownBy_setB (World.grownBy.refl w _) i v
theorem grown_of_below {w w' : World} (hb : Below w.heap.size w w') (row : Option Nat) : w.grownBy w' row := ⟨hb.os, hb.tape, hb.output, hb.size, fun k hk _ => hb.block k hk⟩
theorem grown_trans {w w1 w2 : World} {row : Option Nat} (h1 : w.grownBy w1 row) (h2 : w1.grownBy w2 row) : w.grownBy w2 row :=
  ⟨h2.os.trans h1.os, h2.tape.trans h1.tape, h2.output.trans h1.output, Nat.le_trans h1.size h2.size, fun k hk hn => (h2.block k (Nat.lt_of_lt_of_le hk h1.size) hn).trans (h1.block k hk hn)⟩
theorem below_of_grown {w w' : World} {g B : Nat} (h : w.grownBy w' (some g)) (hB : B ≤ g) (hg : g ≤ w.heap.size) : Below B w w' :=
  ⟨h.os, h.tape, h.output, h.size, fun k hk => h.block k (by omega) (by intro e; injection e with e; omega)⟩
theorem str_len (s : ByteArray) : s.data.toList.length = s.size := Array.length_toList
theorem str_idx (s : ByteArray) (a : Nat) (c : UInt8) (h : s.data.toList[a]? = some c) (w : World) : (Instr.index 9 (.string s) (.int .i64 (a : Int))).run Tryd.prog w = .ok (.int .u8 (c.toNat : Int)) w := by
  have hl : a < s.data.toList.length := by
    rcases Nat.lt_or_ge a s.data.toList.length with h' | h'
    · exact h'
    · rw [List.getElem?_eq_none h'] at h; cases h
  have hs : a < s.size := by rw [← str_len]; exact hl
  rw [run_index_string w 9 s .i64 (a : Int) Tryd.underlying9, dif_pos ⟨by omega, by omega⟩]
  rw [List.getElem?_eq_getElem hl] at h
  have e : s[(a : Int).toNat]'(by simpa using hs) = c := by
    exact Option.some.inj h
  rw [e]
theorem dropc (L : List UInt8) (a : Nat) (c : UInt8) (r : List UInt8) (h : L.drop a = c :: r) : L[a]? = some c ∧ L.drop (a + 1) = r ∧ a < L.length := by
  have hl : a < L.length := by
    rcases Nat.lt_or_ge a L.length with h' | h'
    · exact h'
    · rw [List.drop_eq_nil_of_le h'] at h; cases h
  rw [List.drop_eq_getElem_cons hl] at h
  injection h with h1 h2
  exact ⟨by rw [List.getElem?_eq_getElem hl, h1], h2, hl⟩
theorem dropn (L : List UInt8) (a : Nat) (h : L.drop a = []) : L.length ≤ a := by
  rcases Nat.lt_or_ge a L.length with h' | h'
  · rw [List.drop_eq_getElem_cons h'] at h; cases h
  · exact h'
/-- The reader at g stands ahead of l in the text s, at the place a, with the nodes v. -/
structure PA (w : World) (g : Nat) (s : ByteArray) (a : Nat) (v : Value) (l : List UInt8) : Prop where
  rd : Rdr w g s a v false
  at' : s.data.toList.drop a = l
  le : a + l.length = s.size
  small : s.size ≤ 200
theorem PA.below {w w' : World} {g : Nat} {s : ByteArray} {a : Nat} {v : Value} {l : List UInt8} (h : PA w g s a v l) (hb : Below w.heap.size w w') : PA w' g s a v l := ⟨h.rd.below hb, h.at', h.le, h.small⟩
theorem PA.lt {w : World} {g : Nat} {s : ByteArray} {a : Nat} {v : Value} {l : List UInt8} (h : PA w g s a v l) : g < w.heap.size := h.rd.lt
theorem PA.next {w : World} {g : Nat} {s : ByteArray} {a : Nat} {v : Value} {c : UInt8} {r : List UInt8} (h : PA w g s a v (c :: r)) (z : Int) (hz : z = ((a + 1 : Nat) : Int)) : PA (w.setCell ⟨g, 1, none⟩ (.int .i64 z)) g s (a + 1) v r := by
  subst hz
  have := h.le
  exact ⟨h.rd.setPlace _, (dropc _ _ _ _ h.at').2.1, by simp at this; omega, h.small⟩
/-- A misfit is on its way up. -/
def Stk (w : World) (g : Nat) : Prop := ∃ s a v, Rdr w g s a v true
theorem Stk.below {w w' : World} {g : Nat} (h : Stk w g) (hb : Below w.heap.size w w') : Stk w' g := by
  obtain ⟨s, a, v, h⟩ := h
  exact ⟨s, a, v, h.below hb⟩
/-- What is panicked with. -/
def mis (z : Int) : List PanicEntry := [{ v := .iface 94 (.agg #[.int .i64 z]), recovered := false }]
end Go.Proofs.YtmdfdlljeggbbaaDoor
namespace Go.Proofs.YtmdfdlljeggbbaaDoor
set_option linter.unusedSimpArgs false
set_option linter.unusedVariables false
set_option maxRecDepth 100000
open Go.RowKit
/-- Block g holds a writer with the text l and the nodes nv; rows of its own lie from B on. -/
def Wrt (w : World) (B g : Nat) (nv : Value) (l : List UInt8) : Prop := ∃ p v, w.heap[g]? = some (.cells #[p, v, nv] 76 (0, 0)) ∧ (p = .pointer none ∨ p = .pointer (some ⟨g, 0, none⟩)) ∧ w.ownsRow B 5 1 v l.length (Lib.byteCells l) ∧ g < B ∧ (l = [] → v = .slice none 0 0)
theorem Wrt.lt {w : World} {B g : Nat} {nv : Value} {l : List UInt8} (h : Wrt w B g nv l) : g < w.heap.size := by
  obtain ⟨p, v, h, _⟩ := h
  rcases Nat.lt_or_ge g w.heap.size with h' | h'
  · exact h'
  · rw [Array.getElem?_eq_none h'] at h; cases h
theorem Wrt.below {w w' : World} {B g : Nat} {nv : Value} {l : List UInt8} (h : Wrt w B g nv l) (hb : Below w.heap.size w w') : Wrt w' B g nv l := by
  have hlt := h.lt
  obtain ⟨p, v, h1, hp, hO, hg⟩ := h
  refine ⟨p, v, (hb.block g hlt).trans h1, hp, ?_, hg⟩
  refine World.ownsRow.kept (row := none) hO ⟨hb.os, hb.tape, hb.output, hb.size, fun k hk _ => hb.block k hk⟩ ?_
  cases hv : v.ownBlock with
  | none => exact Or.inl rfl
  | some x => exact Or.inr (by simp)
theorem lies_writer : liesAt Tryd.prog Tryd.prog.depth 76 (3 / Tryd.prog.cellsOf 76) 0 74 1 = true := by kernel_rfl
set_option maxHeartbeats 1000000 in
theorem wcheck_fresh (b : Nat) (w : World) (h0 : w.cell? ⟨b, 0, none⟩ = some (.pointer none)) (hsh : w.shape? b = some (76, 3)) (hfz : w.frozen? ⟨b, 0, none⟩ = false) :
    Calls Tryd.prog 68 #[.pointer (some ⟨b, 0, none⟩)] w fun e w' => e = .returned (.tuple #[]) ∧ w' = w.setCell ⟨b, 0, none⟩ (.pointer (some ⟨b, 0, none⟩)) := by
  obtain ⟨j, hj, hjs⟩ := Option.map_eq_some_iff.1 strExtra.sizeBuilder
  go_enter Tryd.func68, Tryd.ntmps68
  go_wp2
  rw [Lib.run_to_unsafe w ⟨b, 0, none⟩ Tryd.underlying71 Tryd.underlying100 hj (by rw [hjs]; decide) hsh (Nat.zero_lt_succ 2)]
  simp only [Result.andThen]
  rw [Oper.upon_value]
  go_wp2
  rw [run_callFunc_extern Tryd.func77 (by kernel_rfl) (by kernel_rfl) (by kernel_rfl) (e := Extern.AbiNoEscape.same) (by kernel_rfl)]
  rw [Lib.run_noEscape]
  simp only [Result.andThen]
  rw [Oper.upon_value]
  go_wp2
  rw [Lib.run_from_unsafe w ⟨b, 0, none⟩ Tryd.underlying100 Tryd.underlying71 hj hsh lies_writer]
  simp only [Result.andThen]
  rw [Oper.upon_value]
  go_wp2
  go_end0
  exact ⟨rfl, rfl⟩
/-- copyCheck: behind it the writer knows itself. -/
theorem wcheck_any (B g : Nat) (nv : Value) (l : List UInt8) (w : World) (h : Wrt w B g nv l) :
    Calls Tryd.prog 68 #[.pointer (some ⟨g, 0, none⟩)] w fun e w' => e = .returned (.tuple #[]) ∧ w.grownBy w' (some g) ∧ ∃ v, w'.heap[g]? = some (.cells #[.pointer (some ⟨g, 0, none⟩), v, nv] 76 (0, 0)) ∧ w'.ownsRow B 5 1 v l.length (Lib.byteCells l) ∧ g < B ∧ (l = [] → v = .slice none 0 0) := by
  obtain ⟨p, v, h1, hp, hO, hg⟩ := h
  have c0 : w.cell? ⟨g, 0, none⟩ = some p := by rw [Lib.cell_of_heap h1]; rfl
  rcases hp with rfl | rfl
  · refine (wcheck_fresh g w c0 (by simp [World.shape?, h1]) (Lib.frozen_of_heap h1 0)).mono ?_
    rintro e w' ⟨rfl, rfl⟩
    have hgr := grown_cell w g 0 (.pointer (some ⟨g, 0, none⟩))
    refine ⟨rfl, hgr, v, ?_, ?_, hg⟩
    · simp [World.setCell, Array.getElem?_modify, h1]
    · refine World.ownsRow.kept hO hgr ?_
      rcases hO.2 with ⟨hv, _⟩ | ⟨b, cap, cur, hv, hb, _⟩
      · rw [hv]; exact Or.inl rfl
      · rw [hv]
        refine Or.inr ?_
        intro e
        injection e with e
        simp only at e
        omega
  · refine (copyCheck_used g w c0).mono ?_
    rintro e w' ⟨rfl, rfl⟩
    exact ⟨rfl, World.grownBy.refl _ _, v, h1, hO, hg⟩
set_option maxHeartbeats 1000000 in
theorem wWriteString (B g : Nat) (nv : Value) (l t : List UInt8) (w : World) (h : Wrt w B g nv l) (hlen : l.length + t.length ≤ 140737488355328) (hBw : B ≤ w.heap.size) (hne : l ++ t ≠ []) :
    Calls Tryd.prog 52 #[.pointer (some ⟨g, 0, none⟩), .string ⟨t.toArray⟩] w fun e w' => e = .returned (.tuple #[.int .i64 (t.length : Int), .nilIface]) ∧ Wrt w' B g nv (l ++ t) ∧ Below g w w' := by
  obtain ⟨i0, hi, hz0, hz1, hz2⟩ := info_parts strExtra.infoByte
  have HC := hid (wcheck_any B g nv l w h)
  have hlt := h.lt
  clear h
  go_enter Tryd.func52, Tryd.ntmps52
  go_wp2_with fail
  refine Calls.mono HC.out ?_
  rintro e w1 ⟨rfl, hg1, v, hbk, hown, hgB, _⟩
  have c0 : w1.cell? ⟨g, 0, none⟩ = some (.pointer (some ⟨g, 0, none⟩)) := by rw [Lib.cell_of_heap hbk]; rfl
  have c1 : w1.cell? ⟨g, 1, none⟩ = some v := by rw [Lib.cell_of_heap hbk]; rfl
  have HG1 := hid hg1
  go_wp2_with (at_builtin; refine Lib.wpList_append_own_string _ rfl _ _ 72 9 rfl B 5 i0 Tryd.underlying72 Tryd.underlying9 hi hz0 hz1 hz2 _ _ _ rfl hown ⟨t.toArray⟩ rfl ?c3 ?c4 ?c5 ?_)
  case c3 => simp [ByteArray.size]; unfold maxLen; omega
  case c4 => simp [ByteArray.size]; omega
  case c5 => have := hg1.size; omega
  intro v' w2 hown' hgrow _
  have hgl : g < w1.heap.size := Nat.lt_of_lt_of_le hlt HG1.out.size
  have hvg : v.ownBlock ≠ some g := by
    rcases hown.2 with ⟨hv, _⟩ | ⟨b, cap, cur, hv, hb, _⟩
    · rw [hv]; simp [Value.ownBlock]
    · rw [hv]
      intro e
      injection e with e
      simp only at e
      omega
  have hb2 : w2.heap[g]? = some (.cells #[.pointer (some ⟨g, 0, none⟩), v, nv] 76 (0, 0)) := by
    rw [hgrow.block g hgl (fun e => hvg e.symm)]
    exact hbk
  have d0 : w2.cell? ⟨g, 0, none⟩ = some (.pointer (some ⟨g, 0, none⟩)) := by rw [Lib.cell_of_heap hb2]; rfl
  have d1 : w2.cell? ⟨g, 1, none⟩ = some v := by rw [Lib.cell_of_heap hb2]; rfl
  have f1 : w2.frozen? ⟨g, 1, none⟩ = false := Lib.frozen_of_heap hb2 1
  obtain ⟨ao, n', cap, rfl⟩ : ∃ ao n' cap, v' = .slice ao n' cap := by
    rcases hown'.2 with ⟨hv, _⟩ | ⟨g', cap, cur, hv, _⟩
    · exact ⟨_, _, _, hv⟩
    · exact ⟨_, _, _, hv⟩
  have HB : Hid (Below g w w2) := by
    refine (below_of_grown HG1.out (Nat.le_refl _) (Nat.le_of_lt hlt)).trans ⟨hgrow.os, hgrow.tape, hgrow.output, hgrow.size, fun k hk => hgrow.block k (by omega) ?_⟩
    intro e
    rcases hown.2 with ⟨hv, _⟩ | ⟨b, cap, cur, hv, hb, _⟩
    · rw [hv] at e; cases e
    · rw [hv] at e
      injection e with e
      simp only at e
      omega
  have HO : Hid (Wrt (w2.setCell ⟨g, 1, none⟩ (.slice ao n' cap)) B g nv (l ++ t)) := by
    refine ⟨.pointer (some ⟨g, 0, none⟩), .slice ao n' cap, ?_, Or.inr rfl, ?_, hgB, fun e => absurd e hne⟩
    · simp [World.setCell, Array.getElem?_modify, hb2]
    · have hO2 : w2.ownsRow B 5 1 (.slice ao n' cap) (l ++ t).length (Lib.byteCells (l ++ t)) := by
        simpa [Lib.byteCells, Lib.strCells, ByteArray.size] using hown'
      refine World.ownsRow.kept hO2 (grown_cell w2 g 1 _) ?_
      rcases hO2.2 with ⟨hv, _⟩ | ⟨b, cap', cur, hv, hb, _⟩
      · rw [hv]; exact Or.inl rfl
      · rw [hv]
        refine Or.inr ?_
        intro e
        injection e with e
        simp only at e
        omega
  clear hown hown' hgrow hbk hb2
  go_wp2
  go_ret2
  exact ⟨by simp [ByteArray.size], HO.out, HB.out.setCell (Nat.le_refl _) _⟩
set_option maxHeartbeats 1000000 in
theorem wWriteByte (B g : Nat) (nv : Value) (l : List UInt8) (c : UInt8) (w : World) (h : Wrt w B g nv l) (hlen : l.length + 1 ≤ 140737488355328) (hBw : B ≤ w.heap.size) :
    Calls Tryd.prog 57 #[.pointer (some ⟨g, 0, none⟩), .int .u8 (c.toNat : Int)] w fun e w' => e = .returned .nilIface ∧ Wrt w' B g nv (l ++ [c]) ∧ Below g w w' := by
  obtain ⟨i0, hi, hz0, hz1, hz2⟩ := info_parts strExtra.infoByte
  have HC := hid (wcheck_any B g nv l w h)
  have hlt := h.lt
  clear h
  go_enter Tryd.func57, Tryd.ntmps57
  go_wp2_with fail
  refine Calls.mono HC.out ?_
  rintro e w1 ⟨rfl, hg1, v, hbk, hown, hgB, _⟩
  have c0 : w1.cell? ⟨g, 0, none⟩ = some (.pointer (some ⟨g, 0, none⟩)) := by rw [Lib.cell_of_heap hbk]; rfl
  have c1 : w1.cell? ⟨g, 1, none⟩ = some v := by rw [Lib.cell_of_heap hbk]; rfl
  have HG1 := hid hg1
  have hownA : (w1.alloc (.cells #[.int .u8 (c.toNat : Int)] 5)).ownsRow B 5 1 v l.length (Lib.byteCells l) := by
    have hb : Below w1.heap.size w1 (w1.alloc (.cells #[.int .u8 (c.toNat : Int)] 5)) := (Below.refl _ _).alloc (Nat.le_refl _) _
    refine World.ownsRow.kept (row := none) hown ⟨hb.os, hb.tape, hb.output, hb.size, fun k hk _ => hb.block k hk⟩ ?_
    cases hv : v.ownBlock with
    | none => exact Or.inl rfl
    | some x => exact Or.inr (by simp)
  have hnews : ∀ j u, (Lib.byteCells [c])[j]? = some u → (w1.alloc (.cells #[.int .u8 (c.toNat : Int)] 5)).cell? ((⟨w1.heap.size, 0, none⟩ : Addr).add j) = some u := by
    intro j u hj
    rw [Addr.add_lit, Nat.zero_add, World.cell?_alloc_at (w := w1) _ _ w1.heap.size j rfl]
    simpa [Lib.byteCells] using hj
  have HNW := hid hnews
  have HOA := hid hownA
  clear hnews hownA
  go_wp2_with (at_builtin; refine wpList_append_lies _ rfl _ _ 72 rfl B 5 i0 _ 1 1 Tryd.underlying72 hi hz0 hz1 hz2 rfl (by decide) v l.length (Lib.byteCells l) rfl HOA.out ⟨w1.heap.size, 0, none⟩ 1 1 (Lib.byteCells [c]) rfl rfl HNW.out (by simp [Lib.byteCells, Value.oneCell']) (by omega) (by unfold maxLen; omega) (by omega) (by have := HG1.out.size; simp; omega) _ rfl ?_)
  intro g3 cap3 w2 hown' hgrow hor hl3
  have hgl : g < (w1.alloc (.cells #[.int .u8 (c.toNat : Int)] 5)).heap.size := by
    have := HG1.out.size
    simp
    omega
  have hvg : v.ownBlock ≠ some g := by
    rcases hown.2 with ⟨hv, _⟩ | ⟨b, cap, cur, hv, hb, _⟩
    · rw [hv]; simp [Value.ownBlock]
    · rw [hv]
      intro e
      injection e with e
      simp only at e
      omega
  have hb2 : w2.heap[g]? = some (.cells #[.pointer (some ⟨g, 0, none⟩), v, nv] 76 (0, 0)) := by
    rw [hgrow.block g hgl (fun e => hvg e.symm)]
    exact (Below.heap_alloc w1 _ g (Nat.lt_of_lt_of_le hlt HG1.out.size)).trans hbk
  have d0 : w2.cell? ⟨g, 0, none⟩ = some (.pointer (some ⟨g, 0, none⟩)) := by rw [Lib.cell_of_heap hb2]; rfl
  have d1 : w2.cell? ⟨g, 1, none⟩ = some v := by rw [Lib.cell_of_heap hb2]; rfl
  have f1 : w2.frozen? ⟨g, 1, none⟩ = false := Lib.frozen_of_heap hb2 1
  have HB : Hid (Below g w w2) := by
    refine ((below_of_grown HG1.out (Nat.le_refl _) (Nat.le_of_lt hlt)).alloc (by have := HG1.out.size; omega) (.cells #[.int .u8 (c.toNat : Int)] 5)).trans ⟨hgrow.os, hgrow.tape, hgrow.output, hgrow.size, fun k hk => hgrow.block k (by omega) ?_⟩
    intro e
    rcases hown.2 with ⟨hv, _⟩ | ⟨b, cap, cur, hv, hb, _⟩
    · rw [hv] at e; cases e
    · rw [hv] at e
      injection e with e
      simp only at e
      omega
  have HO : Hid (Wrt (w2.setCell ⟨g, 1, none⟩ (.slice (some ⟨g3, 0, none⟩) (l.length + 1) cap3)) B g nv (l ++ [c])) := by
    refine ⟨.pointer (some ⟨g, 0, none⟩), .slice (some ⟨g3, 0, none⟩) (l.length + 1) cap3, ?_, Or.inr rfl, ?_, hgB, fun e => absurd e (by simp)⟩
    · simp [World.setCell, Array.getElem?_modify, hb2]
    · have hO2 : w2.ownsRow B 5 1 (.slice (some ⟨g3, 0, none⟩) (l.length + 1) cap3) (l ++ [c]).length (Lib.byteCells (l ++ [c])) := by
        simpa [Lib.byteCells] using hown'
      refine World.ownsRow.kept hO2 (grown_cell w2 g 1 _) ?_
      rcases hO2.2 with ⟨hv, _⟩ | ⟨b, cap', cur, hv, hb, _⟩
      · rw [hv]; exact Or.inl rfl
      · rw [hv]
        refine Or.inr ?_
        intro e
        injection e with e
        simp only at e
        omega
  clear hown hown' hgrow hbk hb2 hor hl3 HOA HNW
  go_wp2
  go_ret
  exact ⟨rfl, HO.out, HB.out.setCell (Nat.le_refl _) _⟩
set_option maxHeartbeats 1000000 in
theorem wLen (B g : Nat) (nv : Value) (l : List UInt8) (w : World) (h : Wrt w B g nv l) :
    Calls Tryd.prog 47 #[.pointer (some ⟨g, 0, none⟩)] w fun e w' => e = .returned (.int .i64 (l.length : Int)) ∧ w' = w := by
  obtain ⟨p, v, h1, hp, hO, hg, _⟩ := h
  have c1 : w.cell? ⟨g, 1, none⟩ = some v := by rw [Lib.cell_of_heap h1]; rfl
  obtain ⟨ao, cap, rfl⟩ : ∃ ao cap, v = .slice ao l.length cap := by
    rcases hO.2 with ⟨hv, h0⟩ | ⟨b, cap, cur, hv, _⟩
    · exact ⟨none, 0, by rw [hv, h0]⟩
    · exact ⟨_, cap, hv⟩
  clear h1 hO hp
  go_enter Tryd.func47, Tryd.ntmps47
  go_wp2
  go_ret
  exact ⟨rfl, rfl⟩
end Go.Proofs.YtmdfdlljeggbbaaDoor
namespace Go.Proofs.YtmdfdlljeggbbaaDoor
set_option linter.unusedSimpArgs false
set_option linter.unusedVariables false
set_option maxRecDepth 100000
open Go.RowKit
set_option maxHeartbeats 2000000 in
theorem wString (B g : Nat) (nv : Value) (l : List UInt8) (w : World) (h : Wrt w B g nv l) :
    Calls Tryd.prog 48 #[.pointer (some ⟨g, 0, none⟩)] w fun e w' => e = .returned (.string ⟨l.toArray⟩) ∧ Below B w w' := by
  obtain ⟨p, v, h1, hp, hO, hg, hnil⟩ := h
  have mixed : Tryd.prog.follows .mixedOrders = true := by kernel_rfl
  by_cases h0 : l = []
  · subst h0
    obtain rfl := hnil rfl
    have c1 : w.drew.cell? ⟨g, 1, none⟩ = some (.slice none 0 0) := by
      have : w.drew.heap[g]? = some (.cells #[p, .slice none 0 0, nv] 76 (0, 0)) := h1
      rw [Lib.cell_of_heap this]; rfl
    have hSD : (Builtin.unsafeSliceData_ #[72] 92 #[.slice none 0 0]).run Tryd.prog w.drew = .ok (.pointer none) w.drew := rfl
    have hUS := fun (W : World) (q : Option Addr) => Lib.run_unsafeString_none (P := Tryd.prog) W 92 3 9 q
    clear hO hp h1
    go_enter Tryd.func48, Tryd.ntmps48
    go_wp2
    go_region_o
    all_goals (go_wp2; go_ret; exact ⟨rfl, Below.drew (Below.refl B w)⟩)
  · have hl0 : l.length ≠ 0 := by simpa using h0
    obtain ⟨g2, cap, cur, rfl, hbg, hg2, hnc, hcm, hcs, htake⟩ : ∃ g2 cap cur, v = .slice (some ⟨g2, 0, none⟩) l.length cap ∧ B ≤ g2 ∧ w.heap[g2]? = some (.cells cur 5 (0, 0)) ∧ l.length ≤ cap ∧ cap ≤ maxLen ∧ cur.size = cap * 1 ∧ cur.toList.take (l.length * 1) = Lib.byteCells l := by
      rcases hO.2 with ⟨_, hz⟩ | ⟨g2, cap, cur, hv, r⟩
      · exact absurd hz hl0
      · exact ⟨g2, cap, cur, hv, r⟩
    have c1 : w.drew.cell? ⟨g, 1, none⟩ = some (.slice (some ⟨g2, 0, none⟩) l.length cap) := by
      have : w.drew.heap[g]? = some (.cells #[p, .slice (some ⟨g2, 0, none⟩) l.length cap, nv] 76 (0, 0)) := h1
      rw [Lib.cell_of_heap this]; rfl
    have hSD : (Builtin.unsafeSliceData_ #[72] 92 #[.slice (some ⟨g2, 0, none⟩) l.length cap]).run Tryd.prog w.drew = .ok (.pointer (some ⟨g2, 0, none⟩)) w.drew :=
      Lib.run_unsafeSliceData_row _ _ _ _ _ _ (by omega)
    have hUS : (Builtin.unsafeString_ #[92, 3] 9 #[.pointer (some ⟨g2, 0, none⟩), .int .i64 l.length]).run Tryd.prog w.drew = .ok (.string ⟨l.toArray⟩) (w.drew.freeze ⟨g2, 0, none⟩ l.length) := by
      refine Lib.run_unsafeString_row w.drew 92 3 9 5 Tryd.underlying92 strExtra.cellsByte g2 cur.size (by have hg' : w.drew.heap[g2]? = some (.cells cur 5 (0, 0)) := hg2; simp [World.shape?, hg']) l h0 (by omega) (by unfold maxLen at hcm; omega) ?_
      intro j x hx
      have := hO.cells (g := g2) rfl j (.int .u8 x.toNat) (by simp [Lib.byteCells, hx])
      exact this
    clear hO hp h1 hg2 htake hcs
    go_enter Tryd.func48, Tryd.ntmps48
    go_wp2
    go_region_o
    all_goals (go_wp2; go_ret; exact ⟨rfl, Lib.below_freeze (Below.drew (Below.refl B w)) (p := ⟨g2, 0, none⟩) hbg _⟩)
end Go.Proofs.YtmdfdlljeggbbaaDoor
namespace Go.Proofs.YtmdfdlljeggbbaaDoor
set_option linter.unusedSimpArgs false
set_option linter.unusedVariables false
set_option maxRecDepth 100000
open Go.RowKit
theorem Wrt.nodes {w : World} {B g : Nat} {nv : Value} {l : List UInt8} (h : Wrt w B g nv l) : w.cell? ⟨g, 2, none⟩ = some nv := by
  obtain ⟨p, v, h1, _⟩ := h
  rw [Lib.cell_of_heap h1]; rfl
theorem lt_of_at {ns : List Nd} {i : Nat} {n : Nd} (hn : ns[i]? = some n) : i < ns.length := by
  rcases Nat.lt_or_ge i ns.length with h' | h'
  · exact h'
  · rw [List.getElem?_eq_none h'] at hn; cases hn
set_option maxHeartbeats 4000000 in
theorem needs_any (g b off cap : Nat) (ns : List Nd) (hl : ns.length ≤ 60) (w : World) (hc : w.cell? ⟨g, 2, none⟩ = some (.slice (some ⟨b, off, none⟩) ns.length cap)) (hN : NsAt w b off ns) (i j : Nat) (n m : Nd) (hn : ns[i]? = some n) (hm : ns[j]? = some m)
    (hp : n.op = 3 ∨ n.op = 4 ∨ n.op = 5 ∨ n.op = 6 ∨ n.op = 7) :
    Calls Tryd.prog 70 #[.pointer (some ⟨g, 0, none⟩), .int .i64 i, .int .i64 j] w fun e w' => e = .returned (.bool (brk n.op m.op (decide (i + 1 < j)))) ∧ w' = w := by
  have hil := lt_of_at hn
  have hjl := lt_of_at hm
  obtain ⟨c0, _⟩ := hN i n hn
  obtain ⟨d0, _⟩ := hN j m hm
  have i0 : (0 : Int) ≤ (i : Int) := by omega
  have i1 : (i : Int) < (ns.length : Int) := by omega
  have j0 : (0 : Int) ≤ (j : Int) := by omega
  have j1 : (j : Int) < (ns.length : Int) := by omega
  clear hn hm hN
  have hx : (decide (i + 1 < j)) = true ∨ (decide (i + 1 < j)) = false := by cases (decide (i + 1 < j)) <;> simp
  have fin : ∀ x : Bool, decide (i + 1 < j) = x → (decide ((i : Int) + 1 < (j : Int))) = x := by
    intro x hx
    rw [← hx]
    exact decide_eq_decide.2 (by omega)
  rcases hx with hx | hx
  all_goals
    have q := fin _ hx
    rw [hx]
    clear fin hx
    by_cases h2 : m.op = 2
    · rw [h2] at d0 ⊢
      clear h2
      rcases hp with hp | hp | hp | hp | hp
      all_goals
        rw [hp] at c0 ⊢
        clear hp
        go_enter Tryd.func70, Tryd.ntmps70
        go_wp2
        go_ret
        exact ⟨rfl, rfl⟩
    by_cases h3 : m.op = 3
    · rw [h3] at d0 ⊢
      clear h2 h3
      rcases hp with hp | hp | hp | hp | hp
      all_goals
        rw [hp] at c0 ⊢
        clear hp
        go_enter Tryd.func70, Tryd.ntmps70
        go_wp2
        go_ret
        exact ⟨rfl, rfl⟩
    by_cases h4 : m.op = 4
    · rw [h4] at d0 ⊢
      clear h2 h3 h4
      rcases hp with hp | hp | hp | hp | hp
      all_goals
        rw [hp] at c0 ⊢
        clear hp
        go_enter Tryd.func70, Tryd.ntmps70
        go_wp2
        go_ret
        exact ⟨rfl, rfl⟩
    have HF : Hid (∀ x, brk n.op m.op x = false) := by intro x; unfold brk; rw [if_neg h2, if_neg h4, if_neg h3]
    have p2 : (m.op == 2) = false := by simp [h2]
    have p3 : (m.op == 3) = false := by simp [h3]
    have p4 : (m.op == 4) = false := by simp [h4]
    clear h2 h3 h4 hp
    rw [HF.out]
    go_enter Tryd.func70, Tryd.ntmps70
    go_wp2
    go_ret
    exact ⟨rfl, rfl⟩
end Go.Proofs.YtmdfdlljeggbbaaDoor
namespace Go.Proofs.YtmdfdlljeggbbaaDoor
set_option linter.unusedSimpArgs false
set_option linter.unusedVariables false
set_option maxRecDepth 100000
open Go.RowKit

set_option maxHeartbeats 400000 in
theorem byteText_hex (x : Int) (w : World) (h : 0 ≤ x) (h2 : x < 256) (h3 : x < 32 ∨ 126 < x) :
    Calls Tryd.prog 69 #[.int .u8 x] w fun e w' => e = .returned (.string ⟨(bt x.toNat).toArray⟩) ∧ Below w.heap.size w w' := by
  obtain ⟨n, rfl⟩ := Int.eq_ofNat_of_zero_le h
  have q1 : (0:Int) ≤ (n : Int) / 16 := by omega
  have q2 : (n : Int) / 16 < 16 := by omega
  have q3 : (0:Int) ≤ (n : Int) % 16 := by omega
  have q4 : (n : Int) % 16 < 16 := by omega
  have hb := bt_hex n (by omega) (by omega)
  have HB := (show Hid _ from hb)
  clear hb
  rcases h3 with h3 | h3
  · go_enter Tryd.func69, Tryd.ntmps69
    go_wp2
    go_quiet (fail)
    go_wp2
    go_ret
    exact ⟨ret_str HB.out, below_drewN' _ _⟩
  · have h4 : ¬ (n : Int) < 32 := by omega
    go_enter Tryd.func69, Tryd.ntmps69
    go_wp2
    go_quiet (fail)
    go_wp2
    go_ret
    exact ⟨ret_str HB.out, below_drewN' _ _⟩

set_option maxHeartbeats 400000 in
theorem byteText_plain (x : Int) (w : World) (h : 32 ≤ x) (h2 : x ≤ 126) :
    Calls Tryd.prog 69 #[.int .u8 x] w fun e w' => e = .returned (.string ⟨(bt x.toNat).toArray⟩) ∧ Below w.heap.size w w' := by
  obtain ⟨n, rfl⟩ := Int.eq_ofNat_of_zero_le (show 0 ≤ x by omega)
  have h4 : ¬ (n : Int) < 32 := by omega
  have h5 : ¬ 126 < (n : Int) := by omega
  have hu := enc_ascii n (by omega)
  by_cases hm : (0 : Int) ≤ Lib.indexByte [92, 46, 91, 93, 40, 41, 124, 42, 43, 63, 94, 36, 45] (UInt8.ofNat n)
  · have hb := signs_in n (by omega) hm (by omega) (by omega)
    have HB := (show Hid _ from hb)
    clear hb
    go_enter Tryd.func69, Tryd.ntmps69
    go_wp2_with (go_at_call 78; refine (indexByte_any _ _ _).mono ?_; rintro e w' ⟨rfl, rfl⟩)
    go_ret
    refine ⟨ret_str ?_, Below.refl _ _⟩
    rw [Int.toNat_natCast, HB.out]
    rfl
  · have hb := signs_out n (by omega) hm (by omega) (by omega)
    have HB := (show Hid _ from hb)
    have hm2 : decide ((0 : Int) ≤ Lib.indexByte [92, 46, 91, 93, 40, 41, 124, 42, 43, 63, 94, 36, 45] (UInt8.ofNat n)) = false := by simpa using hm
    clear hb hm
    go_enter Tryd.func69, Tryd.ntmps69
    go_wp2_with fail
    refine (indexByte_any _ _ _).mono ?_
    rintro e w' ⟨rfl, rfl⟩
    go_wp2
    go_ret
    refine ⟨ret_str ?_, Below.refl _ _⟩
    rw [Int.toNat_natCast, HB.out]
theorem byteText_any (x : Int) (w : World) (h : 0 ≤ x) (h2 : x < 256) :
    Calls Tryd.prog 69 #[.int .u8 x] w fun e w' => e = .returned (.string ⟨(bt x.toNat).toArray⟩) ∧ Below w.heap.size w w' := by
  by_cases h3 : x < 32 ∨ 126 < x
  · exact byteText_hex x w h h2 h3
  · exact byteText_plain x w (by omega) (by omega)

set_option maxHeartbeats 400000 in
theorem runText_any (i j : Int) (w : World) (h : 0 ≤ i) (h1 : i ≤ j) (h2 : j < 256) :
    Calls Tryd.prog 53 #[.int .i64 i, .int .i64 j] w fun e w' => e = .returned (.string ⟨(rt i.toNat j.toNat).toArray⟩) ∧ Below w.heap.size w w' := by
  have hl1 : (⟨(bt i.toNat).toArray⟩ : ByteArray).size ≤ 4 := by rw [size_str]; exact bt_len _
  have hl2 : (⟨(bt j.toNat).toArray⟩ : ByteArray).size ≤ 4 := by rw [size_str]; exact bt_len _
  have hl3 : (bt i.toNat).length ≤ 4 := bt_len _
  have hl4 : (bt j.toNat).length ≤ 4 := bt_len _
  by_cases e0 : j = i
  · subst e0
    have e1 : (j - j == 0) = true := by simp
    go_enter Tryd.func53, Tryd.ntmps53
    go_wp2_with fail
    refine (byteText_any _ _ (by omega) (by omega)).mono ?_
    rintro e w1 ⟨rfl, hb⟩
    go_wp2
    go_ret
    exact ⟨ret_str (by simp [rt]), hb⟩
  · have e1 : (j - i == 0) = false := by simp; omega
    by_cases e2 : j = i + 1
    · have e3 : (j - i == 1) = true := by simp; omega
      have E2 := (show Hid _ from e2)
      clear e2
      go_enter Tryd.func53, Tryd.ntmps53
      go_wp2_with fail
      refine (byteText_any _ _ (by omega) (by omega)).mono ?_
      rintro e w1 ⟨rfl, hb⟩
      go_wp2_with fail
      refine (byteText_any _ _ (by omega) (by omega)).mono ?_
      rintro e w2 ⟨rfl, hb2⟩
      go_wp2
      go_ret
      refine ⟨ret_str ?_, hb.trans (hb2.mono hb.size)⟩
      have := E2.out
      rw [cat_str, rt, if_neg (by omega), if_pos (by omega)]
    · have e3 : (j - i == 1) = false := by simp; omega
      go_enter Tryd.func53, Tryd.ntmps53
      go_wp2_with fail
      refine (byteText_any _ _ (by omega) (by omega)).mono ?_
      rintro e w1 ⟨rfl, hb⟩
      go_wp2_with fail
      refine (byteText_any _ _ (by omega) (by omega)).mono ?_
      rintro e w2 ⟨rfl, hb2⟩
      go_wp2
      go_ret
      refine ⟨ret_str ?_, hb.trans (hb2.mono hb.size)⟩
      rw [rt, if_neg (by omega), if_neg (by omega)]
      have e5 : ({ data := #[45] } : ByteArray) = ⟨([45] : List UInt8).toArray⟩ := rfl
      rw [e5, cat_str, cat_str]
      simp
end Go.Proofs.YtmdfdlljeggbbaaDoor

/- A map of texts to numbers, in memory. Contracts of the library, laid at this program as the kit's own tools print them. The landed Set: where what members need stands. How long what a pattern needs is. Plain mathematics. The landed Set: which members are tried. Two spans are the same. Spans of a text in memory. What is wrong with a pattern, a text, a place: plain words, no function. What the document asks of package find: All. Lists of numbers in memory. Small facts on lists of nodes in memory. -/
import Derived.Test.YtejbififfceamaaGreatDoorY01
import Derived.Maps.OwnSet
import Derived.StringKeys
import Derived.RangeFuncRecord
import Derived.Shelf.Strings.Search3
import Derived.Test.YtejbififfceamaaGreatDoorProg
import Derived.Test.YtejbififfceamaaGreatDoorY09
import Derived.Laws.EntriesVeiled
import Derived.Test.YtejbififfceamaaGreatDoorY07
import Derived.Deep.Cut
import Derived.Deep.CutRange
import Derived.Test.YtejbififfceamaaGreatDoorY02
import Derived.KernelRfl
import Derived.OwnWalk
import Derived.Deep.AppendLies
import Derived.Test.YtejbififfceamaaGreatDoorY06
namespace Go.Proofs.YtejbififfceamaaGreatDoor
set_option linter.unusedSimpArgs false
set_option linter.unusedVariables false
set_option maxRecDepth 100000
open Go.RowKit
theorem str_keyed : Maps.Keyed Tryz.prog 9 := Maps.string_keyed Tryz.underlying9
theorem str_key {s : ByteArray} (hs : s.size ≤ maxLen) : keyOf Tryz.prog 9 (.string s) = some (.string s.data.toList) := WideMaps.keyOf_string_mk Tryz.underlying9 hs
/-- How an element of a map reads: as itself. -/
def asS (v : Value) : Option (DataW Value × List MemPlace) := some (.held v, [])
/-- The map in block M leads at each text just to the number that f names; it has at most n of them. -/
def Pm (w : World) (M n : Nat) (f : List UInt8 → Option Int) : Prop :=
  ∃ D : DataW Value, w.ownsMap Tryz.prog 9 asS M n D ∧ (∀ l, Maps.has D (.string l) = (f l).isSome) ∧ ∀ l z, D.atKey (.string l) z = match f l with
    | some i => .held (.int .i64 i)
    | none => z
theorem Pm.made (w : World) : Pm (w.alloc (.map #[] 0)) w.heap.size 0 (fun _ => none) :=
  ⟨.map [], World.ownsMap_made w _ _ _, fun l => by simp [Maps.has], fun l z => Maps.atKey_of_not_has (D := .map []) (k := .string l) rfl z⟩
theorem Pm.heap {w : World} {M n : Nat} {f : List UInt8 → Option Int} (h : Pm w M n f) : ∃ es clock, w.heap[M]? = some (.map es clock) := by
  obtain ⟨D, ⟨es, clock, hb, _⟩, _⟩ := h
  exact ⟨es, clock, hb⟩
theorem Pm.lt {w : World} {M n : Nat} {f : List UInt8 → Option Int} (h : Pm w M n f) : M < w.heap.size := by
  obtain ⟨D, h, _⟩ := h
  exact h.lt
theorem Pm.same {w w' : World} {M n : Nat} {f : List UInt8 → Option Int} (h : Pm w M n f) (e : w'.heap[M]? = w.heap[M]?) : Pm w' M n f := by
  obtain ⟨D, ⟨es, clock, hb, r⟩, hk⟩ := h
  exact ⟨D, ⟨es, clock, e.trans hb, r⟩, hk⟩
theorem Pm.below {w w' : World} {M n : Nat} {f : List UInt8 → Option Int} (h : Pm w M n f) (hb : Below w.heap.size w w') : Pm w' M n f := h.same (hb.block M h.lt)
theorem zero_intS (w : World) : (zeroValue 3).run Tryz.prog w = .ok (.int .i64 0) w := by kernel_rfl
/-- What is looked up. -/
theorem Pm.look {w : World} {M n : Nat} {f : List UInt8 → Option Int} (h : Pm w M n f) (s : ByteArray) (hs : s.size ≤ maxLen) : (Instr.lookup 110 (.map (some M)) (.string s) false).run Tryz.prog w = .ok (.int .i64 ((f s.data.toList).getD 0)) w := by
  obtain ⟨D, h, hk, hat⟩ := h
  obtain ⟨v, ps, hrun, hv⟩ := h.lookup str_keyed Tryz.underlying110 (zero_intS w) (zd := .held _) (zp := []) rfl (str_key hs)
  rw [hat] at hv
  cases hf : f s.data.toList with
  | none =>
    rw [hf] at hv
    simp [asS] at hv
    rw [hv.1] at hrun
    exact hrun
  | some b =>
    rw [hf] at hv
    simp [asS] at hv
    rw [hv.1] at hrun
    exact hrun
/-- .. and whether it is there. -/
theorem Pm.ok {w : World} {M n : Nat} {f : List UInt8 → Option Int} (h : Pm w M n f) (s : ByteArray) (hs : s.size ≤ maxLen) : (Instr.lookup 110 (.map (some M)) (.string s) true).run Tryz.prog w = .ok (.tuple #[.int .i64 ((f s.data.toList).getD 0), .bool (f s.data.toList).isSome]) w := by
  obtain ⟨D, h, hk, hat⟩ := h
  obtain ⟨v, ps, hrun, hv⟩ := h.look_ok str_keyed Tryz.underlying110 (zero_intS w) (zd := .held _) (zp := []) rfl (str_key hs)
  rw [hk] at hrun
  rw [hat] at hv
  cases hf : f s.data.toList with
  | none =>
    rw [hf] at hv hrun
    simp [asS] at hv
    rw [hv.1] at hrun
    exact hrun
  | some b =>
    rw [hf] at hv hrun
    simp [asS] at hv
    rw [hv.1] at hrun
    exact hrun
/-- One text more. -/
theorem Pm.put {w : World} {M n : Nat} {f : List UInt8 → Option Int} (h : Pm w M n f) (hn : n ≤ 1000000) (s : ByteArray) (hs : s.size ≤ maxLen) (i : Int) : ∃ w', (Instr.mapUpdate 110 (.map (some M)) (.string s) (.int .i64 i)).run Tryz.prog w = .ok () w' ∧ Pm w' M (n + 1) (fun l => if l = s.data.toList then some i else f l) ∧ w.grownBy w' (some M) := by
  obtain ⟨D, h, hk, hat⟩ := h
  obtain ⟨w', hrun, hown', hg⟩ := h.store str_keyed Tryz.underlying110 (by unfold maxLen; omega) (str_key hs) (val := .int .i64 i) (d := .held (.int .i64 i)) (ps := []) rfl
  have hkl := str_keyed.key (str_key hs)
  refine ⟨w', hrun, ⟨_, hown', fun l => ?_, fun l z => ?_⟩, hg.grown⟩
  · by_cases e : l = s.data.toList
    · subst e
      rw [Maps.has_put_same h.isMap hkl]
      simp
    · rw [Maps.has_put_other (fun he => e (by injection he)), hk]
      simp [e]
  · by_cases e : l = s.data.toList
    · subst e
      simp only [if_pos rfl]
      exact Maps.atKey_put_same h.isMap hkl _ _
    · simp only [if_neg e]
      rw [Maps.atKey_put_other (fun he => e (by injection he))]
      exact hat l z
end Go.Proofs.YtejbififfceamaaGreatDoor
namespace Go.Proofs.YtejbififfceamaaGreatDoor
set_option maxRecDepth 100000
open Go.Shelf
def lays143_ren : Go.Shelf.Ren := ⟨fun | 143 => 66 | 219 => 90 | 217 => 113 | 225 => 114 | 224 => 115 | 267 => 116 | 266 => 129 | 314 => 130 | n => n, fun | 9 => 9 | 3 => 3 | 4 => 4 | 5 => 5 | 46 => 220 | 146 => 231 | 51 => 230 | n => n, fun | 1 => 1 | n => n⟩
theorem lays143 : Go.Proofs.Lays.n143 Tryz.prog lays143_ren := {
  mixed := by kernel_rfl
  f143 := Tryz.func66.trans (congrArg some (by kernel_rfl))
  f217 := Tryz.func113.trans (congrArg some (by kernel_rfl))
  f219 := Tryz.func90.trans (congrArg some (by kernel_rfl))
  f224 := Tryz.func115.trans (congrArg some (by kernel_rfl))
  f225 := Tryz.func114.trans (congrArg some (by kernel_rfl))
  f266 := Tryz.func129.trans (congrArg some (by kernel_rfl))
  f267 := Tryz.func116.trans (congrArg some (by kernel_rfl))
  f314 := Tryz.func130.trans (congrArg some (by kernel_rfl))
  t3 := Tryz.underlying3
  a3 := Tryz.isAgg3
  z3 := Tryz.sizeOf3
  v3 := Tryz.zeroValue3
  t4 := Tryz.underlying4
  a4 := Tryz.isAgg4
  z4 := Tryz.sizeOf4
  v4 := Tryz.zeroValue4
  t5 := Tryz.underlying5
  a5 := Tryz.isAgg5
  z5 := Tryz.sizeOf5
  v5 := Tryz.zeroValue5
  t9 := Tryz.underlying9
  a9 := Tryz.isAgg9
  z9 := Tryz.sizeOf9
  v9 := Tryz.zeroValue9
  t46 := Tryz.underlying220
  a46 := Tryz.isAgg220
  z46 := Tryz.sizeOf220
  v46 := Tryz.zeroValue220
  t51 := Tryz.underlying230
  a51 := Tryz.isAgg230
  z51 := Tryz.sizeOf230
  v51 := Tryz.zeroValue230
  t146 := Tryz.underlying231
  a146 := Tryz.isAgg231
  z146 := Tryz.sizeOf231
  v146 := Tryz.zeroValue231
  g1 := by kernel_rfl }
open Go.RowKit Go.Lib in
/-- strings.Index: "Index returns the index of the first instance of substr in s, or -1 if substr is not present in s.": IT RETURNS 'Lib.index s substr'; the world is as it was. (LAID: no walk: one application.) -/
theorem strings_Index (s sub : ByteArray) (m : Int) (w : World) (hs : s.size < 4294967281) (hm : w.cell? ⟨1, 0, none⟩ = some (.int .i64 m)) :
    Calls Tryz.prog 66 #[.string s, .string sub] w fun e w' => e = .returned (.int .i64 (Lib.index s.data.toList sub.data.toList)) ∧ w' = w := Any.strings_Index lays143 s sub m w hs hm
end Go.Proofs.YtejbififfceamaaGreatDoor
namespace Go.Proofs.YtejbififfceamaaGreatDoor
set_option linter.unusedSimpArgs false
set_option linter.unusedVariables false
set_option maxRecDepth 100000
open Go.RowKit
/-- The library's own number is there, whatever it is. -/
def Mxl (w : World) : Prop := ∃ m, w.cell? ⟨1, 0, none⟩ = some (.int .i64 m)
theorem Mxl.lt {w : World} (h : Mxl w) : 1 < w.heap.size := by
  obtain ⟨m, h⟩ := h
  exact World.block_lt_of_cell? _ _ h
theorem Mxl.below {w w' : World} {B : Nat} (h : Mxl w) (hb : Below B w w') (hB : w.heap.size ≤ B) : Mxl w' := by
  obtain ⟨m, hm⟩ := h
  exact ⟨m, (hb.cell (p := ⟨1, 0, none⟩) (Nat.lt_of_lt_of_le (World.block_lt_of_cell? _ _ hm) hB)).trans hm⟩
/-- Between two rounds: what the first i members need is in the map. -/
structure PlI (s : ByteArray) (ps : List (Mbr × Value)) (w : World) (M i : Nat) (f : List UInt8 → Option Int) (wr : World) : Prop where
  map : Pm wr M i f
  lo : w.heap.size ≤ M
  b : Below w.heap.size w wr
  val : ∀ l v, f l = some v → v = Lib.index s.data.toList l
  all : ∀ (j : Nat) x, j < i → ps[j]? = some x → (f x.1.pat.ned).isSome = true
theorem bel_adn (w : World) (o : Obj) (n : Nat) : Below w.heap.size w ((w.alloc o).drewN n) := ((Below.refl _ _).alloc (Nat.le_refl _) _).trans ((below_drewN' _ n).mono (by simp))
theorem need_list (m : Mbr) : m.need.data.toList = m.pat.ned := by unfold Mbr.need; simp
set_option maxHeartbeats 4000000 in
theorem lplaces_any (ps : List (Mbr × Value)) (v : Value) (B : Nat) (w : World) (hown : MbOwn w B v ps) (hpv : ∀ x ∈ ps, ∃ a n c, x.2 = .slice a n c) (hns : ∀ x ∈ ps, x.1.need.size ≤ 1000000) (hl : ps.length ≤ 12) (s : ByteArray) (hs : s.size ≤ 400) (hX : Mxl w) :
    Calls Tryz.prog 44 #[v, .string s] w fun e w' => ∃ M f, e = .returned (.map (some M)) ∧ PlI s ps w M ps.length f w' := by
  obtain ⟨a, cap, rfl, hat⟩ := MbOwn.at hown
  have HAT := hid hat
  have HO := hid hown
  have HPV := hid hpv
  have HNS := hid hns
  have HX := hid hX
  have HI0 : Hid (PlI s ps w w.heap.size 0 (fun _ => none) (w.alloc (.map #[] 0))) := ⟨Pm.made w, Nat.le_refl _, (Below.refl _ _).alloc (Nat.le_refl _) _, fun l v h => by (cases h), fun j x hj => by omega⟩
  have hmm := @run_makeMap Tryz.prog
  clear hat hown hpv hns hX
  go_enter Tryz.func44, Tryz.ntmps44
  go_wp2_with fail
  go_loopw [13] (fun v wr => ∃ (i : Nat) (f : List UInt8 → Option Int), i ≤ ps.length ∧ v = .int .i64 (i : Int) ∧ Hid (PlI s ps w w.heap.size i f wr)) (fun v _ => ps.length - (intOf v).toNat)
  case atStart => exact ⟨0, _, by omega, rfl, HI0⟩
  case round =>
    clear HI0
    obtain ⟨i, f, hi, rfl, HA⟩ := hrel
    by_cases hil : i < ps.length
    · obtain ⟨x, hx⟩ : ∃ x, ps[i]? = some x := ⟨ps[i], List.getElem?_eq_getElem hil⟩
      have i0 : (0 : Int) ≤ (i : Int) := by omega
      have i1 : (i : Int) < (ps.length : Int) := by omega
      obtain ⟨b, hbb⟩ : ∃ b, a = some ⟨b, 0, none⟩ := by
        rcases HAT.out with h | ⟨b, h, _⟩
        · rw [h] at hil; simp at hil
        · exact ⟨b, h⟩
      subst hbb
      have hbw : b < w.heap.size := (owns_block HO.out (g := b) rfl).2.1
      have hmat : MbAt w b ps := by
        rcases HAT.out with h | ⟨b', h1, h2⟩
        · rw [h] at hil; simp at hil
        · injection h1 with h1
          injection h1 with h1 _ _
          rw [h1]
          exact h2
      obtain ⟨za, zn, zc, hz⟩ := HPV.out x (List.mem_of_getElem? hx)
      have hnd := HNS.out x (List.mem_of_getElem? hx)
      have HXX := hid hx
      obtain ⟨y0, y1, y2, y3⟩ := hmat i x hx
      have hbl := HA.out.b
      have x0 := (hbl.cell (p := ⟨b, i * 4, none⟩) hbw).trans y0
      have x1 := (hbl.cell (p := ⟨b, i * 4 + 1, none⟩) hbw).trans y1
      have x2 := (hbl.cell (p := ⟨b, i * 4 + 2, none⟩) hbw).trans y2
      have x3 := (hbl.cell (p := ⟨b, i * 4 + 3, none⟩) hbw).trans y3
      rw [hz] at x2
      obtain ⟨nd, hnd2⟩ : ∃ nd, nd = x.1.need := ⟨_, rfl⟩
      have HND : Hid (nd.data.toList = x.1.pat.ned) := by rw [hnd2]; exact need_list x.1
      obtain ⟨mid, hmid⟩ : ∃ k : Nat, k = x.1.id := ⟨_, rfl⟩
      obtain ⟨mtx, hmtx⟩ : ∃ k : ByteArray, k = x.1.text := ⟨_, rfl⟩
      rw [← hmid] at x0
      rw [← hmtx] at x1
      rw [← hnd2] at x3 hnd
      have hndm : nd.size ≤ maxLen := by unfold maxLen; omega
      have HMA := hid HA.out.map
      have HLK : Hid (∀ w', Below wr.heap.size wr w' → (Instr.lookup 110 (.map (some w.heap.size)) (.string nd) true).run Tryz.prog w' = .ok (.tuple #[.int .i64 ((f nd.data.toList).getD 0), .bool (f nd.data.toList).isSome]) w') := fun w' hb => (HMA.out.below hb).ok nd hndm
      clear hx hz hmat y0 y1 y2 y3 hmid hmtx hnd2 hbl
      have hlk := HLK.out (wr.alloc (.cells #[.int .i64 (mid : Int), .string mtx, .slice za zn zc, .string nd] 73)) ((Below.refl _ _).alloc (Nat.le_refl _) _)
      cases hf : f nd.data.toList with
      | some i9 =>
        rw [hf] at hlk
        have HI2 : Hid (PlI s ps w w.heap.size (i + 1) f (wr.alloc (.cells #[.int .i64 (mid : Int), .string mtx, .slice za zn zc, .string nd] 73))) := by
          have h := HA.out
          have hb := (Below.refl wr.heap.size wr).alloc (Nat.le_refl _) (.cells #[.int .i64 (mid : Int), .string mtx, .slice za zn zc, .string nd] 73)
          obtain ⟨D, h1, h2⟩ := h.map.below hb
          refine ⟨⟨D, h1.mono (Nat.le_succ _), h2⟩, h.lo, h.b.trans (hb.mono h.b.size), h.val, fun j y hj hy => ?_⟩
          rcases Nat.lt_or_ge j i with hj2 | hj2
          · exact h.all j y hj2 hy
          · obtain rfl : j = i := by omega
            rw [HXX.out] at hy
            obtain rfl := Option.some.inj hy
            rw [← HND.out, hf]
            rfl
        clear hf HA HMA HLK
        go_wp2_with fail
        exact ⟨⟨i + 1, f, by omega, by go_num, HI2⟩, by simp [intOf]; omega⟩
      | none =>
        rw [hf] at hlk
        have HF := hid hf
        clear hf
        have HIX : Hid (∀ w', Below wr.heap.size wr w' → _) := fun w' hb => by
          obtain ⟨m, hm⟩ := (HX.out.below HA.out.b (Nat.le_refl _)).below hb (Nat.le_refl _)
          exact strings_Index s nd m w' (by omega) hm
        have hb5 : Below wr.heap.size wr (wr.alloc (.cells #[.int .i64 (mid : Int), .string mtx, .slice za zn zc, .string nd] 73)).drew := ((Below.refl _ _).alloc (Nat.le_refl _) _).drew
        obtain ⟨w9, hup, hpm, hg9⟩ := (HMA.out.below hb5).put (by omega) nd hndm (Lib.index s.data.toList nd.data.toList)
        have HB5 := hid hb5
        have HPM := hid hpm
        have HG9 := hid hg9
        clear hb5 hpm hg9
        go_wp2_with fail
        go_region_with (go_at_call 66; refine Calls.mono (HIX.out _ HB5.out) ?_; rintro e w5 ⟨rfl, rfl⟩)
        all_goals
          have HI2 : Hid (PlI s ps w w.heap.size (i + 1) (fun l => if l = nd.data.toList then some (Lib.index s.data.toList nd.data.toList) else f l) w9) := by
            have h := HA.out
            refine ⟨HPM.out, h.lo, ?_, fun l v hv => ?_, fun j y hj hy => ?_⟩
            · have hb := h.b.trans (HB5.out.mono h.b.size)
              exact ⟨HG9.out.os.trans hb.os, HG9.out.tape.trans hb.tape, HG9.out.output.trans hb.output, Nat.le_trans hb.size HG9.out.size, fun k hk => (HG9.out.block k (Nat.lt_of_lt_of_le hk hb.size) (by intro e; injection e with e; omega)).trans (hb.block k hk)⟩
            · split at hv
              · rename_i e
                rw [e]
                exact (Option.some.inj hv).symm
              · exact h.val l v hv
            · by_cases e : y.1.pat.ned = nd.data.toList
              · rw [if_pos e]; rfl
              · rw [if_neg e]
                rcases Nat.lt_or_ge j i with hj2 | hj2
                · exact h.all j y hj2 hy
                · obtain rfl : j = i := by omega
                  rw [HXX.out] at hy
                  obtain rfl := Option.some.inj hy
                  exact absurd HND.out.symm e
          clear hup HB5 HPM HG9 HA HMA HLK HIX
          go_wp2
          exact ⟨⟨i + 1, _, by omega, by go_num, HI2⟩, by simp [intOf]; omega⟩
    · have g1 : ¬ (i : Int) < (ps.length : Int) := by omega
      obtain rfl : i = ps.length := by omega
      go_wp2
      go_ret
      exact ⟨_, rfl, f, HA.out⟩
end Go.Proofs.YtejbififfceamaaGreatDoor
namespace Go.Proofs.YtejbififfceamaaGreatDoor
set_option linter.unusedSimpArgs false
set_option linter.unusedVariables false
set_option maxRecDepth 100000
open Go.RowKit
theorem whl_lenT : ∀ (t : Rx) (x : List UInt8), t.whl = some x → x.length ≤ t.flat.length
  | .leaf n, x, h => by
    simp only [Rx.whl] at h
    split at h
    · cases hc : n.c.only with
      | none => rw [hc] at h; cases h
      | some c => rw [hc] at h; simp at h; subst h; simp [Rx.flat]
    · split at h
      · simp at h; subst h; simp
      · cases h
  | .one n a, x, h => by simp [Rx.whl] at h
  | .two n a b, x, h => by
    simp only [Rx.whl] at h
    split at h
    · cases ha : a.whl with
      | none => rw [ha] at h; cases h
      | some p =>
        cases hb : b.whl with
        | none => rw [ha, hb] at h; cases h
        | some q =>
          rw [ha, hb] at h
          simp at h
          subst h
          have := whl_lenT a p ha
          have := whl_lenT b q hb
          simp [Rx.flat]
          omega
    · cases h
theorem ned_lenT : ∀ (t : Rx), t.ned.length ≤ t.flat.length
  | .leaf n => by
    simp only [Rx.ned]
    cases h : (Rx.leaf n).whl with
    | none => simp
    | some x => exact whl_lenT _ x h
  | .one n a => by
    simp only [Rx.ned]
    split
    · have := ned_lenT a; simp [Rx.flat]; omega
    · simp
  | .two n a b => by
    simp only [Rx.ned]
    split
    · rename_i x h
      exact whl_lenT _ x h
    · split
      · have := ned_lenT a
        have := ned_lenT b
        unfold longer
        split <;> (simp [Rx.flat]; omega)
      · simp
end Go.Proofs.YtejbififfceamaaGreatDoor
namespace Go.Proofs.YtejbififfceamaaGreatDoor
set_option linter.unusedSimpArgs false
set_option linter.unusedVariables false
set_option maxRecDepth 100000
open Go.RowKit
/-- Which members are tried, with the filter on. -/
def trs (s : List UInt8) (ps : List (Mbr × Value)) : List (Mbr × Value) := ps.filter (fun x => decide (0 ≤ Lib.index s x.1.pat.ned))
theorem trs_step (s : List UInt8) (ps : List (Mbr × Value)) (i : Nat) (x : Mbr × Value) (hx : ps[i]? = some x) : trs s (ps.take (i + 1)) = trs s (ps.take i) ++ (if 0 ≤ Lib.index s x.1.pat.ned then [x] else []) := by
  unfold trs
  rw [List.take_add_one, hx, List.filter_append]
  congr 1
  by_cases h : 0 ≤ Lib.index s x.1.pat.ned
  · simp [h]
  · simp [h]
set_option maxHeartbeats 1000000 in
theorem ltry_off (mb : Nat) (v : Value) (ps : List (Mbr × Value)) (σ : SetS) (w : World) (h : MsI mb v ps σ w) (hon : σ.on = false) (s : ByteArray) :
    Calls Tryz.prog 32 #[.pointer (some ⟨mb, 0, none⟩), .string s] w fun e w' => e = .returned v ∧ w' = w := by
  obtain ⟨c0, -, c2, -, -⟩ := h.cells
  rw [hon] at c2
  obtain ⟨a, cap, rfl, -⟩ := MbOwn.at h.row
  clear h hon
  go_enter Tryz.func32, Tryz.ntmps32
  go_wp2
  go_ret
  exact ⟨rfl, rfl⟩
set_option maxHeartbeats 8000000 in
theorem ltry_on (mb : Nat) (v : Value) (ps : List (Mbr × Value)) (σ : SetS) (w : World) (h : MsI mb v ps σ w) (hσ : σ.Ok) (hon : σ.on = true) (s : ByteArray) (hs : s.size ≤ 400) (hX : Mxl w) :
    Calls Tryz.prog 32 #[.pointer (some ⟨mb, 0, none⟩), .string s] w fun e w' => ∃ u, e = .returned u ∧ MbOwn w' w.heap.size u (trs s.data.toList ps) ∧ Below w.heap.size w w' := by
  obtain ⟨c0, -, c2, -, -⟩ := h.cells
  rw [hon] at c2
  have hl : ps.length ≤ 12 := by rw [h.len]; exact hσ.len
  have HPV : Hid (∀ x ∈ ps, ∃ a n c, x.2 = .slice a n c) := fun x hx => by obtain ⟨a, c, e⟩ := owns_form (h.pats x hx); exact ⟨a, _, c, e⟩
  have HNS : Hid (∀ x ∈ ps, x.1.need.size ≤ 1000000) := fun x hx => by
    have hm : x.1 ∈ σ.ms := by rw [h.ms]; exact List.mem_map.2 ⟨x, hx, rfl⟩
    have h1 := (hσ.each _ hm).1.2.2.2
    have h2 := ned_lenT x.1.pat
    have e : x.1.need.size = x.1.pat.ned.length := by simp [Mbr.need, ByteArray.size]
    omega
  have CP := hid (lplaces_any ps v 0 w h.row HPV.out HNS.out hl s hs hX)
  obtain ⟨a, cap, rfl, -⟩ := MbOwn.at h.row
  have H := hid h
  clear h hon hX hσ
  go_enter Tryz.func32, Tryz.ntmps32
  go_wp2_with fail
  refine Calls.mono CP.out ?_
  rintro e w1 ⟨M, f, rfl, hP⟩
  have HP := hid hP
  obtain ⟨d0, -, -, -, -⟩ := (H.out.below hP.b).cells
  have HI0 : Hid (MbOwn w1 w1.heap.size (.slice none 0 0) (trs s.data.toList (ps.take 0)) ∧ Below w1.heap.size w1 w1) := ⟨MbOwn.nil _ _, Below.refl _ _⟩
  clear hP CP c0 c2
  go_wp2_with fail
  go_loopw [5, 29] (fun o v wr => ∃ k : Nat, k ≤ ps.length ∧ v = .int .i64 (k : Int) ∧ Hid (MbOwn wr w1.heap.size o (trs s.data.toList (ps.take k)) ∧ Below w1.heap.size w1 wr)) (fun _ v _ => ps.length - (intOf v).toNat)
  case atStart => exact ⟨0, by omega, rfl, HI0⟩
  case round =>
    clear HI0
    obtain ⟨i, hi, rfl, HQ⟩ := hrel
    by_cases hil : i < ps.length
    · obtain ⟨x, hx⟩ : ∃ x, ps[i]? = some x := ⟨ps[i], List.getElem?_eq_getElem hil⟩
      have i0 : (0 : Int) ≤ (i : Int) := by omega
      have i1 : (i : Int) < (ps.length : Int) := by omega
      have hbw := HP.out.b.trans (HQ.out.2.mono HP.out.b.size)
      obtain ⟨b, hbb, hmat⟩ : ∃ b, a = some ⟨b, 0, none⟩ ∧ MbAt wr b ps := by
        obtain ⟨a', c', e, h⟩ := MbOwn.at (H.out.below hbw).row
        injection e with e _ _
        rcases h with h | ⟨b', h1, h2⟩
        · rw [h] at hil; simp at hil
        · exact ⟨b', e.trans h1, h2⟩
      subst hbb
      obtain ⟨za, zn, zc, hz⟩ := HPV.out x (List.mem_of_getElem? hx)
      have hnd := HNS.out x (List.mem_of_getElem? hx)
      obtain ⟨x0, x1, x2, x3⟩ := hmat i x hx
      have HST := hid (trs_step s.data.toList ps i x hx)
      have HFF : Hid (f x.1.pat.ned = some (Lib.index s.data.toList x.1.pat.ned)) := by
        have h1 := HP.out.all i x hil hx
        show f x.1.pat.ned = _
        cases h2 : f x.1.pat.ned with
        | none => rw [h2] at h1; cases h1
        | some v => rw [HP.out.val _ _ h2]
      obtain ⟨m, z⟩ := x
      simp only at hz
      subst hz
      simp only at x0 x1 x2 x3 hnd HFF HST
      obtain ⟨K, hK⟩ : ∃ K, K = Lib.index s.data.toList m.pat.ned := ⟨_, rfl⟩
      obtain ⟨nd, hnd2⟩ : ∃ nd, nd = m.need := ⟨_, rfl⟩
      rw [← hK] at HFF HST
      rw [← need_list m, ← hnd2] at HFF
      rw [← hnd2] at x3 hnd
      have HND := hid hnd2
      obtain ⟨T, hT⟩ : ∃ T, T = trs s.data.toList (ps.take i) := ⟨_, rfl⟩
      have hTl : T.length ≤ 12 := by
        rw [hT]
        have h1 : (trs s.data.toList (ps.take i)).length ≤ (ps.take i).length := List.length_filter_le _ _
        rw [List.length_take] at h1
        omega
      rw [← hT] at HQ HST
      obtain ⟨ua, uc, rfl⟩ := owns_form HQ.out.1
      obtain ⟨Z, hZ⟩ : ∃ Z, Z = wr.alloc (.cells #[.int .i64 (m.id : Int), .string m.text, .slice za zn zc, .string nd] 73) := ⟨_, rfl⟩
      have hZb : Below wr.heap.size wr Z := by rw [hZ]; exact (Below.refl _ _).alloc (Nat.le_refl _) _
      have hPz := (HP.out.map.below HQ.out.2).below hZb
      have hlk := hPz.look nd (by unfold maxLen; omega)
      rw [HFF.out] at hlk
      have hZm : Z.heap[wr.heap.size]? = some (.cells #[.int .i64 (m.id : Int), .string m.text, .slice za zn zc, .string nd] 73 (0, 0)) := by rw [hZ]; exact World.alloc_heap_new wr _
      have m0 := Lib.cell_of_heap hZm 0
      have m1 := Lib.cell_of_heap hZm 1
      have m2 := Lib.cell_of_heap hZm 2
      have m3 := Lib.cell_of_heap hZm 3
      simp only [List.getElem?_toArray, List.getElem?_cons_zero, List.getElem?_cons_succ] at m0 m1 m2 m3
      have hbA : Below wr.heap.size wr ((wr.alloc (.cells #[.int .i64 (m.id : Int), .string m.text, .slice za zn zc, .string nd] 73)).alloc (.cells #[.int .i64 (m.id : Int), .string m.text, .slice za zn zc, .string nd] 73)) := by rw [← hZ]; exact hZb.alloc hZb.size _
      have HO := hid (owns_below HQ.out.1 hbA)
      have HBA := hid hbA
      have HZB := hid hZb
      have HZ1 : Hid (Z = wr.alloc _) := hZ
      rw [hZ] at hlk m0 m1 m2 m3
      simp only [Option.getD_some] at hlk
      have hsz : wr.heap.size < Z.heap.size := by rw [hZ]; simp
      clear hx hT hmat hZm hZb hZ hPz hbA hbw HP HPV HNS HFF hK hnd2 d0
      by_cases hk : 0 ≤ K
      · have hkg : K ≥ 0 := hk
        rw [if_pos hk] at HST
        go_wp2_with (at_builtin; refine wpList_append_mb rfl _ _ rfl w1.heap.size _ rfl T HO.out (wr.heap.size + 1) 1 (m, .slice za zn zc) rfl rfl (by rw [World.cell?_alloc_at (w := wr.alloc _) _ _ (wr.heap.size + 1) 0 (by simp)]; rfl) (by rw [World.cell?_alloc_at (w := wr.alloc _) _ _ (wr.heap.size + 1) 1 (by simp)]; rfl) (by rw [World.cell?_alloc_at (w := wr.alloc _) _ _ (wr.heap.size + 1) 2 (by simp)]; rfl) (by rw [← HND.out, World.cell?_alloc_at (w := wr.alloc _) _ _ (wr.heap.size + 1) 3 (by simp)]; rfl) (by omega) (by have := HQ.out.2.size; simp; omega) ?_; intro g2 cap2 w2 ho2 hg2)
        have HQ2 : Hid (MbOwn w2 w1.heap.size (.slice (some ⟨g2, 0, none⟩) (T.length + 1) cap2) (trs s.data.toList (ps.take (i + 1))) ∧ Below w1.heap.size w1 w2) := ⟨by rw [HST.out]; exact ho2, (HQ.out.2.trans (HBA.out.mono HQ.out.2.size)).trans (owns_grown HO.out (by have := HQ.out.2.size; simp; omega) hg2)⟩
        exact ⟨⟨i + 1, by omega, by go_num, HQ2⟩, by simp [intOf]; omega⟩
      · have hkg : ¬ K ≥ 0 := hk
        rw [if_neg hk, List.append_nil] at HST
        have HQ2 : Hid (MbOwn (wr.alloc (.cells #[.int .i64 (m.id : Int), .string m.text, .slice za zn zc, .string nd] 73)) w1.heap.size (.slice ua T.length uc) (trs s.data.toList (ps.take (i + 1))) ∧ Below w1.heap.size w1 (wr.alloc (.cells #[.int .i64 (m.id : Int), .string m.text, .slice za zn zc, .string nd] 73))) := by
          rw [HST.out, ← HZ1.out]
          exact ⟨owns_below HQ.out.1 HZB.out, HQ.out.2.trans (HZB.out.mono HQ.out.2.size)⟩
        clear HQ HBA HO
        go_wp2_with fail
        exact ⟨⟨i + 1, by omega, by go_num, HQ2⟩, by simp [intOf]; omega⟩
    · have g1 : ¬ (i : Int) < (ps.length : Int) := by omega
      have HZ : Hid (MbOwn wr w.heap.size u5 (trs s.data.toList ps) ∧ Below w.heap.size w wr) := by
        have h := HQ.out
        rw [List.take_of_length_le (by omega)] at h
        exact ⟨World.ownsRow.mono h.1 HP.out.b.size, HP.out.b.trans (h.2.mono HP.out.b.size)⟩
      clear HQ
      go_wp2
      go_ret
      exact ⟨_, rfl, HZ.out.1, HZ.out.2⟩
end Go.Proofs.YtejbififfceamaaGreatDoor
namespace Go.Proofs.YtejbififfceamaaGreatDoor
set_option linter.unusedSimpArgs false
set_option linter.unusedVariables false
set_option maxRecDepth 100000
open Go.RowKit
theorem list2sp {α : Type} (l : List α) (h : l.length = 2) : ∃ a b, l = [a, b] := by
  match l, h with
  | [a, b], _ => exact ⟨a, b, rfl⟩
/-- Two spans are the same. -/
theorem eqSpd (d : Nat) (a b c e : Int) (w : World) : (Op.equalIn (d + 1 + 1) 54 (.agg #[.int .i64 a, .int .i64 b]) (.agg #[.int .i64 c, .int .i64 e])).run Tryz.prog w = .ok (a == c && b == e) w := by
  have hs : Tryz.prog.underlying 54 = some (.struct (Tryz.prog.fieldsOf 54)) := by kernel_rfl
  have hp : Tryz.prog.stoodInHeld 54 = false := by kernel_rfl
  rw [run_equalIn_struct w (d + 1) _ _ _ hs hp]
  have hf : (Tryz.prog.fieldsOf 54).toList.map (fun f => (f.type, f.offset, f.name == "_")) = [(3, 0, false), (3, 1, false)] := by kernel_rfl
  generalize (Tryz.prog.fieldsOf 54).toList = fs at hf
  obtain ⟨f0, f1, rfl⟩ := list2sp fs (by have := congrArg List.length hf; simpa using this)
  · simp only [List.map_cons, List.map_nil, List.cons.injEq, Prod.mk.injEq, and_true] at hf
    obtain ⟨⟨t0, o0, n0⟩, ⟨t1, o1, n1⟩⟩ := hf
    have n0' : f0.name ≠ "_" := by simpa using n0
    have n1' : f1.name ≠ "_" := by simpa using n1
    have hi : ∀ (a b : Int) (w : World), (Op.equalIn (d + 1) 3 (.int .i64 a) (.int .i64 b)).run Tryz.prog w = .ok (a == b) w := fun a b w => run_equalIn_int w d 3 .i64 .i64 a b Tryz.underlying3
    have q0 : ∀ (x y : Int) (w : World), (part 3 #[.int .i64 x, .int .i64 y] 0).run Tryz.prog w = .ok (.int .i64 x) w := fun _ _ _ => by kernel_rfl
    have q1 : ∀ (x y : Int) (w : World), (part 3 #[.int .i64 x, .int .i64 y] 1).run Tryz.prog w = .ok (.int .i64 y) w := fun _ _ _ => by kernel_rfl
    simp only [Op.eqFields, t0, o0, t1, o1, ne_eq, n0', n1', not_false_eq_true, if_true, Sem.run_bind, q0, q1, Result.andThen_ok, hi, Sem.run_ite, Sem.run_pure]
    cases h1 : a == c <;> cases h2 : b == e <;> simp [q1, hi, h2]
theorem eqSp (a b c e : Int) (w : World) : (Op.equalIn 10000 54 (.agg #[.int .i64 a, .int .i64 b]) (.agg #[.int .i64 c, .int .i64 e])).run Tryz.prog w = .ok (a == c && b == e) w := eqSpd 9998 a b c e w
end Go.Proofs.YtejbififfceamaaGreatDoor
namespace Go.Proofs.YtejbififfceamaaGreatDoor
set_option linter.unusedSimpArgs false
set_option linter.unusedVariables false
set_option maxRecDepth 100000
open Go.RowKit
/-- A span as a value. -/
abbrev spV (x : Nat × Nat) : Value := .agg #[.int .i64 (x.1 : Int), .int .i64 (x.2 : Int)]
/-- The spans l lie in block b from off on. -/
def SpAt (w : World) (b off : Nat) (l : List (Nat × Nat)) : Prop := ∀ (i : Nat) (x : Nat × Nat), l[i]? = some x → w.cell? ⟨b, off + i * 2, none⟩ = some (.int .i64 (x.1 : Int)) ∧ w.cell? ⟨b, off + i * 2 + 1, none⟩ = some (.int .i64 (x.2 : Int))
/-- A slice that reads as the spans l. -/
def SpIn (w : World) (v : Value) (l : List (Nat × Nat)) : Prop := ∃ a cap, v = .slice a l.length cap ∧ l.length ≤ maxLen ∧ (l = [] ∨ ∃ b off, a = some ⟨b, off, none⟩ ∧ b < w.heap.size ∧ SpAt w b off l)
theorem SpAt.below {w w' : World} {B b off : Nat} {l : List (Nat × Nat)} (h : SpAt w b off l) (hb : Below B w w') (hlt : b < B) : SpAt w' b off l := fun i n hn =>
  ⟨(hb.cell (p := ⟨b, _, none⟩) hlt).trans (h i n hn).1, (hb.cell (p := ⟨b, _, none⟩) hlt).trans (h i n hn).2⟩
theorem SpIn.below {w w' : World} {v : Value} {l : List (Nat × Nat)} (h : SpIn w v l) (hb : Below w.heap.size w w') : SpIn w' v l := by
  obtain ⟨a, cap, rfl, hm, h | ⟨b, off, rfl, hlt, hn⟩⟩ := h
  · exact ⟨a, cap, rfl, hm, Or.inl h⟩
  · exact ⟨_, cap, rfl, hm, Or.inr ⟨b, off, rfl, Nat.lt_of_lt_of_le hlt hb.size, hn.below hb hlt⟩⟩
theorem spIn_nil (w : World) : SpIn w (.slice none 0 0) [] := ⟨none, 0, rfl, by simp, Or.inl rfl⟩
theorem spIn_form {w : World} {v : Value} {l : List (Nat × Nat)} (h : SpIn w v l) : ∃ a cap, v = .slice a l.length cap ∧ l.length ≤ maxLen := by
  obtain ⟨a, cap, h1, h2, _⟩ := h
  exact ⟨a, cap, h1, h2⟩
def spCells : List (Nat × Nat) → List Value
  | [] => []
  | x :: r => .int .i64 (x.1 : Int) :: .int .i64 (x.2 : Int) :: spCells r
theorem spCells_append : ∀ (x y : List (Nat × Nat)), spCells (x ++ y) = spCells x ++ spCells y
  | [], y => rfl
  | n :: r, y => by simp [spCells, spCells_append r y]
theorem spCells_len : ∀ (x : List (Nat × Nat)), (spCells x).length = x.length * 2
  | [] => rfl
  | n :: r => by simp [spCells, spCells_len r]; omega
theorem spCells_one : ∀ (x : List (Nat × Nat)), ∀ u ∈ spCells x, u.oneCell' = true
  | [], u, h => by simp [spCells] at h
  | n :: r, u, h => by
    simp [spCells] at h
    rcases h with rfl | rfl | h
    · rfl
    · rfl
    · exact spCells_one r u h
theorem spCells_at : ∀ (l : List (Nat × Nat)) (i : Nat) (x : Nat × Nat), l[i]? = some x → (spCells l)[i * 2]? = some (.int .i64 (x.1 : Int)) ∧ (spCells l)[i * 2 + 1]? = some (.int .i64 (x.2 : Int))
  | [], i, n, h => by simp at h
  | m :: r, 0, n, h => by
    simp at h
    subst h
    exact ⟨rfl, rfl⟩
  | m :: r, i + 1, n, h => by
    have := spCells_at r i n (by simpa using h)
    rw [show (i + 1) * 2 = i * 2 + 1 + 1 by omega]
    simpa [spCells] using this
/-- A slice of the call's own that reads as the spans l. -/
def SpOwn (w : World) (B : Nat) (v : Value) (l : List (Nat × Nat)) : Prop := w.ownsRow B 54 2 v l.length (spCells l)
theorem SpOwn.nil (w : World) (B : Nat) : SpOwn w B (.slice none 0 0) [] := ⟨rfl, Or.inl ⟨rfl, rfl⟩⟩
theorem SpOwn.isIn {w : World} {B : Nat} {v : Value} {l : List (Nat × Nat)} (h : SpOwn w B v l) (hm : l.length ≤ maxLen) : SpIn w v l := by
  rcases h.2 with ⟨hv, h0⟩ | ⟨g, cap, cur, hv, hb, hg, hc, _⟩
  · have e : l = [] := List.eq_nil_of_length_eq_zero h0
    subst e
    rw [hv]
    exact spIn_nil w
  · refine ⟨_, _, hv, hm, Or.inr ⟨g, 0, rfl, ?_, ?_⟩⟩
    · rcases Nat.lt_or_ge g w.heap.size with h' | h'
      · exact h'
      · rw [Array.getElem?_eq_none h'] at hg; cases hg
    · intro i x hx
      have hc := spCells_at l i x hx
      have h1 := h.cells (g := g) (by rw [hv]; rfl) (i * 2) _ hc.1
      have h2 := h.cells (g := g) (by rw [hv]; rfl) (i * 2 + 1) _ hc.2
      rw [Addr.add_lit] at h1 h2
      exact ⟨h1, h2⟩
theorem SpOwn.kept {w w' : World} {B : Nat} {v : Value} {l : List (Nat × Nat)} (h : SpOwn w B v l) (hb : Below w.heap.size w w') : SpOwn w' B v l := by
  refine World.ownsRow.kept (row := none) h ⟨hb.os, hb.tape, hb.output, hb.size, fun k hk _ => hb.block k hk⟩ ?_
  cases hv : v.ownBlock with
  | none => exact Or.inl rfl
  | some x => exact Or.inr (by simp)
theorem SpOwn.form {w : World} {B : Nat} {v : Value} {l : List (Nat × Nat)} (h : SpOwn w B v l) : ∃ a cap, v = .slice a l.length cap := by
  rcases h.2 with ⟨hv, h0⟩ | ⟨g, cap, cur, hv, _⟩
  · exact ⟨none, 0, by rw [hv, h0]⟩
  · exact ⟨_, _, hv⟩
theorem SpOwn.grown {w w' : World} {B : Nat} {v : Value} {l : List (Nat × Nat)} (h : SpOwn w B v l) (hB : B ≤ w.heap.size) (hg : w.grownBy w' v.ownBlock) : Below B w w' := by
  refine ⟨hg.os, hg.tape, hg.output, hg.size, fun k hk => hg.block k (by omega) ?_⟩
  intro e
  rcases h.2 with ⟨hv, _⟩ | ⟨b, cap, cur, hv, hb, _⟩
  · rw [hv] at e; cases e
  · rw [hv] at e
    injection e with e
    simp only at e
    omega
/-- append of one span, which lies in a new row. -/
theorem wpList_append_sp {ops : Array Oper} {rest : List Oper} {o : Oper} {a : Act} {Q : Exit → Act → World → Prop} {w : World} (hgd : o.guard = none) (s x : Operand)
    (ho : o.op = .call { callee := .builtin .append, args := #[s, x], argTypes := #[63, 63] })
    (B : Nat) (v : Value) (hs : a.eval s = v) (l : List (Nat × Nat)) (hown : SpOwn w B v l) (g2 c2 : Nat) (y : Nat × Nat) (hx : a.eval x = .slice (some ⟨g2, 0, none⟩) 1 c2)
    (hnew : w.cell? ⟨g2, 0, none⟩ = some (.int .i64 (y.1 : Int))) (hnew2 : w.cell? ⟨g2, 1, none⟩ = some (.int .i64 (y.2 : Int))) (hlen : l.length ≤ 1000000000) (hbase : B ≤ w.heap.size)
    (h : ∀ g cap w', SpOwn w' B (.slice (some ⟨g, 0, none⟩) (l.length + 1) cap) (l ++ [y]) → w.grownBy w' v.ownBlock → B ≤ g → g < w'.heap.size → wpList Tryz.prog ops Q rest (a.put o.dst (.slice (some ⟨g, 0, none⟩) (l.length + 1) cap)) w') : wpList Tryz.prog ops Q (o :: rest) a w := by
  have hinfo : (Tryz.prog.info? 54).map (fun i => (i.zero, i.size, i.bytes)) = some (some (.agg #[.int .i64 0, .int .i64 0]), 2, 16) := by kernel_rfl
  obtain ⟨i0, hi, hz0, hz1, hz2⟩ := info_parts hinfo
  refine wpList_append_lies w hgd s x 63 ho B 54 i0 _ 2 16 Tryz.underlying63 hi hz0 hz1 hz2 rfl (by decide) v l.length (spCells l) hs hown ⟨g2, 0, none⟩ 1 c2 (spCells [y]) hx rfl ?_ (spCells_one [y]) (by omega) (by unfold maxLen; omega) (by omega) hbase _ rfl ?_
  · intro j u hj
    match j, hj with
    | 0, hj =>
      simp [spCells] at hj
      subst hj
      rw [Addr.add_lit]
      exact hnew
    | 1, hj =>
      simp [spCells] at hj
      subst hj
      rw [Addr.add_lit]
      exact hnew2
    | j + 2, hj => simp [spCells] at hj
  · intro g cap w' h1 h2 h3 h4
    have e : SpOwn w' B (.slice (some ⟨g, 0, none⟩) (l.length + 1) cap) (l ++ [y]) := by
      unfold SpOwn
      rw [spCells_append]
      simpa using h1
    have hg : B ≤ g := by
      rcases h3 with h3 | h3
      · rcases hown.2 with ⟨hv, _⟩ | ⟨g', cap', cur, hv, hb, _⟩
        · rw [hv] at h3; cases h3
        · rw [hv] at h3
          injection h3 with h3
          simp at h3
          omega
      · omega
    exact h g cap w' e h2 hg h4
end Go.Proofs.YtejbififfceamaaGreatDoor
namespace Go.Proofs.YtejbififfceamaaGreatDoor
set_option linter.unusedSimpArgs false
set_option linter.unusedVariables false
set_option maxRecDepth 100000
open Go.RowKit
/-- What is wrong with a pattern or a text of n bytes. -/
def meanF (ns : List Nd) (n : Nat) : Int := if faultL ns = 0 then (if 400 < n then 3 else 0) else faultL ns
/-- What is wrong with them or a place. -/
def meanE (ns : List Nd) (n : Nat) (i : Int) : Int := if meanF ns n = 0 then (if 0 ≤ i ∧ i ≤ n then 0 else 1) else meanF ns n
theorem meanF_zero (ns : List Nd) (n : Nat) : meanF ns n = 0 ↔ faultL ns = 0 ∧ n ≤ 400 := by
  unfold meanF
  by_cases h : faultL ns = 0
  · rw [if_pos h]
    by_cases h4 : 400 < n
    · rw [if_pos h4]; simp; omega
    · rw [if_neg h4]; simp [h]; omega
  · rw [if_neg h]; simp [h]
theorem meanE_zero (ns : List Nd) (n : Nat) (i : Int) : meanE ns n i = 0 ↔ faultL ns = 0 ∧ n ≤ 400 ∧ 0 ≤ i ∧ i ≤ n := by
  unfold meanE
  by_cases h : meanF ns n = 0
  · rw [if_pos h]
    obtain ⟨h1, h2⟩ := (meanF_zero ns n).1 h
    by_cases h3 : 0 ≤ i ∧ i ≤ n
    · rw [if_pos h3]; simp [h1, h2, h3]
    · rw [if_neg h3]; simp [h1, h2]; omega
  · rw [if_neg h]
    constructor
    · intro h'; exact absurd h' h
    · rintro ⟨h1, h2, _⟩; exact absurd ((meanF_zero ns n).2 ⟨h1, h2⟩) h
end Go.Proofs.YtejbififfceamaaGreatDoor
namespace Go.Proofs.YtejbififfceamaaGreatDoor
set_option linter.unusedSimpArgs false
set_option linter.unusedVariables false
set_option maxRecDepth 100000
open Go.RowKit
/-- The number of an error: none is found. -/
def fndE : Option (Nat × Nat) → Int
  | none => 4
  | some _ => 0
/-- A span, or none, as it is answered. -/
def fndX : Option (Nat × Nat) → Nat × Nat
  | none => (0, 0)
  | some x => x
/-- Of All. -/
structure FindL (X : World → Prop) : Prop where
  bad : ∀ ns v (s : ByteArray) w, NsIn w v ns → (∀ n ∈ ns, n.wf) → s.size ≤ maxLen → ¬ meanF ns s.size = 0 → Calls Tryz.prog 21 #[v, .string s] w fun e w' => ∃ u, e = .returned (.tuple #[u, errV (meanF ns s.size)]) ∧ Below w.heap.size w w' ∧ SpIn w' u []
  all : ∀ (t : Rx) v (s : ByteArray) l w, X w → t.Ok → NsIn w v t.flat → (∀ n ∈ t.flat, n.wf) → meanF t.flat s.size = 0 → AllR s.data.toList t 0 l → Calls Tryz.prog 21 #[v, .string s] w fun e w' => ∃ u, e = .returned (.tuple #[u, .nilIface]) ∧ Below w.heap.size w w' ∧ SpIn w' u l
end Go.Proofs.YtejbififfceamaaGreatDoor
namespace Go.Proofs.YtejbififfceamaaGreatDoor
set_option linter.unusedSimpArgs false
set_option linter.unusedVariables false
set_option maxRecDepth 100000
open Go.RowKit
/-- The numbers l lie in block b from off on. -/
def IsAt (w : World) (b off : Nat) (l : List Nat) : Prop := ∀ (i x : Nat), l[i]? = some x → w.cell? ⟨b, off + i, none⟩ = some (.int .i64 (x : Int))
/-- A slice that reads as the numbers l. -/
def IsIn (w : World) (v : Value) (l : List Nat) : Prop := ∃ a cap, v = .slice a l.length cap ∧ l.length ≤ maxLen ∧ (l = [] ∨ ∃ b off, a = some ⟨b, off, none⟩ ∧ b < w.heap.size ∧ IsAt w b off l)
theorem IsAt.below {w w' : World} {B b off : Nat} {l : List Nat} (h : IsAt w b off l) (hb : Below B w w') (hlt : b < B) : IsAt w' b off l :=
  fun i n hn => (hb.cell (p := ⟨b, _, none⟩) hlt).trans (h i n hn)
theorem IsIn.below {w w' : World} {v : Value} {l : List Nat} (h : IsIn w v l) (hb : Below w.heap.size w w') : IsIn w' v l := by
  obtain ⟨a, cap, rfl, hm, h | ⟨b, off, rfl, hlt, hn⟩⟩ := h
  · exact ⟨a, cap, rfl, hm, Or.inl h⟩
  · exact ⟨_, cap, rfl, hm, Or.inr ⟨b, off, rfl, Nat.lt_of_lt_of_le hlt hb.size, hn.below hb hlt⟩⟩
theorem isIn_nil (w : World) : IsIn w (.slice none 0 0) [] := ⟨none, 0, rfl, by simp, Or.inl rfl⟩
theorem isIn_form {w : World} {v : Value} {l : List Nat} (h : IsIn w v l) : ∃ a cap, v = .slice a l.length cap ∧ l.length ≤ maxLen := by
  obtain ⟨a, cap, h1, h2, _⟩ := h
  exact ⟨a, cap, h1, h2⟩
theorem drop_at {α : Type} (x : List α) (i : Nat) (n : α) (hn : x[i]? = some n) : x.drop i = n :: x.drop (i + 1) := by
  have hi : i < x.length := by
    rcases Nat.lt_or_ge i x.length with h | h
    · exact h
    · rw [List.getElem?_eq_none h] at hn; cases hn
  rw [List.drop_eq_getElem_cons hi]
  rw [List.getElem?_eq_getElem hi] at hn
  rw [Option.some.inj hn]
/-- New memory of numbers. -/
theorem is_new (w : World) (l : List Nat) (o : Obj) (ho : o = .cells (l.map fun x : Nat => Value.int .i64 (x : Int)).toArray 3 (0, 0)) (hm : l.length ≤ maxLen) : IsIn (w.alloc o) (.slice (some ⟨w.heap.size, 0, none⟩) l.length l.length) l := by
  refine ⟨_, _, rfl, hm, Or.inr ⟨w.heap.size, 0, rfl, by simp, fun i x hx => ?_⟩⟩
  subst ho
  rw [World.cell?_alloc_at (w := w) _ _ w.heap.size (0 + i) rfl]
  simp [hx]
end Go.Proofs.YtejbififfceamaaGreatDoor
namespace Go.Proofs.YtejbififfceamaaGreatDoor
set_option linter.unusedSimpArgs false
set_option linter.unusedVariables false
set_option maxRecDepth 100000
open Go.RowKit

theorem nsIn_nil (w : World) : NsIn w (.slice none 0 0) [] := ⟨none, 0, rfl, by simp, Or.inl rfl⟩
theorem nsIn_form {w : World} {v : Value} {ns : List Nd} (h : NsIn w v ns) : ∃ a cap, v = .slice a ns.length cap ∧ ns.length ≤ maxLen := by
  obtain ⟨a, cap, h1, h2, _⟩ := h
  exact ⟨a, cap, h1, h2⟩
theorem nsEq_refl (x : List Nd) : nsEq x x = true := (nsEq_iff x x).2 rfl
end Go.Proofs.YtejbififfceamaaGreatDoor

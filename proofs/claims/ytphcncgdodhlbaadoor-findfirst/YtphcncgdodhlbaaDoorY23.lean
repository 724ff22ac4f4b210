/- What the document's own functions answer: FindOf. What the document's own functions answer: AllOf. Package find: all spans, one behind the other; Find and All: what the document asks of it. Package find: All: what the document asks of it. Package find: Find and All: what the document asks of it. -/
import Derived.Test.YtphcncgdodhlbaaDoorY22
import Derived.Test.YtphcncgdodhlbaaDoorY04
import Derived.Test.YtphcncgdodhlbaaDoorY21
namespace Go.Proofs.YtphcncgdodhlbaaDoor
set_option linter.unusedSimpArgs false
set_option linter.unusedVariables false
set_option maxRecDepth 100000
open Go.RowKit
/-- A span, or none, as it is answered. -/
def spO : Option (Nat × Nat) → Nat × Nat
  | none => (0, 0)
  | some x => x
/-- Two cells are stored. -/
theorem put2_heap {w : World} {B : Nat} {a b : Value} {t : TypeId} (h : w.heap[B]? = some (.cells #[a, b] t (0, 0))) (x y : Value) : ((w.setCell ⟨B, 0, none⟩ x).setCell ⟨B, 1, none⟩ y).heap[B]? = some (.cells #[x, y] t (0, 0)) := by
  simp [World.setCell, Array.getElem?_modify, h]
set_option maxHeartbeats 4000000 in
theorem findOf_any (t : Rx) (ht : t.Ok) (v : Value) (s : ByteArray) (hs : s.size ≤ 400) (i : Nat) (r : Option (Nat × Nat)) (hr : FndR s.data.toList t i r) (hi : i ≤ s.size + 1) (w : World) (hN : NsIn w v t.flat) (ho : ∀ n ∈ t.flat, (1 ≤ n.op ∧ n.op ≤ 9) ∧ n.c.ok) (hl : t.flat.length ≤ 60) :
    Calls Tryd.prog 9 #[v, .string s, .int .i64 (i : Int)] w fun e w' => e = .returned (.tuple #[spV (spO r), .bool r.isSome]) ∧ Below w.heap.size w w' := by
  obtain ⟨o, hod⟩ : ∃ o : Obj, o = .cells #[.int .i64 0, .int .i64 0] 28 := ⟨_, rfl⟩
  have hB0 : Below w.heap.size w (w.alloc o) := (Below.refl _ _).alloc (Nat.le_refl _) _
  have HC : Hid (∀ w', Below (w.alloc o).heap.size (w.alloc o) w' → w'.heap[w.heap.size]? = some (.cells #[.int .i64 0, .int .i64 0] 28 (0, 0))) := fun w' hb => by
    rw [hb.block w.heap.size (by simp), heap_new w o, hod]
  have HE : Hid (∀ (k : Nat) (l : List Nat), k ≤ s.size → EndsR s.data.toList t k l → ∀ w', Below w.heap.size w w' → _) := fun k l hk hE w' hb => endsOf_any t ht v s (by omega) k hk l hE w' (hN.below hb) ho hl
  have HT : Hid (∀ k, ∃ l, EndsR s.data.toList t k l) := fun k => ends_total _ t k
  have HR := hid hr
  have hlen : s.data.toList.length = s.size := by simp
  obtain ⟨va, vc, rfl, vm⟩ : ∃ a c, v = .slice a t.flat.length c ∧ t.flat.length ≤ maxLen := by
    obtain ⟨a, c, h1, h2, _⟩ := hN
    exact ⟨a, c, h1, h2⟩
  clear hN hr ho
  go_enter Tryd.func9, Tryd.ntmps9
  go_wp2_with fail
  rw [← hod]
  clear hod
  go_loopw [8] (fun v wr => ∃ k : Nat, i ≤ k ∧ k ≤ s.size + 1 ∧ v = .int .i64 (k : Int) ∧ Hid (FndR s.data.toList t k r) ∧ Hid (Below (w.alloc o).heap.size (w.alloc o) wr)) (fun v _ => s.size + 1 - (intOf v).toNat)
  case atStart => exact ⟨i, Nat.le_refl _, hi, rfl, HR, Below.refl _ _⟩
  case round =>
    obtain ⟨k, hik, hk, rfl, HF, HB⟩ := hrel
    by_cases hks : k ≤ s.size
    · have g1 : (k : Int) ≤ (s.size : Int) := by omega
      obtain ⟨l, hl1⟩ := HT.out k
      have HBw : Hid (Below w.heap.size w wr) := hB0.trans (HB.out.mono (by simp))
      have C := hid (HE.out k l hks hl1 wr HBw.out)
      have HL := hid hl1
      clear hl1
      go_wp2_with fail
      refine Calls.mono C.out ?_
      rintro e w1 ⟨u, rfl, hb1, hu⟩
      have HB1 := hid (HB.out.trans (hb1.mono HB.out.size))
      clear hb1 C
      cases hlast : l.getLast? with
      | none =>
        have e0 : l = [] := List.getLast?_eq_none_iff.1 hlast
        subst e0
        obtain ⟨ua, uc, rfl, _⟩ := isIn_form hu
        have HF2 := hid (HF.out.unstep HL.out.none)
        simp only [List.length_nil]
        clear hu hlast HL HF
        go_wp2
        exact ⟨⟨k + 1, by omega, by omega, by go_num, HF2, HB1⟩, by simp [intOf]; omega⟩
      | some b =>
        have hne : l ≠ [] := fun e => by rw [e] at hlast; cases hlast
        obtain ⟨ua, uc, rfl, um, hu0 | ⟨gb, go, rfl, glt, gat⟩⟩ := hu
        · exact absurd hu0 hne
        have hl0 : 0 < l.length := List.length_pos_iff.2 hne
        have hg := gat (l.length - 1) b (by rw [List.getLast?_eq_getElem?] at hlast; exact hlast)
        have e1 : (l.length : Int) - 1 = ((l.length - 1 : Nat) : Int) := by omega
        have e2 : (0 : Int) < (l.length : Int) := by omega
        have hll := HL.out.len
        have e3 : ((l.length - 1 : Nat) : Int) < (l.length : Int) := by omega
        have hw1 : IntKind.i64.wrap ((l.length : Int) - 1) = ((l.length - 1 : Nat) : Int) := by rw [IntKind.wrap_i64]; omega
        have hrs : r = some (k, b) := HF.out.uniq (FndR.here HL.out hlast)
        have hz := HC.out w1 HB1.out
        have z0 : w1.cell? ⟨w.heap.size, 0, none⟩ = some (.int .i64 0) := (Lib.cell_of_heap hz 0).trans rfl
        have z1 : w1.cell? ⟨w.heap.size, 1, none⟩ = some (.int .i64 0) := (Lib.cell_of_heap hz 1).trans rfl
        have f0 := Lib.frozen_of_heap hz 0
        have f1 := Lib.frozen_of_heap hz 1
        have HZ := hid hz
        have HRS := hid hrs
        clear hrs gat HL HF hlast hne hll hz e1
        go_wp2
        have hp := put2_heap HZ.out (.int .i64 (k : Int)) (.int .i64 (b : Int))
        have p0 := (Lib.cell_of_heap hp 0).trans (show _ = some (.int .i64 (k : Int)) from rfl)
        have p1 := (Lib.cell_of_heap hp 1).trans (show _ = some (.int .i64 (b : Int)) from rfl)
        refine bodyPost_ret (v := .tuple #[spV (k, b), .bool true]) (by simp [results, Tryd.results9, go_sem, p0, p1]) rfl ⟨by rw [HRS.out]; rfl, ?_⟩
        exact ((hB0.trans (HB1.out.mono (by simp))).setCell (p := ⟨w.heap.size, 0, none⟩) (Nat.le_refl _) _).setCell (p := ⟨w.heap.size, 1, none⟩) (Nat.le_refl _) _
    · have hkk : k = s.size + 1 := by omega
      have g1 : ¬ (k : Int) ≤ (s.size : Int) := by omega
      have hrs : r = none := HF.out.uniq (FndR.out (by omega))
      have hz := HC.out wr HB.out
      have z0 : wr.cell? ⟨w.heap.size, 0, none⟩ = some (.int .i64 0) := (Lib.cell_of_heap hz 0).trans rfl
      have z1 : wr.cell? ⟨w.heap.size, 1, none⟩ = some (.int .i64 0) := (Lib.cell_of_heap hz 1).trans rfl
      have f0 := Lib.frozen_of_heap hz 0
      have f1 := Lib.frozen_of_heap hz 1
      have HZ := hid hz
      have HRS := hid hrs
      clear hrs hz HF
      go_wp2
      have hp := put2_heap HZ.out (.int .i64 0) (.int .i64 0)
      have p0 := (Lib.cell_of_heap hp 0).trans (show _ = some (.int .i64 0) from rfl)
      have p1 := (Lib.cell_of_heap hp 1).trans (show _ = some (.int .i64 0) from rfl)
      refine bodyPost_ret (v := .tuple #[spV (0, 0), .bool false]) (by simp [results, Tryd.results9, go_sem, p0, p1]) rfl ⟨by rw [HRS.out]; rfl, ?_⟩
      exact ((hB0.trans (HB.out.mono (by simp))).setCell (p := ⟨w.heap.size, 0, none⟩) (Nat.le_refl _) _).setCell (p := ⟨w.heap.size, 1, none⟩) (Nat.le_refl _) _
end Go.Proofs.YtphcncgdodhlbaaDoor
namespace Go.Proofs.YtphcncgdodhlbaaDoor
set_option linter.unusedSimpArgs false
set_option linter.unusedVariables false
set_option maxRecDepth 100000
open Go.RowKit
theorem SpOwn.row {w : World} {B : Nat} {v : Value} {l : List (Nat × Nat)} (h : SpOwn w B v l) (k : Nat) (e : v.ownBlock = some k) : B ≤ k ∧ k < w.heap.size := by
  rcases h.2 with ⟨hv, _⟩ | ⟨b, cap, cur, hv, hb, hh, _⟩
  · rw [hv] at e; cases e
  · rw [hv] at e
    injection e with e
    simp only at e
    subst e
    exact ⟨hb, (Array.getElem?_eq_some_iff.1 hh).1⟩
/-- A box that was laid behind the row lies as it lay. -/
theorem box_kept {w1 w2 : World} {B : Nat} {v : Value} {l : List (Nat × Nat)} (h : SpOwn w1 B v l) (a b : Value) (o2 : Obj) (t : TypeId) (hgr : ((w1.alloc (.cells #[a, b] t)).alloc o2).grownBy w2 v.ownBlock) : w2.cell? ⟨w1.heap.size, 0, none⟩ = some a ∧ w2.cell? ⟨w1.heap.size, 1, none⟩ = some b := by
  have h1 : w2.heap[w1.heap.size]? = some (.cells #[a, b] t (0, 0)) := by
    rw [hgr.block w1.heap.size (by simp; omega) (fun e => by have := (h.row _ e.symm).2; omega), Below.heap_alloc _ _ _ (by simp)]
    exact heap_new w1 _
  exact ⟨(Lib.cell_of_heap h1 0).trans rfl, (Lib.cell_of_heap h1 1).trans rfl⟩
/-- Between two rounds: L is what was found till k, r is what is found behind it. -/
def AlR (s : List UInt8) (t : Rx) (all : List (Nat × Nat)) (B : Nat) (w : World) (k : Nat) (u : Value) (wr : World) : Prop := ∃ L r, all = L ++ r ∧ SpOwn wr B u L ∧ AllR s t k r ∧ L.length ≤ k ∧ Below B w wr
set_option maxHeartbeats 4000000 in
theorem allOf_own (t : Rx) (ht : t.Ok) (v : Value) (s : ByteArray) (hs : s.size ≤ 400) (all : List (Nat × Nat)) (ha : AllR s.data.toList t 0 all) (w : World) (hN : NsIn w v t.flat) (ho : ∀ n ∈ t.flat, (1 ≤ n.op ∧ n.op ≤ 9) ∧ n.c.ok) (hl : t.flat.length ≤ 60) :
    Calls Tryd.prog 8 #[v, .string s] w fun e w' => ∃ u, e = .returned u ∧ SpOwn w' w.heap.size u all ∧ Below w.heap.size w w' := by
  have HF : Hid (∀ (k : Nat) r, k ≤ s.size + 1 → FndR s.data.toList t k r → ∀ w', Below w.heap.size w w' → _) := fun k r hk hr w' hb => findOf_any t ht v s hs k r hr hk w' (hN.below hb) ho hl
  have hlen : s.data.toList.length = s.size := by simp
  have hall : all.length ≤ 401 := by
    have := ha.len
    omega
  have H0 : Hid (AlR s.data.toList t all w.heap.size w 0 (.slice none 0 0) w) := ⟨[], all, rfl, SpOwn.nil _ _, ha, by simp, Below.refl _ _⟩
  obtain ⟨va, vc, rfl, vm⟩ : ∃ a c, v = .slice a t.flat.length c ∧ t.flat.length ≤ maxLen := by
    obtain ⟨a, c, h1, h2, _⟩ := hN
    exact ⟨a, c, h1, h2⟩
  clear hN ho ha
  go_enter Tryd.func8, Tryd.ntmps8
  go_wp2_with fail
  go_loopw [5, 6] (fun u v wr => ∃ k : Nat, k ≤ s.size + 1 ∧ v = .int .i64 (k : Int) ∧ Hid (AlR s.data.toList t all w.heap.size w k u wr)) (fun _ v _ => s.size + 1 - (intOf v).toNat)
  case atStart => exact ⟨0, by omega, rfl, H0⟩
  case round =>
    clear H0
    obtain ⟨k, hk, rfl, HA⟩ := hrel
    obtain ⟨L, r, hap, hO, hR, hLk, hB⟩ := HA.out
    obtain ⟨ua, uc, rfl⟩ := hO.form
    have hLl : L.length ≤ 401 := by rw [hap] at hall; simp at hall; omega
    by_cases hks : k ≤ s.size
    · have g1 : (k : Int) ≤ (s.size : Int) := by omega
      cases hR with
      | nil _ hn =>
        have C := hid (HF.out k none (by omega) hn wr hB)
        rw [show spV (spO none) = .agg #[.int .i64 0, .int .i64 0] from rfl, show Option.isSome (none : Option (Nat × Nat)) = false from rfl] at C
        have HY : Hid (∀ w', Below wr.heap.size wr w' → SpOwn w' w.heap.size (.slice ua L.length uc) all ∧ Below w.heap.size w w') := fun w' hb => ⟨by rw [hap, List.append_nil]; exact hO.kept hb, hB.trans (hb.mono hB.size)⟩
        clear HA hn hO hB hap
        go_wp2_with fail
        refine Calls.mono C.out ?_
        rintro e w1 ⟨rfl, hb1⟩
        have HY2 := hid (HY.out _ (hb1.alloc hb1.size (.cells #[.int .i64 0, .int .i64 0] 28)))
        clear hb1 C HY
        go_wp2
        go_ret
        exact ⟨_, rfl, HY2.out.1, HY2.out.2⟩
      | cons _ x r' hx hr =>
        obtain ⟨a, b⟩ := x
        have C := hid (HF.out k (some (a, b)) (by omega) hx wr hB)
        rw [show spV (spO (some (a, b))) = .agg #[.int .i64 (a : Int), .int .i64 (b : Int)] from rfl, show Option.isSome (some (a, b)) = true from rfl] at C
        have hnx := nextAt_lt hx
        have hle := hx.le
        have HO := hid hO
        have HR := hid hr
        have HB := hid hB
        have HAP : Hid (all = (L ++ [(a, b)]) ++ r') := by show _ = _; rw [hap]; simp
        clear HA hx hO hB hap hr
        go_wp2_with fail
        refine Calls.mono C.out ?_
        rintro e w1 ⟨rfl, hb1⟩
        have HO1 := hid (HO.out.kept hb1)
        have HB1 := hid (HB.out.trans (hb1.mono HB.out.size))
        clear hb1 C HO HB
        obtain ⟨o1, ho1⟩ : ∃ o1 : Obj, o1 = .cells #[.int .i64 (a : Int), .int .i64 (b : Int)] 28 := ⟨_, rfl⟩
        have HO2 := hid ((HO1.out.kept ((Below.refl _ _).alloc (Nat.le_refl _) o1)).kept ((Below.refl _ _).alloc (Nat.le_refl _) o1))
        have HB2 : Hid (Below w.heap.size w ((w1.alloc o1).alloc o1)) := (HB1.out.alloc HB1.out.size o1).alloc (by have := HB1.out.size; simp; omega) o1
        rw [ho1] at HO2 HB2
        clear ho1
        by_cases hab : (a : Int) = (b : Int)
        · have hwr : IntKind.i64.wrap ((b : Int) + 1) = (b : Int) + 1 := by rw [IntKind.wrap_i64]; omega
          have enx : nextAt (a, b) = b + 1 := by simp [nextAt]; omega
          rw [enx] at HR hnx
          have eab : ((a : Int) == (b : Int)) = true := by rw [beq_iff_eq]; exact hab
          have HAB := hid hab
          clear hab
          go_wp2_with (at_builtin; refine wpList_append_sp rfl _ _ rfl w.heap.size _ rfl L HO2.out (w1.heap.size + 1) 1 (a, b) rfl (by rw [World.cell?_alloc_at (w := w1.alloc _) _ _ (w1.heap.size + 1) 0 (by simp)]; rfl) (by rw [World.cell?_alloc_at (w := w1.alloc _) _ _ (w1.heap.size + 1) 1 (by simp)]; rfl) (by omega) HB2.out.size ?_; intro g cap w2 hown hgr _ _; obtain ⟨d0, d1⟩ := box_kept HO1.out _ _ _ _ hgr; have HBX := hid (HB2.out.trans (HO2.out.grown HB2.out.size hgr)); have HOX := hid hown; clear hown hgr)
          have HR2 : Hid (AlR s.data.toList t all w.heap.size w (b + 1) (.slice (some ⟨g, 0, none⟩) (L.length + 1) cap) w2) := ⟨L ++ [(a, b)], r', HAP.out, HOX.out, HR.out, by simp; omega, HBX.out⟩
          exact ⟨⟨b + 1, by omega, by go_num, HR2⟩, by simp [intOf]; omega⟩
        · have enx : nextAt (a, b) = b := by simp [nextAt]; omega
          rw [enx] at HR hnx
          have eab : ((a : Int) == (b : Int)) = false := by rw [beq_eq_false_iff_ne]; exact hab
          clear hab
          go_wp2_with (at_builtin; refine wpList_append_sp rfl _ _ rfl w.heap.size _ rfl L HO2.out (w1.heap.size + 1) 1 (a, b) rfl (by rw [World.cell?_alloc_at (w := w1.alloc _) _ _ (w1.heap.size + 1) 0 (by simp)]; rfl) (by rw [World.cell?_alloc_at (w := w1.alloc _) _ _ (w1.heap.size + 1) 1 (by simp)]; rfl) (by omega) HB2.out.size ?_; intro g cap w2 hown hgr _ _; obtain ⟨d0, d1⟩ := box_kept HO1.out _ _ _ _ hgr; have HBX := hid (HB2.out.trans (HO2.out.grown HB2.out.size hgr)); have HOX := hid hown; clear hown hgr)
          have HR2 : Hid (AlR s.data.toList t all w.heap.size w b (.slice (some ⟨g, 0, none⟩) (L.length + 1) cap) w2) := ⟨L ++ [(a, b)], r', HAP.out, HOX.out, HR.out, by simp; omega, HBX.out⟩
          exact ⟨⟨b, by omega, by go_num, HR2⟩, by simp [intOf]; omega⟩
    · have g1 : ¬ (k : Int) ≤ (s.size : Int) := by omega
      have HY : Hid (SpOwn wr w.heap.size (.slice ua L.length uc) all ∧ Below w.heap.size w wr) := by
        cases hR with
        | nil _ hn => exact ⟨by rw [hap, List.append_nil]; exact hO, hB⟩
        | cons _ x r' hx hr =>
          have := hx.le
          omega
      clear HA hO hB hap hR
      go_wp2
      go_ret
      exact ⟨_, rfl, HY.out.1, HY.out.2⟩
theorem allOf_any (t : Rx) (ht : t.Ok) (v : Value) (s : ByteArray) (hs : s.size ≤ 400) (all : List (Nat × Nat)) (ha : AllR s.data.toList t 0 all) (w : World) (hN : NsIn w v t.flat) (ho : ∀ n ∈ t.flat, (1 ≤ n.op ∧ n.op ≤ 9) ∧ n.c.ok) (hl : t.flat.length ≤ 60) :
    Calls Tryd.prog 8 #[v, .string s] w fun e w' => ∃ u, e = .returned u ∧ SpIn w' u all ∧ Below w.heap.size w w' := by
  have hall : all.length ≤ 401 := by
    have := ha.len
    have hlen : s.data.toList.length = s.size := by simp
    omega
  refine (allOf_own t ht v s hs all ha w hN ho hl).mono ?_
  rintro e w' ⟨u, rfl, h1, h2⟩
  exact ⟨u, rfl, h1.isIn (by unfold maxLen; omega), h2⟩
end Go.Proofs.YtphcncgdodhlbaaDoor
namespace Go.Proofs.YtphcncgdodhlbaaDoor
set_option linter.unusedSimpArgs false
set_option linter.unusedVariables false
set_option maxRecDepth 100000
open Go.RowKit
theorem growF_at {w w' : World} {b : Nat} (h : w.grownBy w' (some b)) {B : Nat} (hB : B ≤ b) (hs : B ≤ w.heap.size) : Below B w w' :=
  ⟨h.os, h.tape, h.output, h.size, fun k hk => h.block k (by omega) (by intro e; injection e with e; omega)⟩
set_option maxHeartbeats 1000000 in
theorem fbehind_any (x : Nat × Nat) (h1 : x.1 ≤ 400) (h2 : x.2 ≤ 400) (w : World) :
    Calls Tryd.prog 37 #[spV x] w fun e w' => e = .returned (.int .i64 (nextAt x : Int)) ∧ Below w.heap.size w w' := by
  obtain ⟨a, b⟩ := x
  have hb0 := (Below.refl w.heap.size w).alloc (Nat.le_refl _) (.cells #[.int .i64 (a : Int), .int .i64 (b : Int)] 28)
  simp only at h1 h2
  by_cases hab : (a : Int) = (b : Int)
  · have e1 : nextAt (a, b) = b + 1 := by simp [nextAt]; omega
    have hw : IntKind.i64.wrap ((b : Int) + 1) = (b : Int) + 1 := by rw [IntKind.wrap_i64]; omega
    have g1 : ((a : Int) == (b : Int)) = true := by rw [beq_iff_eq]; exact hab
    rw [e1, show ((b + 1 : Nat) : Int) = (b : Int) + 1 by omega]
    have HAB := hid hab
    clear hab e1
    go_enter Tryd.func37, Tryd.ntmps37
    go_wp2
    go_ret
    exact ⟨rfl, hb0⟩
  · have e1 : nextAt (a, b) = b := by simp [nextAt]; omega
    have g1 : ((a : Int) == (b : Int)) = false := by rw [beq_eq_false_iff_ne]; exact hab
    rw [e1]
    clear hab e1
    go_enter Tryd.func37, Tryd.ntmps37
    go_wp2
    go_ret
    exact ⟨rfl, hb0⟩
theorem SpOwn.kc {w w' : World} {B ab : Nat} {v : Value} {l : List (Nat × Nat)} (h : SpOwn w B v l) (hk : Kd ab w w') (hab : ab < B) : SpOwn w' B v l := by
  refine ⟨h.1, ?_⟩
  rcases h.2 with h0 | ⟨g, cap, cur, hv, hb, hg, hr⟩
  · exact Or.inl h0
  · exact Or.inr ⟨g, cap, cur, hv, hb, hk.same g _ hg rfl (by omega), hr⟩
theorem AuN.row {c : Ax} {w w' : World} {B : Nat} {v : Value} {l : List (Nat × Nat)} (h : AuN c w) (hO : SpOwn w B v l) (hB : c.b < B) (hg : w.grownBy w' v.ownBlock) : AuN c w' := by
  rcases hO.2 with ⟨hv, _⟩ | ⟨g, cap, cur, hv, hb, hh, _⟩
  · refine h.below ⟨hg.os, hg.tape, hg.output, hg.size, fun k hk => hg.block k hk (by rw [hv]; intro e; cases e)⟩
  · rw [hv] at hg
    exact h.box hh (by decide) (by decide) (by omega) hg
/-- Between two rounds: L is what was found till k, r is what is found behind it. -/
structure AfI (c : Ax) (t : Rx) (s : ByteArray) (all : List (Nat × Nat)) (w : World) (k : Nat) (u : Value) (L : List (Nat × Nat)) (r : List (Nat × Nat)) (wr : World) : Prop where
  parts : all = L ++ r
  own : SpOwn wr (w.heap.size + 1) u L
  rest : AllR s.data.toList t k r
  len : L.length ≤ k
  b : Below c.B w wr
  au : AuN c wr
  fin : wr.heap[w.heap.size]? = some (.cells #[c.u] 56 (0, 0))
  size : w.heap.size + 1 ≤ wr.heap.size
set_option maxHeartbeats 1000000 in
theorem fall_bad (c : Ax) (s : ByteArray) (w : World) (hs : s.size ≤ maxLen) (h4 : 400 < s.size) :
    Calls Tryd.prog 22 #[.agg #[c.u], .string s] w fun e w' => e = .returned (.tuple #[.slice none 0 0, .iface 23 (.int .i64 3)]) ∧ Below w.heap.size w w' := by
  have hp : plE s.size 0 = 3 := by unfold plE; rw [if_pos h4]
  have HC : Hid (∀ w', _) := fun w' => first_bad c s 0 w' hs (by rw [hp]; decide)
  have HI := hid is_full
  rw [hp, show errV 3 = .iface 23 (.int .i64 3) from rfl] at HC
  have g0 : (0 : Int) ≤ (s.size : Int) := by omega
  have hb0 := (Below.refl w.heap.size w).alloc (Nat.le_refl _) (.cells #[c.u] 56)
  have HB0 := hid hb0
  clear hs h4 hb0 hp
  go_enter Tryd.func22, Tryd.ntmps22
  go_wp2_with fail
  refine wp_loop_rounds 1 ?_
  rw [rounds_succ]
  go_wp2_with fail
  refine Calls.mono (HC.out _) ?_
  rintro e w1 ⟨rfl, hb⟩
  have HB1 := hid (HB0.out.trans (hb.mono HB0.out.size))
  clear hb HB0
  go_wp2_with fail
  refine Calls.mono (HI.out _) ?_
  rintro e w2 ⟨rfl, rfl⟩
  go_wp2
  go_ret2
  exact ⟨rfl, HB1.out.alloc HB1.out.size _⟩
set_option maxHeartbeats 8000000 in
theorem fall_ok (c : Ax) (hc : c.Good) (t : Rx) (ht : t.Ok) (hss : c.ss = t.prog) (ho : ∀ n ∈ t.flat, 1 ≤ n.op ∧ n.op ≤ 9) (s : ByteArray) (hs : s.size ≤ 400) (all : List (Nat × Nat)) (ha : AllR s.data.toList t 0 all) (w : World) (hT : Tab w) (h : AuN c w) :
    Calls Tryd.prog 22 #[.agg #[c.u], .string s] w fun e w' => ∃ u, e = .returned (.tuple #[u, .nilIface]) ∧ SpIn w' u all ∧ Below c.B w w' := by
  have hlen : s.data.toList.length = s.size := by simp
  have hsz := h.size
  have hall : all.length ≤ 401 := by
    have := ha.len
    omega
  have HC : Hid (∀ (k : Nat) r w', AuN c w' → Tab w' → k ≤ s.size → FndR s.data.toList t k r → _) := fun k r w' hA hT' hk hr => first_ok c hc t ht hss ho s hs k hk r hr w' hT' hA
  have HTB : Hid (∀ w', Below c.B w w' → Tab w') := fun w' hb j hj => (hb.cell (p := ⟨1, j, none⟩) hc.tab).trans (hT j hj)
  have HI : Hid (∀ (n : Int) w', (n = 0 ∨ n = 3 ∨ n = 4) → _) := fun n w' h => is_any n h w'
  have HN := hid fbehind_any
  have H0 : Hid (AfI c t s all w 0 (.slice none 0 0) [] all (w.alloc (.cells #[c.u] 56))) := by
    have hb1 : Below w.heap.size w (w.alloc (.cells #[c.u] 56)) := (Below.refl _ _).alloc (Nat.le_refl _) _
    exact ⟨rfl, SpOwn.nil _ _, ha, by simp, hb1.mono (by omega), h.below hb1, World.alloc_heap_new w _, by simp⟩
  clear hc hss h ha hT
  go_enter Tryd.func22, Tryd.ntmps22
  go_wp2_with fail
  go_loopw [6, 7] (fun u v wr => ∃ (k : Nat) (L r : List (Nat × Nat)), k ≤ s.size + 1 ∧ v = .int .i64 (k : Int) ∧ Hid (AfI c t s all w k u L r wr)) (fun _ v _ => s.size + 1 - (intOf v).toNat)
  case atStart => exact ⟨0, [], all, by omega, rfl, H0⟩
  case round =>
    clear H0
    obtain ⟨k, L, r, hk, rfl, HA⟩ := hrel
    obtain ⟨ua, uc, rfl⟩ := HA.out.own.form
    have hLl : L.length ≤ 401 := by have := HA.out.parts; rw [this] at hall; simp at hall; omega
    by_cases hks : k ≤ s.size
    · have g1 : (k : Int) ≤ (s.size : Int) := by omega
      have c0 := Lib.cell_of_heap HA.out.fin 0
      simp only [List.getElem?_toArray, List.getElem?_cons_zero, List.getElem?_cons_succ] at c0
      cases r with
      | nil =>
        have hn : FndR s.data.toList t k none := by
          have := HA.out.rest
          cases this
          assumption
        have C := hid (HC.out k none wr HA.out.au (HTB.out _ HA.out.b) hks hn)
        rw [show spV (fndX none) = .agg #[.int .i64 0, .int .i64 0] from rfl, show fndE none = 4 from rfl, show errV 4 = .iface 23 (.int .i64 4) from rfl] at C
        have CI := hid (fun w' => HI.out 4 w' (Or.inr (Or.inr rfl)))
        rw [show errV 4 = .iface 23 (.int .i64 4) from rfl, show ((4 : Int) == 4) = true from rfl] at CI
        go_wp2_with fail
        refine Calls.mono C.out ?_
        rintro e w1 ⟨rfl, hA1, hk1, hb1⟩
        have HY : Hid (∀ o, SpIn (w1.alloc o) (.slice ua L.length uc) all ∧ Below c.B w (w1.alloc o)) := fun o => by
          have hO1 := HA.out.own.kc hk1 (by omega)
          have hb2 := (Below.refl _ w1).alloc (Nat.le_refl _) o
          have hp := HA.out.parts
          rw [List.append_nil] at hp
          refine ⟨?_, (HA.out.b.trans hb1).alloc (by have := hA1.size; omega) o⟩
          rw [hp]
          exact (hO1.kept hb2).isIn (by unfold maxLen; omega)
        clear HA C hA1 hk1 hb1 c0
        go_wp2_with fail
        refine Calls.mono (CI.out _) ?_
        rintro e w2 ⟨rfl, rfl⟩
        go_wp2
        go_ret2
        exact ⟨_, rfl, (HY.out _).1, (HY.out _).2⟩
      | cons x r' =>
        obtain ⟨a, b⟩ := x
        obtain ⟨hx, hr⟩ : FndR s.data.toList t k (some (a, b)) ∧ AllR s.data.toList t (nextAt (a, b)) r' := by
          have := HA.out.rest
          cases this
          exact ⟨by assumption, by assumption⟩
        have C := hid (HC.out k (some (a, b)) wr HA.out.au (HTB.out _ HA.out.b) hks hx)
        rw [show spV (fndX (some (a, b))) = .agg #[.int .i64 (a : Int), .int .i64 (b : Int)] from rfl, show fndE (some (a, b)) = 0 from rfl, show errV 0 = .nilIface from rfl] at C
        have CI := hid (fun w' => HI.out 0 w' (Or.inl rfl))
        rw [show errV 0 = .nilIface from rfl, show ((0 : Int) == 4) = false from rfl] at CI
        have hnx := nextAt_lt hx
        have hle := hx.le
        have CN := hid (fun w' => HN.out (a, b) (by simp only; omega) (by simp only; omega) w')
        rw [show spV (a, b) = .agg #[.int .i64 (a : Int), .int .i64 (b : Int)] from rfl] at CN
        have HR := hid hr
        clear hr hx
        go_wp2_with fail
        refine Calls.mono C.out ?_
        rintro e w1 ⟨rfl, hA1, hk1, hb1⟩
        have HO1 := hid (HA.out.own.kc hk1 (by omega))
        have HA1 := hid hA1
        have HF1 := hid (hk1.same _ _ HA.out.fin rfl (by omega))
        have HB1 := hid (HA.out.b.trans hb1)
        have HS1 : Hid (w.heap.size + 1 ≤ w1.heap.size) := Nat.le_trans HA.out.size hb1.size
        have HL1 := hid HA.out.len
        have HAP : Hid (all = (L ++ [(a, b)]) ++ r') := by show _ = _; rw [HA.out.parts]; simp
        clear hb1 hk1 hA1 C HA c0
        go_wp2_with fail
        refine Calls.mono (CI.out _) ?_
        rintro e w2 ⟨rfl, rfl⟩
        obtain ⟨o1, ho1⟩ : ∃ o1 : Obj, o1 = .cells #[.int .i64 (a : Int), .int .i64 (b : Int)] 28 := ⟨_, rfl⟩
        have hbw : Below w1.heap.size w1 ((w1.alloc o1).alloc o1) := ((Below.refl _ _).alloc (Nat.le_refl _) o1).alloc (by simp) o1
        have HO2 := hid ((HO1.out.kept ((Below.refl _ _).alloc (Nat.le_refl _) o1)).kept ((Below.refl _ _).alloc (Nat.le_refl _) o1))
        have HB2 := hid (HB1.out.trans (hbw.mono (by have := HA1.out.size; omega)))
        have HA2 := hid (HA1.out.below hbw)
        have HF2 := hid ((hbw.block _ (heap_lt HF1.out)).trans HF1.out)
        have HS2 : Hid (w.heap.size + 1 ≤ ((w1.alloc o1).alloc o1).heap.size) := Nat.le_trans HS1.out hbw.size
        rw [ho1] at HO2 HB2 HA2 HF2 HS2
        clear ho1 hbw HB1 HA1 HF1
        go_wp2_with (at_builtin; refine wpList_append_sp rfl _ _ rfl (w.heap.size + 1) _ rfl L HO2.out (w1.heap.size + 1) 1 (a, b) rfl (by rw [World.cell?_alloc_at (w := w1.alloc _) _ _ (w1.heap.size + 1) 0 (by simp)]; rfl) (by rw [World.cell?_alloc_at (w := w1.alloc _) _ _ (w1.heap.size + 1) 1 (by simp)]; rfl) (by omega) HS2.out ?_; intro g cap w3 hown hgr _ _; obtain ⟨d0, d1⟩ := box_kept HO1.out _ _ _ _ hgr; have HBX := hid (HB2.out.trans ((HO2.out.grown HS2.out hgr).mono (by omega))); have HAX := hid (HA2.out.row HO2.out (by omega) hgr); have HFX := hid ((hgr.block _ (by have := HS2.out; omega) (fun e => by have := (HO2.out.row _ e.symm).1; omega)).trans HF2.out); have HSX := hid (Nat.le_trans HS2.out hgr.size); have HOX := hid hown; clear hown hgr)
        refine Calls.mono (CN.out _) ?_
        rintro e w4 ⟨rfl, hb4⟩
        have HR2 : Hid (AfI c t s all w (nextAt (a, b)) (.slice (some ⟨g, 0, none⟩) (L.length + 1) cap) (L ++ [(a, b)]) r' w4) := {
          parts := HAP.out
          own := HOX.out.kept hb4
          rest := HR.out
          len := by have := HL1.out; simp; omega
          b := HBX.out.trans (hb4.mono (by have := HAX.out.size; omega))
          au := HAX.out.below hb4
          fin := (hb4.block _ (heap_lt HFX.out)).trans HFX.out
          size := Nat.le_trans HSX.out hb4.size }
        clear hb4 HOX HBX HAX HFX HSX HA2 HB2 HF2 HS2 HO1 HO2 d0 d1 HAP HR HL1 HS1 CI CN HC HTB HI HN
        go_wp2
        exact ⟨⟨nextAt (a, b), L ++ [(a, b)], r', by omega, rfl, HR2⟩, by simp [intOf]; omega⟩
    · have g1 : ¬ (k : Int) ≤ (s.size : Int) := by omega
      have HY : Hid (SpIn wr (.slice ua L.length uc) all ∧ Below c.B w wr) := by
        have hA := HA.out
        cases r with
        | nil => exact ⟨by rw [hA.parts, List.append_nil]; exact hA.own.isIn (by unfold maxLen; omega), hA.b⟩
        | cons x r' =>
          have hR := hA.rest
          cases hR with
          | cons _ x r' hx hr =>
            have := hx.le
            omega
      clear HA
      go_wp2
      go_ret2
      exact ⟨_, rfl, HY.out.1, HY.out.2⟩
theorem meanE_pl {ns : List Nd} (hf : faultL ns = 0) (n : Nat) (i : Int) : meanE ns n i = plE n i := by
  unfold meanE meanF plE
  rw [if_pos hf]
  by_cases h4 : 400 < n
  · rw [if_pos h4, if_neg (by decide), if_pos h4]
  · rw [if_neg h4, if_pos rfl, if_neg h4]
theorem meanE_bad {ns : List Nd} (hf : ¬ faultL ns = 0) (n : Nat) (i : Int) : meanE ns n i = faultL ns := by
  unfold meanE meanF
  rw [if_neg hf, if_neg hf]
end Go.Proofs.YtphcncgdodhlbaaDoor
namespace Go.Proofs.YtphcncgdodhlbaaDoor
set_option linter.unusedSimpArgs false
set_option linter.unusedVariables false
set_option maxRecDepth 100000
open Go.RowKit
set_option maxHeartbeats 1000000 in
theorem all_find_bad (ns : List Nd) (v : Value) (s : ByteArray) (w : World) (h : NsIn w v ns) (hf : ¬ faultL ns = 0) :
    Calls Tryd.prog 12 #[v, .string s] w fun e w' => e = .returned (.tuple #[.slice none 0 0, errV (faultL ns)]) ∧ Below w.heap.size w w' := by
  have HC := hid (finderOf_bad ns v w h hf)
  rw [show errV (faultL ns) = .iface 23 (.int .i64 (faultL ns)) by unfold errV; rw [if_neg hf]] at HC ⊢
  obtain ⟨va, vc, rfl, vm⟩ := nsIn_form h
  clear h hf
  go_enter Tryd.func12, Tryd.ntmps12
  go_wp2_with fail
  refine Calls.mono HC.out ?_
  rintro e w1 ⟨rfl, hb⟩
  have hb' := hid (hb.alloc hb.size (.cells #[.pointer none] 56))
  clear hb HC
  go_wp2
  go_ret2
  exact ⟨rfl, hb'.out⟩
set_option maxHeartbeats 1000000 in
theorem all_by (t : Rx) (ht : t.Ok) (v : Value) (s : ByteArray) (w : World) (h : NsIn w v t.flat) (hf : faultL t.flat = 0) (R : Value → Value → World → Prop)
    (HF : ∀ c w', c.ss = t.prog → w.heap.size ≤ c.B → Below w.heap.size w w' → AuN c w' → Calls Tryd.prog 22 #[.agg #[c.u], .string s] w' fun e w'' => ∃ u E, e = .returned (.tuple #[u, E]) ∧ R u E w'' ∧ Below c.B w' w'') :
    Calls Tryd.prog 12 #[v, .string s] w fun e w' => ∃ u E, e = .returned (.tuple #[u, E]) ∧ R u E w' ∧ Below w.heap.size w w' := by
  have HC := hid (finderOf_ok t ht v w h hf)
  have HF' := hid HF
  obtain ⟨va, vc, rfl, vm⟩ := nsIn_form h
  clear h hf HF
  go_enter Tryd.func12, Tryd.ntmps12
  go_wp2_with fail
  refine Calls.mono HC.out ?_
  rintro e w1 ⟨c, hss, hcB, rfl, hb, hA⟩
  have B1 := hid (hb.alloc hb.size (.cells #[c.u] 56))
  have CF := hid (HF'.out c _ hss hcB B1.out (hA.below ((Below.refl _ _).alloc (Nat.le_refl _) _)))
  clear hb HC hA hss HF'
  go_wp2_with fail
  refine Calls.mono CF.out ?_
  rintro e w2 ⟨u, E, rfl, hR, hb⟩
  have HR := hid hR
  have B2 := hid (B1.out.trans (hb.mono hcB))
  clear hb CF B1 hcB hR
  go_wp2
  go_ret2
  exact ⟨u, E, rfl, HR.out, B2.out⟩
theorem findL : FindL Tab where
  bad := fun ns v s w hN hw hs hne => by
    by_cases hf : faultL ns = 0
    · have h4 : 400 < s.size := by
        rcases Nat.lt_or_ge 400 s.size with h | h
        · exact h
        · exact absurd ((meanF_zero _ _).2 ⟨hf, h⟩) hne
      have e3 : meanF ns s.size = 3 := by unfold meanF; rw [if_pos hf, if_pos h4]
      rw [e3]
      obtain ⟨t, ht, rfl⟩ := tree_of ns ((faultL_zero ns).1 hf).2.2
      refine (all_by t ht v s w hN hf (fun u E _ => u = .slice none 0 0 ∧ E = errV 3) (fun c w' hss hB hb hA => ?_)).mono ?_
      · refine (fall_bad c s w' hs h4).mono ?_
        rintro e w'' ⟨rfl, hb'⟩
        exact ⟨_, _, rfl, ⟨rfl, rfl⟩, hb'.mono (by have := hA.size; omega)⟩
      · rintro e w' ⟨u, E, rfl, ⟨rfl, rfl⟩, hb⟩
        exact ⟨_, rfl, hb, spIn_nil _⟩
    · have e3 : meanF ns s.size = faultL ns := by unfold meanF; rw [if_neg hf]
      rw [e3]
      refine (all_find_bad ns v s w hN hf).mono ?_
      rintro e w' ⟨rfl, hb⟩
      exact ⟨_, rfl, hb, spIn_nil _⟩
  all := fun t v s l w hT ht hN hw hz hl => by
    obtain ⟨hf, h4⟩ := (meanF_zero _ _).1 hz
    refine (all_by t ht v s w hN hf (fun u E w' => E = .nilIface ∧ SpIn w' u l) (fun c w' hss hB hb hA => ?_)).mono ?_
    · refine (fall_ok c (goodA_of t hss hw hf hT hB) t ht hss (fun n hn => (((faultL_zero _).1 hf).2.1 n hn).1) s h4 l hl w' (lasts_tab _ _ hT hb) hA).mono ?_
      rintro e w'' ⟨u, rfl, hI, hb'⟩
      exact ⟨_, _, rfl, ⟨rfl, hI⟩, hb'⟩
    · rintro e w' ⟨u, E, rfl, ⟨rfl, hI⟩, hb⟩
      exact ⟨_, rfl, hb, hI⟩
end Go.Proofs.YtphcncgdodhlbaaDoor
namespace Go.Proofs.YtphcncgdodhlbaaDoor
set_option linter.unusedSimpArgs false
set_option linter.unusedVariables false
set_option maxRecDepth 100000
open Go.RowKit
set_option maxHeartbeats 1000000 in
theorem find_bad (ns : List Nd) (v : Value) (s : ByteArray) (i : Int) (w : World) (h : NsIn w v ns) (hf : ¬ faultL ns = 0) :
    Calls Tryd.prog 10 #[v, .string s, .int .i64 i] w fun e w' => e = .returned (.tuple #[spV (0, 0), errV (faultL ns)]) ∧ Below w.heap.size w w' := by
  have HC : Hid (∀ w', Below w.heap.size w w' → _) := fun w' hb => finderOf_bad ns v w' (h.below hb) hf
  rw [show errV (faultL ns) = .iface 23 (.int .i64 (faultL ns)) by unfold errV; rw [if_neg hf]] at HC ⊢
  have HB0 : Hid (∀ o, Below w.heap.size w (w.alloc o)) := fun o => (Below.refl _ _).alloc (Nat.le_refl _) o
  obtain ⟨va, vc, rfl, vm⟩ := nsIn_form h
  clear h hf
  go_enter Tryd.func10, Tryd.ntmps10
  go_wp2_with fail
  refine Calls.mono (HC.out _ (HB0.out _)) ?_
  rintro e w1 ⟨rfl, hb⟩
  have hb' := hb.alloc hb.size (.cells #[.pointer none] 56)
  have ho := (hb'.block w.heap.size (by simp)).trans (World.alloc_heap_new w (.cells #[.int .i64 0, .int .i64 0] 28))
  have B1 := hid ((HB0.out _).trans (hb'.mono (HB0.out _).size))
  have d0 := Lib.cell_of_heap ho 0
  have d1 := Lib.cell_of_heap ho 1
  have f0 := Lib.frozen_of_heap ho 0
  have f1 := Lib.frozen_of_heap ho 1
  simp only [List.getElem?_toArray, List.getElem?_cons_zero, List.getElem?_cons_succ] at d0 d1
  obtain ⟨r0, r1⟩ := two_set (w1.alloc (.cells #[.pointer none] 56)) w.heap.size (.int .i64 0) (.int .i64 0) _ _ d0 d1
  have HX := hid (B1.out.trans (growF_at (two_grown (w1.alloc (.cells #[.pointer none] 56)) w.heap.size (.int .i64 0) (.int .i64 0)) (Nat.le_refl _) B1.out.size))
  clear hb hb' HC HB0 ho
  go_wp2
  exact bodyPost_ret (v := .tuple #[.agg #[.int .i64 0, .int .i64 0], .iface 23 (.int .i64 (faultL ns))]) (by simp [results, Tryd.results10, go_sem, *]) rfl ⟨rfl, HX.out⟩
set_option maxHeartbeats 1000000 in
theorem find_by (t : Rx) (ht : t.Ok) (v : Value) (s : ByteArray) (i : Int) (w : World) (h : NsIn w v t.flat) (hf : faultL t.flat = 0) (X Y : Int) (E : Value)
    (HF : ∀ c w', c.ss = t.prog → w.heap.size ≤ c.B → Below w.heap.size w w' → AuN c w' → Calls Tryd.prog 20 #[.agg #[c.u], .string s, .int .i64 i] w' fun e w'' => e = .returned (.tuple #[.agg #[.int .i64 X, .int .i64 Y], E]) ∧ Below c.B w' w'') :
    Calls Tryd.prog 10 #[v, .string s, .int .i64 i] w fun e w' => e = .returned (.tuple #[.agg #[.int .i64 X, .int .i64 Y], E]) ∧ Below w.heap.size w w' := by
  have HC : Hid (∀ w', Below w.heap.size w w' → _) := fun w' hb => finderOf_ok t ht v w' (h.below hb) hf
  have HF' := hid HF
  have HB0 : Hid (∀ o, Below w.heap.size w (w.alloc o)) := fun o => (Below.refl _ _).alloc (Nat.le_refl _) o
  obtain ⟨va, vc, rfl, vm⟩ := nsIn_form h
  clear h hf HF
  go_enter Tryd.func10, Tryd.ntmps10
  go_wp2_with fail
  refine Calls.mono (HC.out _ (HB0.out _)) ?_
  rintro e w1 ⟨c, hss, hcB, rfl, hb, hA⟩
  have hb' := hb.alloc hb.size (.cells #[c.u] 56)
  have hcB' : w.heap.size + 1 ≤ c.B := by simpa using hcB
  have HO := hid ((hb'.block w.heap.size (by simp)).trans (World.alloc_heap_new w (.cells #[.int .i64 0, .int .i64 0] 28)))
  have B1 := hid ((HB0.out _).trans (hb'.mono (HB0.out _).size))
  have CF := hid (HF'.out c _ hss (by omega) B1.out (hA.below ((Below.refl _ _).alloc (Nat.le_refl _) _)))
  clear hb hb' HC HB0 hA hcB hss HF'
  go_wp2_with fail
  refine Calls.mono CF.out ?_
  rintro e w2 ⟨rfl, hb⟩
  have ho := (hb.block w.heap.size (by omega)).trans HO.out
  have B2 := hid (B1.out.trans (hb.mono (by omega)))
  have d0 := Lib.cell_of_heap ho 0
  have d1 := Lib.cell_of_heap ho 1
  have f0 := Lib.frozen_of_heap ho 0
  have f1 := Lib.frozen_of_heap ho 1
  simp only [List.getElem?_toArray, List.getElem?_cons_zero, List.getElem?_cons_succ] at d0 d1
  obtain ⟨r0, r1⟩ := two_set w2 w.heap.size (.int .i64 X) (.int .i64 Y) _ _ d0 d1
  have HX := hid (B2.out.trans (growF_at (two_grown w2 w.heap.size (.int .i64 X) (.int .i64 Y)) (Nat.le_refl _) B2.out.size))
  clear hb ho CF HO B1 B2 hcB'
  go_wp2
  exact bodyPost_ret (v := .tuple #[.agg #[.int .i64 X, .int .i64 Y], E]) (by simp [results, Tryd.results10, go_sem, *]) rfl ⟨rfl, HX.out⟩
theorem findC : FindC Tab where
  bad := fun ns v s i w hN hw hs hne => by
    by_cases hf : faultL ns = 0
    · rw [meanE_pl hf] at hne ⊢
      obtain ⟨t, ht, rfl⟩ := tree_of ns ((faultL_zero ns).1 hf).2.2
      refine find_by t ht v s i w hN hf 0 0 _ (fun c w' hss hB hb hA => ?_)
      refine (first_bad c s i w' hs hne).mono ?_
      rintro e w'' ⟨rfl, hb'⟩
      exact ⟨rfl, hb'.mono (by have := hA.size; omega)⟩
    · rw [meanE_bad hf]
      exact find_bad ns v s i w hN hf
  find := fun t v s i r w hT ht hN hw hz hr => by
    obtain ⟨hf, h4, h0, hi⟩ := (meanE_zero _ _ _).1 hz
    refine find_by t ht v s i w hN hf _ _ _ (fun c w' hss hB hb hA => ?_)
    refine (first_ok c (goodA_of t hss hw hf hT hB) t ht hss (fun n hn => (((faultL_zero _).1 hf).2.1 n hn).1) s h4 i (by omega) r hr w' (lasts_tab _ _ hT hb) hA).mono ?_
    rintro e w'' ⟨rfl, _, _, hb'⟩
    exact ⟨rfl, hb'⟩
end Go.Proofs.YtphcncgdodhlbaaDoor

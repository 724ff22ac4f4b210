/- What the document's own functions answer: RunOf. (Made by wip/tools/genro1.py and by hand.) What the document's own functions answer: Count. What the document's own Count answers, as a class is none. -/
import Derived.Test.YtgnmlnfddcnkbaaDoorY05
import Derived.Test.YtgnmlnfddcnkbaaDoorY04
import Derived.Deep.CutRange
import Derived.Deep.CutBlock
import Derived.Deep.DeepCutAuto
import Derived.Deep.RegionHeld3
import Derived.BigRegion
import Derived.BigQuiet
import Derived.Lib.QuietBelow
import Derived.Lib.BufferOwn
import Derived.Test.YtgnmlnfddcnkbaaDoorY02
namespace Go.Proofs.YtgnmlnfddcnkbaaDoor
set_option linter.unusedSimpArgs false
set_option linter.unusedVariables false
set_option maxRecDepth 100000
open Go.RowKit
theorem mkM (M : Nat) (h0 : 0 < M) (hM : M ≤ 1000000) (x : Int) (hx : x = (M : Int)) (u : World) : (Instr.makeSlice 84 (.int .i64 x) (.int .i64 x)).run Tryd.prog u = .ok (.slice (some ⟨u.heap.size, 0, none⟩) M M) (u.alloc (.cells (rowB (M - 1) fun _ => false) 4)) := by
  have h := mkB (M - 1) (by omega) u
  rw [show (((M - 1 : Nat) : Int) + 1) = x from by omega, show M - 1 + 1 = M from by omega] at h
  exact h
theorem nx_unf {ss : List St} {S : List UInt8} {x K A : Nat} {n : St} (hK : x / (S.length + 1) = K) (hA : x % (S.length + 1) = A) (hn : ss[K]? = some n) :
    (nx ss S x = if n.op = 1 then (match S[A]? with | some c => if n.c.has c.toNat = true then [n.x.toNat * (S.length + 1) + A + 1] else [] | none => []) else if n.op = 2 then [n.x.toNat * (S.length + 1) + A, n.y.toNat * (S.length + 1) + A] else if n.op = 3 then (if A = 0 then [n.x.toNat * (S.length + 1) + A] else []) else if n.op = 4 then (if A = S.length then [n.x.toNat * (S.length + 1) + A] else []) else []) ∧ dn ss S x = decide (n.op = 5) := by
  unfold nx dn
  rw [hK, hA, hn]
  exact ⟨rfl, rfl⟩
theorem nx_two (ss : List St) (S : List UInt8) (x : Nat) : (nx ss S x).length ≤ 2 := by
  unfold nx
  repeat' split
  all_goals simp
theorem IsQ.neB {w : World} {B g N : Nat} {v : Value} {l : List Nat} {A : Nat → Bool} (h : IsQ w B v l) (hr : BsRow w g N A) : v.ownBlock ≠ some g := by
  obtain ⟨g', off, cap, cur, rfl, _, hgc, _⟩ := h
  intro e
  have : g' = g := by simpa [Value.ownBlock] using e
  subst this
  rw [show w.heap[g']? = _ from hr] at hgc
  injection hgc with hgc
  injection hgc with _ h2 _
  exact absurd h2 (by decide)
theorem IsOwn.base {w : World} {B : Nat} {v : Value} {l : List Nat} (h : IsOwn w B v l) (g : Nat) (e : v.ownBlock = some g) : B ≤ g ∧ g < w.heap.size := by
  rcases h.2 with ⟨hv, _⟩ | ⟨b, cap, cur, hv, hb, hh, _⟩
  · rw [hv] at e; cases e
  · rw [hv] at e
    injection e with e
    simp only at e
    subst e
    exact ⟨hb, (Array.getElem?_eq_some_iff.1 hh).1⟩
theorem IsOwn.keptR {w w' : World} {B : Nat} {v : Value} {l : List Nat} {row : Option Nat} (h : IsOwn w B v l) (hg : w.grownBy w' row) (hne : v.ownBlock = none ∨ v.ownBlock ≠ row) : IsOwn w' B v l := World.ownsRow.kept h hg hne
theorem BsRow.kept {w w' : World} {g N : Nat} {A : Nat → Bool} {row : Option Nat} (h : BsRow w g N A) (hg : w.grownBy w' row) (hne : some g ≠ row) : BsRow w' g N A := (hg.block g h.lt hne).trans h
theorem RunR.uniq {ss : List St} {S : List UInt8} {i : Nat} {l l' : List Nat} (h : RunR ss S i l) (h' : RunR ss S i l') : l = l' := rise_eq l l' h.1 h'.1 (fun j => (h.2 j).trans (h'.2 j).symm)
/-- Between two rounds of the search: k tells how many there are at most. -/
def RoI (ss : List St) (s : ByteArray) (i M : Nat) (w : World) (gs ge : Nat) (k : Nat) (q : Value) (wr : World) : Prop :=
  ∃ (Q : List Nat) (seen en : Nat → Bool), k = Q.length + cntF seen M ∧ k ≤ M ∧ IsQ wr w.heap.size q Q ∧ BsRow wr gs (M - 1) seen ∧ BsRow wr ge s.size en ∧ Bfs ss s.data.toList i seen Q en ∧ Below w.heap.size w wr
theorem cntF_le (A : Nat → Bool) : ∀ n, cntF A n ≤ n
  | 0 => by simp [cntF]
  | n + 1 => by
    have := cntF_le A n
    unfold cntF
    split <;> omega
set_option maxHeartbeats 40000000 in
theorem runOf_at (ss : List St) (hf : stepsF ss = 0) (hok : SsOk ss) (b off cap : Nat) (s : ByteArray) (hs : s.size ≤ 400) (i : Nat) (hi : i ≤ s.size) (w : World) (hlt : b < w.heap.size) (hN : SsAt w b off ss) (l : List Nat) (hl : RunR ss s.data.toList i l) :
    Calls Tryd.prog 16 #[.slice (some ⟨b, off, none⟩) ss.length cap, .string s, .int .i64 (i : Int)] w fun e w' => ∃ u, e = .returned u ∧ IsIn w' u l ∧ Below w.heap.size w w' := by
  obtain ⟨h200, hpos, hst⟩ := stepsF_zero hf
  obtain ⟨M, hM⟩ : ∃ M, M = ss.length * (s.size + 1) := ⟨_, rfl⟩
  have hM1 : M ≤ 80200 := by
    rw [hM]
    exact Nat.le_trans (Nat.mul_le_mul h200 (show s.size + 1 ≤ 401 by omega)) (by omega)
  have hM0 : s.size + 1 ≤ M := by rw [hM]; exact Nat.le_mul_of_pos_left _ hpos
  have hMx : (ss.length : Int) * ((s.size : Int) + 1) = (M : Int) := by rw [hM]; simp
  have hmk := mkM M (by omega) (by omega) (M : Int) rfl
  have hmk2 := mkM (s.size + 1) (by omega) (by omega) ((s.size : Int) + 1) (by simp)
  have hwr : IntKind.i64.wrap ((ss.length : Int) * ((s.size : Int) + 1)) = (ss.length : Int) * ((s.size : Int) + 1) := by rw [hMx, IntKind.wrap_i64]; omega
  have i0 : (0 : Int) ≤ (i : Int) := by omega
  have i1 : (i : Int) < (M : Int) := by omega
  have HM := hid hM
  have HFA := hid hf
  have HST := hid hst
  have HRL := hid hl
  have HSS := hid hN
  have HOK := hid hok
  clear hM hf hst hl hN hok
  have hrow0 : ∀ o, BsRow ((w.alloc (.cells (rowB (M - 1) fun _ => false) 4)).alloc o) w.heap.size (M - 1) (fun _ => false) := fun o => (BsRow.new' w (M - 1) fun _ => false).below ((Below.refl _ _).alloc (Nat.le_refl _) _)
  have c1 : ∀ o, ((w.alloc (.cells (rowB (M - 1) fun _ => false) 4)).alloc o).cell? ⟨w.heap.size, i, none⟩ = some (.bool false) := fun o => by
    have := (hrow0 o).at i (by omega)
    rwa [Nat.zero_add] at this
  have z1 : ∀ o, ((w.alloc (.cells (rowB (M - 1) fun _ => false) 4)).alloc o).frozen? ⟨w.heap.size, i, none⟩ = false := fun o => (hrow0 o).free i
  clear hrow0
  go_enter Tryd.func16, Tryd.ntmps16
  go_wp2_with fail
  rw [rowB_set]
  obtain ⟨gs, hgs⟩ : ∃ gs, gs = w.heap.size := ⟨_, rfl⟩
  obtain ⟨ge, hge⟩ : ∃ ge, ge = w.heap.size + 1 + 1 := ⟨_, rfl⟩
  have H0 : Hid (RoI ss s i M w gs ge (1 + cntF (upd (fun _ => false) i true) M) (.slice (some ⟨w.heap.size + 1, 0, none⟩) 1 1) (((w.alloc (.cells (rowB (M - 1) (upd (fun _ => false) i true)) 4)).alloc (.cells #[.int .i64 (i : Int)] 3)).alloc (.cells (rowB s.size fun _ => false) 4))) := by
    have hc := cntF_upd (A := fun _ => false) (i := i) rfl M (by omega)
    have hc2 := cntF_le (fun _ => false) M
    refine ⟨[i], upd (fun _ => false) i true, fun _ => false, rfl, by omega, ?_, ?_, ?_, Bfs.init ss s.data.toList i, ?_⟩
    · have := (IsQ.new (w.alloc (.cells (rowB (M - 1) (upd (fun _ => false) i true)) 4)) w.heap.size (by simp) i)
      have h2 := this.kept (row := none) (w' := (((w.alloc (.cells (rowB (M - 1) (upd (fun _ => false) i true)) 4)).alloc (.cells #[.int .i64 (i : Int)] 3)).alloc (.cells (rowB s.size fun _ => false) 4))) (by
        have hb : Below ((w.alloc (.cells (rowB (M - 1) (upd (fun _ => false) i true)) 4)).alloc (.cells #[.int .i64 (i : Int)] 3)).heap.size ((w.alloc (.cells (rowB (M - 1) (upd (fun _ => false) i true)) 4)).alloc (.cells #[.int .i64 (i : Int)] 3)) _ := (Below.refl _ _).alloc (Nat.le_refl _) (.cells (rowB s.size fun _ => false) 4)
        exact ⟨hb.os, hb.tape, hb.output, hb.size, fun k hk _ => hb.block k hk⟩) (by simp [Value.ownBlock])
      simpa using h2
    · rw [hgs]
      exact ((BsRow.new' w (M - 1) _).below ((Below.refl _ _).alloc (Nat.le_refl _) _)).below ((Below.refl _ _).alloc (Nat.le_refl _) _)
    · rw [hge]
      have := BsRow.new' ((w.alloc (.cells (rowB (M - 1) (upd (fun _ => false) i true)) 4)).alloc (.cells #[.int .i64 (i : Int)] 3)) s.size (fun _ => false)
      simpa using this
    · exact (((Below.refl _ _).alloc (Nat.le_refl _) _).alloc (by simp) _).alloc (by simp; omega) _
  rw [← hge, ← hgs]
  have HG := hid hgs
  have HE := hid hge
  clear hgs hge c1 z1 hmk hmk2
  go_loopg [9] (1 + cntF (upd (fun _ => false) i true) M) (fun k q wr => RoI ss s i M w gs ge k q wr)
  case atStart => exact HG.out ▸ H0.out
  case round =>
    clear H0
    obtain ⟨Q, seen, en, hk, hkM, hQ, hrow, hrow2, hbf, hB⟩ := hrel
    cases Q with
    | nil =>
      obtain ⟨qg, qo, qc, rfl, hql, hqm, hqc⟩ := hQ.cell
      have HLL : Hid (l = (List.range (s.size + 1)).filter en) := by
        have := hbf.list
        rw [sl] at this
        exact HRL.out.uniq this
      have HE0 := hid hrow2
      have HB0 := hid hB
      obtain ⟨R, HRR⟩ : ∃ R, Hid (R = wr.heap.size) := ⟨_, Eq.refl _⟩
      have HGE : Hid (ge < R) := by rw [HRR.out]; exact hrow2.lt
      have HRW : Hid (w.heap.size ≤ R) := by rw [HRR.out]; exact hB.size
      have HRZ : Hid (R ≤ wr.heap.size) := Nat.le_of_eq HRR.out
      clear hQ hrow hrow2 hbf hB hqc hk hkM
      simp only [List.length_nil]
      go_wp2_with fail
      go_loopg [17, 18] (s.size + 1) (fun k o v wz => ∃ (j : Nat), v = .int .i64 (j : Int) ∧ j ≤ s.size + 1 ∧ k = s.size + 1 - j ∧ Hid (IsOwn wz R o ((List.range j).filter en)) ∧ Hid (BsRow wz ge s.size en) ∧ Hid (Below w.heap.size w wz) ∧ Hid (R ≤ wz.heap.size))
      case atStart => exact ⟨0, rfl, by omega, rfl, IsOwn.nil _ _, HE0, HB0, HRZ⟩
      case round =>
        obtain ⟨j, rfl, hj, hgk, HO, HE3, HB3, HS3⟩ := hrel
        by_cases hjl : j < s.size + 1
        · have e0 := HE3.out.at j (by omega)
          rw [Nat.zero_add] at e0
          have j0 : (0 : Int) ≤ (j : Int) := by omega
          have j1 : (j : Int) < (s.size : Int) + 1 := by omega
          cases hen : en j
          · rw [hen] at e0
            have HO2 : Hid (IsOwn wr R u17 ((List.range (j + 1)).filter en)) := by
              rw [List.range_succ, List.filter_append]
              simp only [List.filter_cons, hen, List.filter_nil, Bool.false_eq_true, if_false, List.append_nil]
              exact HO.out
            clear hen
            go_wp2
            go_roundg (s.size + 1 - (j + 1))
            case measure => omega
            case rel => exact ⟨j + 1, by go_num, by omega, rfl, HO2, HE3, HB3, HS3⟩
          · rw [hen] at e0
            have HEJ := hid hen
            obtain ⟨W, HWE⟩ : ∃ W, Hid (W = wr.alloc (.cells #[.int .i64 (j : Int)] 3)) := ⟨_, Eq.refl _⟩
            have HBz : Hid (Below wr.heap.size wr W) := by rw [HWE.out]; exact (Below.refl _ _).alloc (Nat.le_refl _) _
            have HCW : Hid (W.cell? ⟨wr.heap.size, 0, none⟩ = some (.int .i64 (j : Int))) := by
              show _ = _
              rw [HWE.out, World.cell?_alloc_at (w := wr) _ _ wr.heap.size 0 rfl]
              rfl
            have HOW := hid (HO.out.kept HBz.out)
            have HLN : Hid (((List.range j).filter en).length ≤ 1000000000) := by
              have := List.length_filter_le en (List.range j)
              rw [List.length_range] at this
              show _ ≤ _
              omega
            clear hen
            go_wp2_with (at_builtin; rw [← HWE.out]; refine wpList_append_is rfl _ _ rfl R u17 rfl ((List.range j).filter en) HOW.out wr.heap.size 1 j rfl HCW.out HLN.out (Nat.le_trans HS3.out HBz.out.size) ?_; intro g5 c5 w5 hq5 hg5 hgb hgl)
            have HO5 : Hid (IsOwn w5 R (.slice (some ⟨g5, 0, none⟩) (((List.range j).filter en).length + 1) c5) ((List.range (j + 1)).filter en)) := by
              rw [List.range_succ, List.filter_append]
              simp only [List.filter_cons, HEJ.out, List.filter_nil, if_true]
              exact hq5
            have HE5 : Hid (BsRow w5 ge s.size en) := (HE3.out.below HBz.out).kept hg5 (fun e => by
              have := (HOW.out.base ge e.symm).1
              have := HGE.out
              omega)
            have HB5 : Hid (Below w.heap.size w w5) := ((HB3.out.trans (HBz.out.mono HB3.out.size))).grown hg5 (Nat.le_trans HB3.out.size HBz.out.size) (fun k hk => by
              have := (HOW.out.base k hk).1
              have := HRW.out
              omega)
            have HS5 : Hid (R ≤ w5.heap.size) := Nat.le_trans HS3.out (Nat.le_trans HBz.out.size hg5.size)
            clear hq5 hg5 hgb hgl
            go_wp2
            go_roundg (s.size + 1 - (j + 1))
            case measure => omega
            case rel => exact ⟨j + 1, by go_num, by omega, rfl, HO5, HE5, HB5, HS5⟩
        · have hje : j = s.size + 1 := by omega
          have hg1 : ¬ (j : Int) < (s.size : Int) + 1 := by omega
          have HI : Hid (IsIn wr u17 l) := by
            rw [HLL.out, ← hje]
            refine HO.out.isIn ?_
            have := List.length_filter_le en (List.range j)
            rw [List.length_range] at this
            unfold maxLen
            omega
          go_wp2
          go_ret
          exact ⟨_, rfl, HI.out, HB3.out⟩
    | cons x Q =>
      obtain ⟨qg, qo, qc, rfl, hql, hqm, hqc⟩ := hQ.cell
      have q0 := hqc 0 x rfl
      rw [Nat.add_zero] at q0
      simp only [List.length_cons] at hql hQ ⊢
      obtain ⟨qo2, qc2, hsl, hQ2⟩ := slice_tail hQ
      have hxl : x < M := by rw [HM.out, ← sl s]; exact rch_lt HFA.out (by rw [sl]; exact hi) (hbf.rch x (hbf.que x (by simp)))
      obtain ⟨K, hK⟩ : ∃ K, K = x / (s.size + 1) := ⟨_, rfl⟩
      obtain ⟨A, hA⟩ : ∃ A, A = x % (s.size + 1) := ⟨_, rfl⟩
      have hKl : K < ss.length := by rw [hK]; exact Nat.div_lt_of_lt_mul (by rw [Nat.mul_comm, ← HM.out]; exact hxl)
      have hAl : A < s.size + 1 := by rw [hA]; exact Nat.mod_lt _ (by omega)
      have hdv : (x : Int) / ((s.size : Int) + 1) = (K : Int) := by rw [hK]; simp
      have hmd : (x : Int) % ((s.size : Int) + 1) = (A : Int) := by rw [hA]; simp
      obtain ⟨n, hn⟩ : ∃ n, ss[K]? = some n := ⟨ss[K], List.getElem?_eq_getElem hKl⟩
      obtain ⟨c0, c1, c2, c3, c4, c5, c6⟩ := (HSS.out.below hB hlt) K n hn
      have k0 : (0 : Int) ≤ (K : Int) := by omega
      have k1 : (K : Int) < (ss.length : Int) := by omega
      have HKA := hid (And.intro hK hA)
      have HNK := hid hn
      have HQ := hid hQ2
      have HBF := hid hbf
      have HROW := hid hrow
      have HROW2 := hid hrow2
      have HBW := hid hB
      have hqb : (0 : Int) < (Q.length : Int) + 1 := by omega
      clear hK hA hn hQ hQ2 hbf hrow hrow2 hB hqc
      go_upto_block 2 with fail
      rw [hmd]
      obtain ⟨nxl, HNX⟩ : ∃ nxl, Hid (nxl = nx ss s.data.toList x) := ⟨_, Eq.refl _⟩
      obtain ⟨en', HEN⟩ : ∃ en', Hid (en' = if dn ss s.data.toList x = true then setB en (x % (s.data.toList.length + 1)) else en) := ⟨_, Eq.refl _⟩
      have hUN := nx_unf (S := s.data.toList) (K := K) (A := A) (by rw [sl]; exact HKA.out.1.symm) (by rw [sl]; exact HKA.out.2.symm) HNK.out
      rw [sl] at hUN
      have HUN := hid hUN
      have hqlt : qg < wr.heap.size := by
        obtain ⟨g', e1, _, e3⟩ := HQ.out.block
        have : qg = g' := by simpa [Value.ownBlock] using e1
        omega
      obtain ⟨ob, HOB⟩ : ∃ ob : Obj, Hid (ob = .cells #[.int .i64 n.op, .int .u64 n.c.a, .int .u64 n.c.b, .int .u64 n.c.c, .int .u64 n.c.d, .int .i64 n.x, .int .i64 n.y] 52) := ⟨_, Eq.refl _⟩
      rw [← HOB.out]
      have HCL : Hid (∀ w1, Below (wr.alloc ob).heap.size (wr.alloc ob) w1 → w1.cell? ⟨wr.heap.size, 0, none⟩ = some (.int .i64 n.op) ∧ w1.cell? ⟨wr.heap.size, 1, none⟩ = some (.int .u64 n.c.a) ∧ w1.cell? ⟨wr.heap.size, 2, none⟩ = some (.int .u64 n.c.b) ∧ w1.cell? ⟨wr.heap.size, 3, none⟩ = some (.int .u64 n.c.c) ∧ w1.cell? ⟨wr.heap.size, 4, none⟩ = some (.int .u64 n.c.d) ∧ w1.cell? ⟨wr.heap.size, 5, none⟩ = some (.int .i64 n.x) ∧ w1.cell? ⟨wr.heap.size, 6, none⟩ = some (.int .i64 n.y)) := by
        intro w1 h
        refine ⟨?_, ?_, ?_, ?_, ?_, ?_, ?_⟩ <;> (refine (h.cell (p := ⟨wr.heap.size, _, none⟩) (by simp)).trans ?_; rw [HOB.out]; simp)
      clear hUN c0 c1 c2 c3 c4 c5 c6 q0 hsl hmd hdv
      obtain ⟨wx, hwx⟩ : ∃ wx, wx = wr.alloc ob := ⟨_, rfl⟩
      rw [← hwx] at HCL ⊢
      have HW0 : Hid (Below wr.heap.size wr wx ∧ wx.heap.size = wr.heap.size + 1) := by rw [hwx]; exact ⟨(Below.refl _ _).alloc (Nat.le_refl _) _, by simp⟩
      clear hwx HOB
      obtain ⟨R, HRR⟩ : ∃ R, Hid (R = wr.heap.size) := ⟨_, Eq.refl _⟩
      go_cut [15] (fun v wz => Hid (IsOwn wz R v nxl) ∧ Hid (IsQ wz w.heap.size (.slice (some ⟨qg, qo2, none⟩) Q.length qc2) Q) ∧ Hid (BsRow wz gs (M - 1) seen) ∧ Hid (BsRow wz ge s.size en') ∧ Hid (Below w.heap.size w wz) ∧ Hid (R ≤ wz.heap.size))
      case first =>
        have HREL : Hid (∀ wz, Below wr.heap.size wr wz → Hid (IsQ wz w.heap.size (.slice (some ⟨qg, qo2, none⟩) Q.length qc2) Q) ∧ Hid (BsRow wz gs (M - 1) seen) ∧ Hid (BsRow wz ge s.size en) ∧ Hid (Below w.heap.size w wz) ∧ Hid (R ≤ wz.heap.size)) := fun wz hb =>
          ⟨HQ.out.kept (row := none) ⟨hb.os, hb.tape, hb.output, hb.size, fun k hk _ => hb.block k hk⟩ (by simp [Value.ownBlock]), HROW.out.below hb, HROW2.out.below hb, HBW.out.trans (hb.mono HBW.out.size), by rw [HRR.out]; exact hb.size⟩
        have HWX := hid HW0.out.1
        obtain ⟨⟨o1, o5⟩, hx0⟩ : (1 ≤ n.op ∧ n.op ≤ 5) ∧ (n.op ≠ 5 → 0 ≤ n.x ∧ n.x < (ss.length : Int)) ∧ (n.op = 2 → 0 ≤ n.y ∧ n.y < (ss.length : Int)) := by
          have := (HST.out n (List.mem_of_getElem? HNK.out)).1
          unfold stRange at this
          omega
        have hop : n.op = 1 ∨ n.op = 2 ∨ n.op = 3 ∨ n.op = 4 ∨ n.op = 5 := by omega
        obtain ⟨PX, hPX⟩ : ∃ PX : Nat, PX = n.x.toNat * (s.size + 1) := ⟨_, rfl⟩
        have HPX : Hid (n.op ≠ 5 → n.x * ((s.size : Int) + 1) = (PX : Int) ∧ PX + s.size + 1 ≤ M) := by
          intro h5
          have h1 := hx0.1 h5
          have h2 : n.x = ((n.x.toNat : Nat) : Int) := by omega
          refine ⟨by rw [hPX]; rw [h2]; simp, ?_⟩
          have := spot_lt (N := ss.length) (n := s.size + 1) (x := n.x.toNat) (a := s.size) (by omega) (by omega)
          rw [← HM.out, ← hPX] at this
          omega
        have HPE := hid hPX
        obtain ⟨PY, hPY⟩ : ∃ PY : Nat, PY = n.y.toNat * (s.size + 1) := ⟨_, rfl⟩
        have HPY : Hid (n.op = 2 → n.y * ((s.size : Int) + 1) = (PY : Int) ∧ PY + s.size + 1 ≤ M) := by
          intro h2'
          have h1 := hx0.2 h2'
          have h2 : n.y = ((n.y.toNat : Nat) : Int) := by omega
          refine ⟨by rw [hPY]; rw [h2]; simp, ?_⟩
          have := spot_lt (N := ss.length) (n := s.size + 1) (x := n.y.toNat) (a := s.size) (by omega) (by omega)
          rw [← HM.out, ← hPY] at this
          omega
        have HPF := hid hPY
        clear hPX hPY hx0
        obtain ⟨d0, d1, d2, d3, d4, d5, d6⟩ := HCL.out wx (Below.refl _ _)
        rcases hop with hop | hop | hop | hop | hop
        · have hd : dn ss s.data.toList x = false := by rw [HUN.out.2, hop]; rfl
          have HE2 : Hid (en' = en) := by show _ = _; rw [HEN.out, if_neg (by rw [hd]; simp)]
          obtain ⟨hpx, hpb⟩ := HPX.out (by omega)
          clear hd
          have g1 : (n.op == 1) = true := by simp [hop]
          by_cases hAs : A < s.size
          · obtain ⟨c, hc⟩ : ∃ c, s.data.toList[A]? = some c := ⟨s.data.toList[A]'(by rw [sl]; exact hAs), List.getElem?_eq_getElem _⟩
            have hsi := str_idx' s A c hc
            have a0 : (0 : Int) ≤ (A : Int) := by omega
            have a1 : (A : Int) < (s.size : Int) := by omega
            have HIn := hid (in_any n.c (HOK.out n (List.mem_of_getElem? HNK.out)) c.toNat c.toNat_lt)
            have hcc : IntKind.i64.wrap (c.toNat : Int) = (c.toNat : Int) := by have := c.toNat_lt; rw [IntKind.wrap_i64]; omega
            have HXX : Hid (nxl = if n.c.has c.toNat = true then [PX + A + 1] else []) := by show _ = _; rw [HNX.out, HUN.out.1, if_pos hop, hc, HPE.out]
            have HB3 : Hid (∀ w3, Below wx.heap.size wx.drew w3 → Below wr.heap.size wr w3 ∧ Below wx.heap.size wx w3) := fun w3 hb => ⟨HWX.out.drew.trans (hb.mono HWX.out.size), (Below.refl _ _).drew.trans hb⟩
            have r1 := cell_regrown d1
            have r2 := cell_regrown d2
            have r3 := cell_regrown d3
            have r4 := cell_regrown d4
            have a2 : decide ((A : Int) < (s.size : Int)) = true := by simp only [a1, decide_true]
            clear hc hop d0 d1 d2 d3 d4 d5 d6
            go_wp2_with fail
            refine wp_region_quiet_below (by kernel_rfl) (by kernel_rfl) ?_
            repeat (go_big_quiet_step (first
              | (go_at_call 36; exact Calls.regrown_of (HIn.out _))))
            refine wpQuiet_nil ?_
            intro _ hw'
            obtain ⟨⟨dq, osq⟩, hw''⟩ := hw'
            have hbz := below_regrown wx dq osq
            subst hw''
            generalize Go.Sort.grow (redrawn wx dq) osq = wz at *
            clear r1 r2 r3 r4
            obtain ⟨d0, d1, d2, d3, d4, d5, d6⟩ := HCL.out wz hbz
            have HWZ := hid (HWX.out.trans (hbz.mono HWX.out.size))
            clear hbz
            cases hh : n.c.has c.toNat
            · have HX2 : Hid (nxl = []) := by show _ = _; rw [HXX.out, hh]; rfl
              clear hh
              go_wp2
              go_meet
              rw [HE2.out, HX2.out]
              exact ⟨IsOwn.nil _ _, HREL.out _ HWZ.out⟩
            · have HX2 : Hid (nxl = [PX + A + 1]) := by show _ = _; rw [HXX.out, hh]; rfl
              obtain ⟨W, HWE⟩ : ∃ W, Hid (W = wz.alloc (.cells #[.int .i64 ((PX : Int) + (A : Int) + 1)] 3)) := ⟨_, Eq.refl _⟩
              have HBW2 : Hid (Below wr.heap.size wr W) := by rw [HWE.out]; exact HWZ.out.alloc HWZ.out.size _
              have HCW : Hid (W.cell? ⟨wz.heap.size, 0, none⟩ = some (.int .i64 ((PX + A + 1 : Nat) : Int))) := by
                show _ = _
                rw [HWE.out, World.cell?_alloc_at (w := wz) _ _ wz.heap.size 0 rfl]
                simp
              clear hh
              go_wp2_with (at_builtin; rw [← HWE.out]; refine wpList_append_is rfl _ _ rfl R (.slice none 0 0) rfl [] (IsOwn.nil _ _) wz.heap.size 1 (PX + A + 1) rfl HCW.out (by simp) (by rw [HRR.out]; exact HBW2.out.size) ?_; intro g5 c5 w5 hq5 hg5 _ _)
              have HN5 := hid hq5
              have HB5 : Hid (Below wr.heap.size wr w5) := HBW2.out.trans ⟨hg5.os, hg5.tape, hg5.output, hg5.size, fun k hk => hg5.block k (Nat.lt_of_lt_of_le hk HBW2.out.size) (by simp [Value.ownBlock])⟩
              clear hq5 hg5
              go_wp2
              go_meet
              rw [HE2.out, HX2.out]
              exact ⟨HN5, HREL.out _ HB5.out⟩
          · have HX2 : Hid (nxl = []) := by
              show _ = _
              rw [HNX.out, HUN.out.1, if_pos hop, List.getElem?_eq_none (by rw [sl]; omega)]
            have a1 : ¬ (A : Int) < (s.size : Int) := by omega
            clear hop
            go_wp2_with fail
            go_big_region
            all_goals go_wp2
            all_goals go_meet
            all_goals rw [HE2.out, HX2.out]
            all_goals exact ⟨IsOwn.nil _ _, HREL.out _ HWX.out.drew⟩
        · have hd : dn ss s.data.toList x = false := by rw [HUN.out.2, hop]; rfl
          have HE2 : Hid (en' = en) := by show _ = _; rw [HEN.out, if_neg (by rw [hd]; simp)]
          obtain ⟨hpx, hpb⟩ := HPX.out (by omega)
          clear hd
          have g1 : (n.op == 1) = false := by simp [hop]
          have g2 : (n.op == 2) = true := by simp [hop]
          obtain ⟨hpy, hpyb⟩ := HPY.out hop
          have HX2 : Hid (nxl = [PX + A, PY + A]) := by show _ = _; rw [HNX.out, HUN.out.1, if_neg (by omega), if_pos hop, HPE.out, HPF.out]
          obtain ⟨W, HWE⟩ : ∃ W, Hid (W = wx.alloc (.cells #[.int .i64 ((PX : Int) + (A : Int)), .int .i64 ((PY : Int) + (A : Int))] 3)) := ⟨_, Eq.refl _⟩
          have HBW2 : Hid (Below wr.heap.size wr W) := by rw [HWE.out]; exact HWX.out.alloc HWX.out.size _
          have HCW : Hid (W.cell? ⟨wx.heap.size, 0, none⟩ = some (.int .i64 ((PX + A : Nat) : Int)) ∧ W.cell? ⟨wx.heap.size, 1, none⟩ = some (.int .i64 ((PY + A : Nat) : Int))) := by
            constructor
            · rw [HWE.out, World.cell?_alloc_at (w := wx) _ _ wx.heap.size 0 rfl]
              simp
            · rw [HWE.out, World.cell?_alloc_at (w := wx) _ _ wx.heap.size 1 rfl]
              simp
          clear hop
          go_wp2_with (at_builtin; rw [← HWE.out]; refine wpList_append_is2 rfl _ _ rfl R (.slice none 0 0) rfl [] (IsOwn.nil _ _) wx.heap.size 2 (PX + A) (PY + A) rfl HCW.out.1 HCW.out.2 (by simp) (by rw [HRR.out]; exact HBW2.out.size) ?_; intro g5 c5 w5 hq5 hg5 _ _)
          have HN5 := hid hq5
          have HB5 : Hid (Below wr.heap.size wr w5) := HBW2.out.trans ⟨hg5.os, hg5.tape, hg5.output, hg5.size, fun k hk => hg5.block k (Nat.lt_of_lt_of_le hk HBW2.out.size) (by simp [Value.ownBlock])⟩
          clear hq5 hg5
          go_wp2
          go_meet
          rw [HE2.out, HX2.out]
          exact ⟨HN5, HREL.out _ HB5.out⟩
        · have hd : dn ss s.data.toList x = false := by rw [HUN.out.2, hop]; rfl
          have HE2 : Hid (en' = en) := by show _ = _; rw [HEN.out, if_neg (by rw [hd]; simp)]
          obtain ⟨hpx, hpb⟩ := HPX.out (by omega)
          clear hd
          have g1 : (n.op == 1) = false := by simp [hop]
          have g2 : (n.op == 2) = false := by simp [hop]
          have g3 : (n.op == 3) = true := by simp [hop]
          by_cases hA0 : A = 0
          · have HX2 : Hid (nxl = [PX + A]) := by show _ = _; rw [HNX.out, HUN.out.1, if_neg (by omega), if_neg (by omega), if_pos hop, if_pos hA0, HPE.out]
            have ga : ((A : Int) == 0) = true := by simp [hA0]
            obtain ⟨W, HWE⟩ : ∃ W, Hid (W = wx.alloc (.cells #[.int .i64 ((PX : Int) + (A : Int))] 3)) := ⟨_, Eq.refl _⟩
            have HBW2 : Hid (Below wr.heap.size wr W) := by rw [HWE.out]; exact HWX.out.alloc HWX.out.size _
            have HCW : Hid (W.cell? ⟨wx.heap.size, 0, none⟩ = some (.int .i64 ((PX + A : Nat) : Int))) := by
              show _ = _
              rw [HWE.out, World.cell?_alloc_at (w := wx) _ _ wx.heap.size 0 rfl]
              simp
            clear hA0 hop
            go_wp2_with (at_builtin; rw [← HWE.out]; refine wpList_append_is rfl _ _ rfl R (.slice none 0 0) rfl [] (IsOwn.nil _ _) wx.heap.size 1 (PX + A) rfl HCW.out (by simp) (by rw [HRR.out]; exact HBW2.out.size) ?_; intro g5 c5 w5 hq5 hg5 _ _)
            have HN5 := hid hq5
            have HB5 : Hid (Below wr.heap.size wr w5) := HBW2.out.trans ⟨hg5.os, hg5.tape, hg5.output, hg5.size, fun k hk => hg5.block k (Nat.lt_of_lt_of_le hk HBW2.out.size) (by simp [Value.ownBlock])⟩
            clear hq5 hg5
            go_wp2
            go_meet
            rw [HE2.out, HX2.out]
            exact ⟨HN5, HREL.out _ HB5.out⟩
          · have HX2 : Hid (nxl = []) := by show _ = _; rw [HNX.out, HUN.out.1, if_neg (by omega), if_neg (by omega), if_pos hop, if_neg hA0]
            have ga : ((A : Int) == 0) = false := by simp [hA0]
            clear hA0 hop
            go_wp2
            go_meet
            rw [HE2.out, HX2.out]
            exact ⟨IsOwn.nil _ _, HREL.out _ HWX.out⟩
        · have hd : dn ss s.data.toList x = false := by rw [HUN.out.2, hop]; rfl
          have HE2 : Hid (en' = en) := by show _ = _; rw [HEN.out, if_neg (by rw [hd]; simp)]
          obtain ⟨hpx, hpb⟩ := HPX.out (by omega)
          clear hd
          have g1 : (n.op == 1) = false := by simp [hop]
          have g2 : (n.op == 2) = false := by simp [hop]
          have g3 : (n.op == 3) = false := by simp [hop]
          have g4 : (n.op == 4) = true := by simp [hop]
          by_cases hA0 : A = s.size
          · have HX2 : Hid (nxl = [PX + A]) := by show _ = _; rw [HNX.out, HUN.out.1, if_neg (by omega), if_neg (by omega), if_neg (by omega), if_pos hop, if_pos hA0, HPE.out]
            have ga : ((A : Int) == (s.size : Int)) = true := by simp [hA0]
            obtain ⟨W, HWE⟩ : ∃ W, Hid (W = wx.alloc (.cells #[.int .i64 ((PX : Int) + (A : Int))] 3)) := ⟨_, Eq.refl _⟩
            have HBW2 : Hid (Below wr.heap.size wr W) := by rw [HWE.out]; exact HWX.out.alloc HWX.out.size _
            have HCW : Hid (W.cell? ⟨wx.heap.size, 0, none⟩ = some (.int .i64 ((PX + A : Nat) : Int))) := by
              show _ = _
              rw [HWE.out, World.cell?_alloc_at (w := wx) _ _ wx.heap.size 0 rfl]
              simp
            clear hA0 hop
            go_wp2_with (at_builtin; rw [← HWE.out]; refine wpList_append_is rfl _ _ rfl R (.slice none 0 0) rfl [] (IsOwn.nil _ _) wx.heap.size 1 (PX + A) rfl HCW.out (by simp) (by rw [HRR.out]; exact HBW2.out.size) ?_; intro g5 c5 w5 hq5 hg5 _ _)
            have HN5 := hid hq5
            have HB5 : Hid (Below wr.heap.size wr w5) := HBW2.out.trans ⟨hg5.os, hg5.tape, hg5.output, hg5.size, fun k hk => hg5.block k (Nat.lt_of_lt_of_le hk HBW2.out.size) (by simp [Value.ownBlock])⟩
            clear hq5 hg5
            go_wp2
            go_meet
            rw [HE2.out, HX2.out]
            exact ⟨HN5, HREL.out _ HB5.out⟩
          · have HX2 : Hid (nxl = []) := by show _ = _; rw [HNX.out, HUN.out.1, if_neg (by omega), if_neg (by omega), if_neg (by omega), if_pos hop, if_neg hA0]
            have ga : ((A : Int) == (s.size : Int)) = false := by rw [beq_eq_false_iff_ne]; omega
            clear hA0 hop
            go_wp2
            go_meet
            rw [HE2.out, HX2.out]
            exact ⟨IsOwn.nil _ _, HREL.out _ HWX.out⟩
        · have hd : dn ss s.data.toList x = true := by rw [HUN.out.2, hop]; rfl
          have HE2 : Hid (en' = upd en A true) := by show _ = _; rw [HEN.out, if_pos hd, sl, ← HKA.out.2]; rfl
          have HX2 : Hid (nxl = []) := by show _ = _; rw [HNX.out, HUN.out.1, if_neg (by omega), if_neg (by omega), if_neg (by omega), if_neg (by omega)]
          have g1 : (n.op == 1) = false := by simp [hop]
          have g2 : (n.op == 2) = false := by simp [hop]
          have g3 : (n.op == 3) = false := by simp [hop]
          have g4 : (n.op == 4) = false := by simp [hop]
          have g5 : (n.op == 5) = true := by simp [hop]
          obtain ⟨r1, r2, r3, r4, r5⟩ := HREL.out wx HWX.out
          have e0 := r3.out.at A (by omega)
          rw [Nat.zero_add] at e0
          have ez := r3.out.free A
          have a0 : (0 : Int) ≤ (A : Int) := by omega
          have a1 : (A : Int) < (s.size : Int) + 1 := by omega
          have hgr : wx.grownBy (wx.setCell ⟨ge, A, none⟩ (.bool true)) (some ge) := Lib.grownBy_setB (World.grownBy.refl wx _) A _
          have HGR := hid hgr
          clear hd hop hgr
          go_wp2
          go_meet
          rw [HE2.out, HX2.out]
          exact ⟨IsOwn.nil _ _, r1.out.kept HGR.out (r1.out.neB r3.out), r2.out.kept HGR.out (by intro e; injection e with e; have := HG.out; have := HE.out; omega), r3.out.set A true, r4.out.setCell (p := ⟨ge, A, none⟩) (by have := HE.out; show w.heap.size ≤ ge; omega) _, by show R ≤ (wx.setCell ⟨ge, A, none⟩ (.bool true)).heap.size; rw [World.size_setCell]; exact r5.out⟩
      case rest =>
        obtain ⟨HN, HQz, HRz, HEz, HBz, HSz⟩ := hcut
        obtain ⟨na, nc, hu⟩ := HN.out.form
        subst hu
        have HPOP := hid (HBF.out.pop en' HEN.out)
        rw [← HNX.out] at HPOP
        have HNL : Hid (∀ y ∈ nxl, y < M) := fun y hy => by
          rw [HM.out, ← sl s]
          exact nx_lt s.data.toList HFA.out (q := x) (by rw [← HNX.out]; exact hy)
        have hnl : nxl.length ≤ 2 := by
          rw [HNX.out]
          exact nx_two _ _ _
        have HIB : Hid (∀ g, (Value.slice (some ⟨qg, qo2, none⟩) Q.length qc2).ownBlock = some g → (Value.slice na nxl.length nc).ownBlock ≠ some g) := by
          intro g e e2
          have h1 : qg = g := by simpa [Value.ownBlock] using e
          have := HN.out.base g e2
          have := HRR.out
          omega
        have HK := hid hk
        have HROWL : Hid (gs < R) := by have := HROW.out.lt; have := HRR.out; show gs < R; omega
        clear hk HNK HKA HUN HCL HW0 HROW HROW2 HBW HQ HBF HEN HNX
        go_wp2_with fail
        go_loopg [9, 16] nxl.length (fun k q v wz => ∃ (j : Nat) (Q' : List Nat) (seen' : Nat → Bool), v = .int .i64 (j : Int) ∧ j ≤ nxl.length ∧ k = nxl.length - j ∧ Hid (IsQ wz w.heap.size q Q') ∧ Hid (∀ g, q.ownBlock = some g → (Value.slice na nxl.length nc).ownBlock ≠ some g) ∧ Hid (IsOwn wz R (.slice na nxl.length nc) nxl) ∧ Hid (BsRow wz gs (M - 1) seen') ∧ Hid (BsRow wz ge s.size en') ∧ Hid (BfsM ss s.data.toList i seen' Q' en' x (nxl.drop j)) ∧ Hid (Below w.heap.size w wz) ∧ Hid (R ≤ wz.heap.size) ∧ Hid (Q'.length + cntF seen' M = Q.length + cntF seen M))
        case atStart => exact ⟨0, Q, seen, rfl, by omega, rfl, HQz, HIB, HN, HRz, HEz, HPOP, HBz, HSz, Eq.refl _⟩
        case round =>
          obtain ⟨j, Q', seen', rfl, hj, hgk, HQ3, HI3, HN3, HR3, HE3, HM3, HB3, HS3, HC3⟩ := hrel
          by_cases hjl : j < nxl.length
          · obtain ⟨y, hy⟩ : ∃ y, nxl[j]? = some y := ⟨nxl[j], List.getElem?_eq_getElem hjl⟩
            have hyM : y < M := HNL.out y (List.mem_of_getElem? hy)
            have hdr : nxl.drop j = y :: nxl.drop (j + 1) := by
              rw [List.drop_eq_getElem_cons hjl]
              rw [List.getElem?_eq_getElem hjl] at hy
              rw [Option.some.inj hy]
            rw [hdr] at HM3
            obtain ⟨a', cap', e1, _, hor⟩ := HN3.out.isIn (by unfold maxLen; omega)
            rcases hor with hor | ⟨nb, no, e2, hnb, hIA⟩
            · rw [hor] at hjl
              simp at hjl
            injection e1 with e1 e1b e1c
            subst e1
            subst e1c
            subst e2
            clear e1b
            have n0 := hIA j y hy
            have s0 := HR3.out.at y (by omega)
            rw [Nat.zero_add] at s0
            have z0 := HR3.out.free y
            have j0 : (0 : Int) ≤ (j : Int) := by omega
            have j1 : (j : Int) < (nxl.length : Int) := by omega
            have y0 : (0 : Int) ≤ (y : Int) := by omega
            have y1 : (y : Int) < (M : Int) := by omega
            have hne1 := HQ3.out.neB HR3.out
            have hnn : nb ≠ gs := by
              have := (HN3.out.base nb rfl).1
              have := HR3.out.lt
              have := HROWL.out
              omega
            clear hIA hdr
            cases hsy : seen' y
            · rw [hsy] at s0
              have HSY := hid hsy
              clear hsy
              obtain ⟨W, HWE⟩ : ∃ W, Hid (W = (wr.setCell ⟨gs, y, none⟩ (.bool true)).alloc (.cells #[.int .i64 (y : Int)] 3)) := ⟨_, Eq.refl _⟩
              have hgr1 : wr.grownBy (wr.setCell ⟨gs, y, none⟩ (.bool true)) (some gs) := Lib.grownBy_setB (World.grownBy.refl wr _) y _
              have hgr2 : (wr.setCell ⟨gs, y, none⟩ (.bool true)).grownBy W none := by
                rw [HWE.out]
                have hb : Below (wr.setCell ⟨gs, y, none⟩ (.bool true)).heap.size (wr.setCell ⟨gs, y, none⟩ (.bool true)) ((wr.setCell ⟨gs, y, none⟩ (.bool true)).alloc (.cells #[.int .i64 (y : Int)] 3)) := (Below.refl _ _).alloc (Nat.le_refl _) _
                exact ⟨hb.os, hb.tape, hb.output, hb.size, fun k hk _ => hb.block k hk⟩
              have hWs : W.heap.size = wr.heap.size + 1 := by rw [HWE.out]; simp
              have HQW : Hid (IsQ W w.heap.size u9 Q') := (HQ3.out.kept hgr1 hne1).kept hgr2 (by obtain ⟨g', e, _⟩ := HQ3.out.block; rw [e]; simp)
              have HRW : Hid (BsRow W gs (M - 1) (upd seen' y true)) := (HR3.out.set y true).kept hgr2 (by simp)
              have HEW : Hid (BsRow W ge s.size en') := (HE3.out.kept hgr1 (by intro e; injection e with e; have := HG.out; have := HE.out; omega)).kept hgr2 (by simp)
              have HNW : Hid (IsOwn W R (.slice (some ⟨nb, no, none⟩) nxl.length nc) nxl) := (HN3.out.keptR hgr1 (Or.inr (by intro e; injection e with e; exact hnn e))).keptR hgr2 (Or.inr (by simp [Value.ownBlock]))
              have HBW2 : Hid (Below w.heap.size w W) := by
                have h1 : Below w.heap.size w (wr.setCell ⟨gs, y, none⟩ (.bool true)) := HB3.out.setCell (p := ⟨gs, y, none⟩) (Nat.le_of_eq HG.out.symm) _
                rw [HWE.out]
                exact h1.alloc h1.size _
              have HCW : Hid (W.cell? ⟨wr.heap.size, 0, none⟩ = some (.int .i64 (y : Int))) := by
                show _ = _
                rw [HWE.out, World.cell?_alloc_at (w := wr.setCell ⟨gs, y, none⟩ (.bool true)) _ _ wr.heap.size 0 (by simp)]
                rfl
              have HQL : Hid (Q'.length ≤ 1000000) := by
                have := HC3.out
                have := HK.out
                simp only [List.length_cons] at this
                show Q'.length ≤ 1000000
                omega
              have HM4 := hid HM3.out.add
              have HC4 : Hid ((Q' ++ [y]).length + cntF (upd seen' y true) M = Q.length + cntF seen M) := by
                have h1 := cntF_upd HSY.out M hyM
                have := HC3.out
                show _ = _
                rw [List.length_append]
                simp only [List.length_cons, List.length_nil]
                omega
              clear hgr1 hgr2
              go_wp2_with (at_builtin; rw [← HWE.out]; refine wpList_append_q rfl _ _ rfl w.heap.size u9 rfl Q' HQW.out wr.heap.size 1 y rfl HCW.out HQL.out HBW2.out.size ?_; intro g5 o5 c5 w5 hq5 hg5 hgo5)
              have HQ5 := hid hq5
              have HR5 := hid (HRW.out.kept hg5 (fun e => HQW.out.neB HRW.out e.symm))
              have HE5 := hid (HEW.out.kept hg5 (fun e => HQW.out.neB HEW.out e.symm))
              have HN5 : Hid (IsOwn w5 R (.slice (some ⟨nb, no, none⟩) nxl.length nc) nxl) := by
                refine HNW.out.keptR hg5 (Or.inr ?_)
                intro e
                obtain ⟨g', e', _⟩ := HQ3.out.block
                rw [e'] at e
                exact HI3.out g' e' e
              have HB5 : Hid (Below w.heap.size w w5) := HBW2.out.grown hg5 HBW2.out.size (fun k hk => by
                obtain ⟨g', e', hb', _⟩ := HQW.out.block
                rw [e'] at hk
                injection hk with hk
                omega)
              have HS5 : Hid (R ≤ w5.heap.size) := by
                have := hg5.size
                have := HS3.out
                show R ≤ w5.heap.size
                omega
              have HI5 : Hid (∀ g, (Value.slice (some ⟨g5, o5, none⟩) (Q'.length + 1) c5).ownBlock = some g → (Value.slice (some ⟨nb, no, none⟩) nxl.length nc).ownBlock ≠ some g) := by
                intro g e e2
                have h1 : g5 = g := by simpa [Value.ownBlock] using e
                have h2 : nb = g := by simpa [Value.ownBlock] using e2
                rcases hgo5 with hgo5 | hgo5
                · exact HI3.out g5 hgo5 (by rw [h1]; exact e2)
                · omega
              have hqle : (Q' ++ [y]).length = Q'.length + 1 := by simp
              clear hq5 hg5 hgo5 HQW HRW HEW HNW HBW2 HCW HWE
              go_wp2
              go_roundg (nxl.length - (j + 1))
              case measure => omega
              case rel => exact ⟨j + 1, Q' ++ [y], upd seen' y true, by go_num, by omega, rfl, HQ5, HI5, HN5, HR5, HE5, HM4, HB5, HS5, HC4⟩
            · rw [hsy] at s0
              have HM4 := hid (HM3.out.skip hsy)
              clear hsy
              go_wp2
              go_roundg (nxl.length - (j + 1))
              case measure => omega
              case rel => exact ⟨j + 1, Q', seen', by go_num, by omega, rfl, HQ3, HI3, HN3, HR3, HE3, HM4, HB3, HS3, HC3⟩
          · have hje : j = nxl.length := by omega
            have hg1 : ¬ (j : Int) < (nxl.length : Int) := by omega
            rw [hje, List.drop_length] at HM3
            have HF3 := hid HM3.out.fin
            go_wp2
            go_roundg (Q'.length + cntF seen' M)
            case measure => have := HC3.out; have := HK.out; simp only [List.length_cons] at this; omega
            case rel => exact ⟨Q', seen', en', rfl, by have := HC3.out; have := HK.out; simp only [List.length_cons] at this; omega, HQ3.out, HR3.out, HE3.out, HF3.out, HB3.out⟩
theorem runOf_any (ss : List St) (hf : stepsF ss = 0) (hok : SsOk ss) (v : Value) (s : ByteArray) (hs : s.size ≤ 400) (i : Nat) (hi : i ≤ s.size) (w : World) (h : SsIn w v ss) (l : List Nat) (hl : RunR ss s.data.toList i l) :
    Calls Tryd.prog 16 #[v, .string s, .int .i64 (i : Int)] w fun e w' => ∃ u, e = .returned u ∧ IsIn w' u l ∧ Below w.heap.size w w' := by
  have hpos := (stepsF_zero hf).2.1
  obtain ⟨a, cap, rfl, hm, h | ⟨b, off, rfl, hlt, hn⟩⟩ := h
  · rw [h] at hpos
    simp at hpos
  · exact runOf_at ss hf hok b off cap s hs i hi w hlt hn l hl
end Go.Proofs.YtgnmlnfddcnkbaaDoor
namespace Go.Proofs.YtgnmlnfddcnkbaaDoor
set_option linter.unusedSimpArgs false
set_option linter.unusedVariables false
open Go.RowKit

set_option maxHeartbeats 1000000 in
theorem count_any (k : C4) (hk : k.ok) (w : World) :
    Calls Tryd.prog 35 #[k.v] w fun e w' => e = .returned (.int .i64 (cnt k.has 256)) ∧ Below w.heap.size w w' := by
  go_enter Tryd.func35, Tryd.ntmps35
  go_wp2
  go_loopw [3, 4] (fun u v wr => ∃ i c : Nat, i ≤ 256 ∧ c ≤ i ∧ Hid (c = cnt k.has i) ∧ v = .int .i64 i ∧ u = .int .i64 c ∧ Below w.heap.size w wr ∧ Hb wr w.heap.size k) (fun _ v _ => 256 - (intOf v).toNat)
  case atStart => exact ⟨0, 0, by omega, by omega, Eq.refl _, rfl, rfl, (Below.refl _ _).alloc (Nat.le_refl _) _, Hb.new _ k _ rfl⟩
  case round =>
    obtain ⟨i, c, hi, hc, HC, rfl, rfl, hB, hK⟩ := hrel
    obtain ⟨c0, c1, c2, c3, e0, e1, e2, e3⟩ := hK.all
    by_cases hlt : i < 256
    · have i1 : (i : Int) < 256 := by omega
      go_wp2_with fail
      refine (in_any k hk i hlt _).mono ?_
      rintro e w1 ⟨rfl, hb1⟩
      have hB1 := hB.trans (hb1.mono hB.size)
      have hK1 := hK.below hb1 hK.lt
      cases hn : k.has i
      · have HE : Hid (c = cnt k.has (i + 1)) := by show _ = _; rw [cnt, hn, HC.out]; rfl
        go_wp2
        exact ⟨⟨i + 1, c, by omega, by omega, HE, by go_num, by go_num, hB1, hK1⟩, by simp [intOf]; omega⟩
      · have HE : Hid (c + 1 = cnt k.has (i + 1)) := by show _ = _; rw [cnt, hn, HC.out]; rfl
        go_wp2
        exact ⟨⟨i + 1, c + 1, by omega, by omega, HE, by go_num, by go_num, hB1, hK1⟩, by simp [intOf]; omega⟩
    · have hi2 : i = 256 := by omega
      subst hi2
      go_wp2
      go_ret
      exact ⟨ret_int (by rw [HC.out]), hB⟩
end Go.Proofs.YtgnmlnfddcnkbaaDoor
namespace Go.Proofs.YtgnmlnfddcnkbaaDoor
set_option linter.unusedSimpArgs false
set_option linter.unusedVariables false
set_option maxRecDepth 100000
open Go.RowKit
theorem count_b (k : C4) (hk : k.ok) (w : World) :
    Calls Tryd.prog 35 #[k.v] w fun e w' => ∃ c : Nat, e = .returned (.int .i64 c) ∧ Hid (((0 : Int) < (c : Int)) ↔ ¬ k.eqb z4 = true) ∧ c ≤ 256 ∧ Below w.heap.size w w' := by
  refine (count_any k hk w).mono ?_
  rintro e w' ⟨rfl, hb⟩
  exact ⟨cnt k.has 256, rfl, cnt_zero_iff hk, cnt_le _ _, hb⟩
end Go.Proofs.YtgnmlnfddcnkbaaDoor

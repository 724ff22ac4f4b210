/- Own texts. -/
import Derived.Test.YtcjghhedphmhkaaGreatDoorY12
import Derived.Deep.AppendSrc
import Derived.Shelf.Vars
import Derived.Deep.DeepHandedRow
import Derived.Maps.AppendAt
set_option linter.unusedSimpArgs false
set_option linter.unusedVariables false
set_option maxRecDepth 100000
set_option maxHeartbeats 8000000
namespace Go.Proofs.YtcjghhedphmhkaaGreatDoor
open Go.RowKit
theorem SpOwn.row {w : World} {B : Nat} {v : Value} {l : List (Nat × Nat)} (h : SpOwn w B v l) (k : Nat) (e : v.ownBlock = some k) : B ≤ k ∧ k < w.heap.size:=by
  rcases h.2 with ⟨hv,_⟩ | ⟨b,cap,cur,hv,hb,hh,_⟩
  · rw [hv] at e; cases e
  · rw [hv] at e
    injection e with e
    simp only at e
    subst e
    exact ⟨hb,(Array.getElem?_eq_some_iff.1 hh).1⟩
theorem box_kept {w1 w2 : World} {B : Nat} {v : Value} {l : List (Nat × Nat)} (h : SpOwn w1 B v l) (a b : Value) (o2 : Obj) (t : TypeId) (hgr : ((w1.alloc (.cells #[a,b] t)).alloc o2).grownBy w2 v.ownBlock) : w2.cell? ⟨w1.heap.size,0,none⟩ = some a ∧ w2.cell? ⟨w1.heap.size,1,none⟩ = some b:=by
  have h1 : w2.heap[w1.heap.size]? = some (.cells #[a,b] t (0,0)):=by
    rw [hgr.block w1.heap.size (by simp; omega) (fun e => by have:=(h.row _ e.symm).2; omega),Below.heap_alloc _ _ _ (by simp)]
    exact heap_new w1 _
  exact ⟨(Lib.cell_of_heap h1 0).trans rfl,(Lib.cell_of_heap h1 1).trans rfl⟩
def AlR (s : List UInt8) (t : Rx) (all : List (Nat × Nat)) (B : Nat) (w : World) (k : Nat) (u : Value) (wr : World) : Prop:=∃ L r,all = L ++ r ∧ SpOwn wr B u L ∧ AllR s t k r ∧ L.length ≤ k ∧ Below B w wr
theorem allOf_own (t : Rx) (ht : t.Ok) (v : Value) (s : ByteArray) (hs : s.size ≤ 400) (all : List (Nat × Nat)) (ha : AllR s.data.toList t 0 all) (w : World) (hN : NsIn w v t.flat) (ho : ∀ n ∈ t.flat,(1 ≤ n.op ∧ n.op ≤ 9) ∧ n.c.ok) (hl : t.flat.length ≤ 60) :
    Calls Tryz.prog 31 #[v,.string s] w fun e w' => ∃ u,e = .returned u ∧ SpOwn w' w.heap.size u all ∧ Below w.heap.size w w':=by
  have HF : Hid (∀ (k : Nat) r,k ≤ s.size + 1 → FndR s.data.toList t k r → ∀ w',Below w.heap.size w w' → _):=fun k r hk hr w' hb => findOf_any t ht v s hs k r hr hk w' (hN.below hb) ho hl
  have hlen : s.data.toList.length = s.size:=by simp
  have hall : all.length ≤ 401:=by
    have:=ha.len
    omega
  have H0 : Hid (AlR s.data.toList t all w.heap.size w 0 (.slice none 0 0) w):=⟨[],all,rfl,SpOwn.nil _ _,ha,by simp,Below.refl _ _⟩
  obtain ⟨va,vc,rfl,vm⟩ : ∃ a c,v = .slice a t.flat.length c ∧ t.flat.length ≤ maxLen:=by
    obtain ⟨a,c,h1,h2,_⟩:=hN
    exact ⟨a,c,h1,h2⟩
  clear hN ho ha
  go_enter Tryz.func31,Tryz.ntmps31
  go_wp2_with fail
  go_loopw [5,6] (fun u v wr => ∃ k : Nat,k ≤ s.size + 1 ∧ v = .int .i64 (k : Int) ∧ Hid (AlR s.data.toList t all w.heap.size w k u wr)) (fun _ v _ => s.size + 1 - (intOf v).toNat)
  case atStart => exact ⟨0,by omega,rfl,H0⟩
  case round =>
    clear H0
    obtain ⟨k,hk,rfl,HA⟩:=hrel
    obtain ⟨L,r,hap,hO,hR,hLk,hB⟩:=HA.out
    obtain ⟨ua,uc,rfl⟩:=hO.form
    have hLl : L.length ≤ 401:=by rw [hap] at hall; simp at hall; omega
    by_cases hks : k ≤ s.size
    · have g1 : (k : Int) ≤ (s.size : Int):=by omega
      cases hR with
      | nil _ hn =>
        have C:=hid (HF.out k none (by omega) hn wr hB)
        rw [show spV (spO none) = .agg #[.int .i64 0,.int .i64 0] from rfl,show Option.isSome (none : Option (Nat × Nat)) = false from rfl] at C
        have HY : Hid (∀ w',Below wr.heap.size wr w' → SpOwn w' w.heap.size (.slice ua L.length uc) all ∧ Below w.heap.size w w'):=fun w' hb => ⟨by rw [hap,List.append_nil]; exact hO.kept hb,hB.trans (hb.mono hB.size)⟩
        clear HA hn hO hB hap
        go_wp2_with fail
        refine Calls.mono C.out ?_
        rintro e w1 ⟨rfl,hb1⟩
        have HY2:=hid (HY.out _ (hb1.alloc hb1.size (.cells #[.int .i64 0,.int .i64 0] 54)))
        clear hb1 C HY
        go_wp2
        go_ret
        exact ⟨_,rfl,HY2.out.1,HY2.out.2⟩
      | cons _ x r' hx hr =>
        obtain ⟨a,b⟩:=x
        have C:=hid (HF.out k (some (a,b)) (by omega) hx wr hB)
        rw [show spV (spO (some (a,b))) = .agg #[.int .i64 (a : Int),.int .i64 (b : Int)] from rfl,show Option.isSome (some (a,b)) = true from rfl] at C
        have hnx:=nextAt_lt hx
        have hle:=hx.le
        have HO:=hid hO
        have HR:=hid hr
        have HB:=hid hB
        have HAP : Hid (all = (L ++ [(a,b)]) ++ r'):=by show _ = _; rw [hap]; simp
        clear HA hx hO hB hap hr
        go_wp2_with fail
        refine Calls.mono C.out ?_
        rintro e w1 ⟨rfl,hb1⟩
        have HO1:=hid (HO.out.kept hb1)
        have HB1:=hid (HB.out.trans (hb1.mono HB.out.size))
        clear hb1 C HO HB
        obtain ⟨o1,ho1⟩ : ∃ o1 : Obj,o1 = .cells #[.int .i64 (a : Int),.int .i64 (b : Int)] 54:=⟨_,rfl⟩
        have HO2:=hid ((HO1.out.kept ((Below.refl _ _).alloc (Nat.le_refl _) o1)).kept ((Below.refl _ _).alloc (Nat.le_refl _) o1))
        have HB2 : Hid (Below w.heap.size w ((w1.alloc o1).alloc o1)):=(HB1.out.alloc HB1.out.size o1).alloc (by have:=HB1.out.size; simp; omega) o1
        rw [ho1] at HO2 HB2
        clear ho1
        by_cases hab : (a : Int) = (b : Int)
        · have hwr : IntKind.i64.wrap ((b : Int) + 1) = (b : Int) + 1:=by rw [IntKind.wrap_i64]; omega
          have enx : nextAt (a,b) = b + 1:=by simp [nextAt]; omega
          rw [enx] at HR hnx
          have eab : ((a : Int) == (b : Int)) = true:=by rw [beq_iff_eq]; exact hab
          have HAB:=hid hab
          clear hab
          go_wp2_with (at_builtin; refine wpList_append_sp rfl _ _ rfl w.heap.size _ rfl L HO2.out (w1.heap.size + 1) 1 (a,b) rfl (by rw [World.cell?_alloc_at (w:=w1.alloc _) _ _ (w1.heap.size + 1) 0 (by simp)]; rfl) (by rw [World.cell?_alloc_at (w:=w1.alloc _) _ _ (w1.heap.size + 1) 1 (by simp)]; rfl) (by omega) HB2.out.size ?_; intro g cap w2 hown hgr _ _; obtain ⟨d0,d1⟩:=box_kept HO1.out _ _ _ _ hgr; have HBX:=hid (HB2.out.trans (HO2.out.grown HB2.out.size hgr)); have HOX:=hid hown; clear hown hgr)
          have HR2 : Hid (AlR s.data.toList t all w.heap.size w (b + 1) (.slice (some ⟨g,0,none⟩) (L.length + 1) cap) w2):=⟨L ++ [(a,b)],r',HAP.out,HOX.out,HR.out,by simp; omega,HBX.out⟩
          exact ⟨⟨b + 1,by omega,by go_num,HR2⟩,by simp [intOf]; omega⟩
        · have enx : nextAt (a,b) = b:=by simp [nextAt]; omega
          rw [enx] at HR hnx
          have eab : ((a : Int) == (b : Int)) = false:=by rw [beq_eq_false_iff_ne]; exact hab
          clear hab
          go_wp2_with (at_builtin; refine wpList_append_sp rfl _ _ rfl w.heap.size _ rfl L HO2.out (w1.heap.size + 1) 1 (a,b) rfl (by rw [World.cell?_alloc_at (w:=w1.alloc _) _ _ (w1.heap.size + 1) 0 (by simp)]; rfl) (by rw [World.cell?_alloc_at (w:=w1.alloc _) _ _ (w1.heap.size + 1) 1 (by simp)]; rfl) (by omega) HB2.out.size ?_; intro g cap w2 hown hgr _ _; obtain ⟨d0,d1⟩:=box_kept HO1.out _ _ _ _ hgr; have HBX:=hid (HB2.out.trans (HO2.out.grown HB2.out.size hgr)); have HOX:=hid hown; clear hown hgr)
          have HR2 : Hid (AlR s.data.toList t all w.heap.size w b (.slice (some ⟨g,0,none⟩) (L.length + 1) cap) w2):=⟨L ++ [(a,b)],r',HAP.out,HOX.out,HR.out,by simp; omega,HBX.out⟩
          exact ⟨⟨b,by omega,by go_num,HR2⟩,by simp [intOf]; omega⟩
    · have g1 : ¬ (k : Int) ≤ (s.size : Int):=by omega
      have HY : Hid (SpOwn wr w.heap.size (.slice ua L.length uc) all ∧ Below w.heap.size w wr):=by
        cases hR with
        | nil _ hn => exact ⟨by rw [hap,List.append_nil]; exact hO,hB⟩
        | cons _ x r' hx hr =>
          have:=hx.le
          omega
      clear HA hO hB hap hR
      go_wp2
      go_ret
      exact ⟨_,rfl,HY.out.1,HY.out.2⟩
theorem fbehind_any (x : Nat × Nat) (h1 : x.1 ≤ 400) (h2 : x.2 ≤ 400) (w : World) :
    Calls Tryz.prog 53 #[spV x] w fun e w' => e = .returned (.int .i64 (nextAt x : Int)) ∧ Below w.heap.size w w':=by
  obtain ⟨a,b⟩:=x
  have hb0:=(Below.refl w.heap.size w).alloc (Nat.le_refl _) (.cells #[.int .i64 (a : Int),.int .i64 (b : Int)] 54)
  simp only at h1 h2
  by_cases hab : (a : Int) = (b : Int)
  · have e1 : nextAt (a,b) = b + 1:=by simp [nextAt]; omega
    have hw : IntKind.i64.wrap ((b : Int) + 1) = (b : Int) + 1:=by rw [IntKind.wrap_i64]; omega
    have g1 : ((a : Int) == (b : Int)) = true:=by rw [beq_iff_eq]; exact hab
    rw [e1,show ((b + 1 : Nat) : Int) = (b : Int) + 1 by omega]
    have HAB:=hid hab
    clear hab e1
    go_enter Tryz.func53,Tryz.ntmps53
    go_wp2
    go_ret
    exact ⟨rfl,hb0⟩
  · have e1 : nextAt (a,b) = b:=by simp [nextAt]; omega
    have g1 : ((a : Int) == (b : Int)) = false:=by rw [beq_eq_false_iff_ne]; exact hab
    rw [e1]
    clear hab e1
    go_enter Tryz.func53,Tryz.ntmps53
    go_wp2
    go_ret
    exact ⟨rfl,hb0⟩
theorem SpOwn.kc {w w' : World} {B ab : Nat} {v : Value} {l : List (Nat × Nat)} (h : SpOwn w B v l) (hk : Kd ab w w') (hab : ab < B) : SpOwn w' B v l:=by
  refine ⟨h.1,?_⟩
  rcases h.2 with h0 | ⟨g,cap,cur,hv,hb,hg,hr⟩
  · exact Or.inl h0
  · exact Or.inr ⟨g,cap,cur,hv,hb,hk.same g _ hg rfl (by omega),hr⟩
theorem AuN.row {c : Ax} {w w' : World} {B : Nat} {v : Value} {l : List (Nat × Nat)} (h : AuN c w) (hO : SpOwn w B v l) (hB : c.b < B) (hg : w.grownBy w' v.ownBlock) : AuN c w':=by
  rcases hO.2 with ⟨hv,_⟩ | ⟨g,cap,cur,hv,hb,hh,_⟩
  · refine h.below ⟨hg.os,hg.tape,hg.output,hg.size,fun k hk => hg.block k hk (by rw [hv]; intro e; cases e)⟩
  · rw [hv] at hg
    exact h.box hh (by decide) (by decide) (by omega) hg
structure AfI (c : Ax) (t : Rx) (s : ByteArray) (all : List (Nat × Nat)) (w : World) (k : Nat) (u : Value) (L : List (Nat × Nat)) (r : List (Nat × Nat)) (wr : World) : Prop where
  parts : all = L ++ r
  own : SpOwn wr (w.heap.size + 1) u L
  rest : AllR s.data.toList t k r
  len : L.length ≤ k
  b : Below c.B w wr
  au : AuN c wr
  fin : wr.heap[w.heap.size]? = some (.cells #[c.u] 87 (0,0))
  size : w.heap.size + 1 ≤ wr.heap.size
theorem fall_bad (c : Ax) (s : ByteArray) (w : World) (hs : s.size ≤ maxLen) (h4 : 400 < s.size) :
    Calls Tryz.prog 36 #[.agg #[c.u],.string s] w fun e w' => e = .returned (.tuple #[.slice none 0 0,.iface 32 (.int .i64 3)]) ∧ Below w.heap.size w w':=by
  have hp : plE s.size 0 = 3:=by unfold plE; rw [if_pos h4]
  have HC : Hid (∀ w',_):=fun w' => first_bad c s 0 w' hs (by rw [hp]; decide)
  have HI:=hid is_full
  rw [hp,show errV 3 = .iface 32 (.int .i64 3) from rfl] at HC
  have g0 : (0 : Int) ≤ (s.size : Int):=by omega
  have hb0:=(Below.refl w.heap.size w).alloc (Nat.le_refl _) (.cells #[c.u] 87)
  have HB0:=hid hb0
  clear hs h4 hb0 hp
  go_enter Tryz.func36,Tryz.ntmps36
  go_wp2_with fail
  refine wp_loop_rounds 1 ?_
  rw [rounds_succ]
  go_wp2_with fail
  refine Calls.mono (HC.out _) ?_
  rintro e w1 ⟨rfl,hb⟩
  have HB1:=hid (HB0.out.trans (hb.mono HB0.out.size))
  clear hb HB0
  go_wp2_with fail
  refine Calls.mono (HI.out _) ?_
  rintro e w2 ⟨rfl,rfl⟩
  go_wp2
  go_ret2
  exact ⟨rfl,HB1.out.alloc HB1.out.size _⟩
theorem fall_ok (c : Ax) (hc : c.Good) (t : Rx) (ht : t.Ok) (hss : c.ss = t.prog) (ho : ∀ n ∈ t.flat,1 ≤ n.op ∧ n.op ≤ 9) (s : ByteArray) (hs : s.size ≤ 400) (all : List (Nat × Nat)) (ha : AllR s.data.toList t 0 all) (w : World) (hT : Tab w) (h : AuN c w) :
    Calls Tryz.prog 36 #[.agg #[c.u],.string s] w fun e w' => ∃ u,e = .returned (.tuple #[u,.nilIface]) ∧ SpIn w' u all ∧ Below c.B w w':=by
  have hlen : s.data.toList.length = s.size:=by simp
  have hsz:=h.size
  have hall : all.length ≤ 401:=by
    have:=ha.len
    omega
  have HC : Hid (∀ (k : Nat) r w',AuN c w' → Tab w' → k ≤ s.size → FndR s.data.toList t k r → _):=fun k r w' hA hT' hk hr => first_ok c hc t ht hss ho s hs k hk r hr w' hT' hA
  have HTB : Hid (∀ w',Below c.B w w' → Tab w'):=fun w' hb j hj => (hb.cell (p:=⟨2,j,none⟩) hc.tab).trans (hT j hj)
  have HI : Hid (∀ (n : Int) w',(n = 0 ∨ n = 3 ∨ n = 4) → _):=fun n w' h => is_any n h w'
  have HN:=hid fbehind_any
  have H0 : Hid (AfI c t s all w 0 (.slice none 0 0) [] all (w.alloc (.cells #[c.u] 87))):=by
    have hb1 : Below w.heap.size w (w.alloc (.cells #[c.u] 87)):=(Below.refl _ _).alloc (Nat.le_refl _) _
    exact ⟨rfl,SpOwn.nil _ _,ha,by simp,hb1.mono (by omega),h.below hb1,World.alloc_heap_new w _,by simp⟩
  clear hc hss h ha hT
  go_enter Tryz.func36,Tryz.ntmps36
  go_wp2_with fail
  go_loopw [6,7] (fun u v wr => ∃ (k : Nat) (L r : List (Nat × Nat)),k ≤ s.size + 1 ∧ v = .int .i64 (k : Int) ∧ Hid (AfI c t s all w k u L r wr)) (fun _ v _ => s.size + 1 - (intOf v).toNat)
  case atStart => exact ⟨0,[],all,by omega,rfl,H0⟩
  case round =>
    clear H0
    obtain ⟨k,L,r,hk,rfl,HA⟩:=hrel
    obtain ⟨ua,uc,rfl⟩:=HA.out.own.form
    have hLl : L.length ≤ 401:=by have:=HA.out.parts; rw [this] at hall; simp at hall; omega
    by_cases hks : k ≤ s.size
    · have g1 : (k : Int) ≤ (s.size : Int):=by omega
      have c0:=Lib.cell_of_heap HA.out.fin 0
      simp only [List.getElem?_toArray,List.getElem?_cons_zero,List.getElem?_cons_succ] at c0
      cases r with
      | nil =>
        have hn : FndR s.data.toList t k none:=by
          have:=HA.out.rest
          cases this
          assumption
        have C:=hid (HC.out k none wr HA.out.au (HTB.out _ HA.out.b) hks hn)
        rw [show spV (fndX none) = .agg #[.int .i64 0,.int .i64 0] from rfl,show fndE none = 4 from rfl,show errV 4 = .iface 32 (.int .i64 4) from rfl] at C
        have CI:=hid (fun w' => HI.out 4 w' (Or.inr (Or.inr rfl)))
        rw [show errV 4 = .iface 32 (.int .i64 4) from rfl,show ((4 : Int) == 4) = true from rfl] at CI
        go_wp2_with fail
        refine Calls.mono C.out ?_
        rintro e w1 ⟨rfl,hA1,hk1,hb1⟩
        have HY : Hid (∀ o,SpIn (w1.alloc o) (.slice ua L.length uc) all ∧ Below c.B w (w1.alloc o)):=fun o => by
          have hO1:=HA.out.own.kc hk1 (by omega)
          have hb2:=(Below.refl _ w1).alloc (Nat.le_refl _) o
          have hp:=HA.out.parts
          rw [List.append_nil] at hp
          refine ⟨?_,(HA.out.b.trans hb1).alloc (by have:=hA1.size; omega) o⟩
          rw [hp]
          exact (hO1.kept hb2).isIn (by unfold maxLen; omega)
        clear HA C hA1 hk1 hb1 c0
        go_wp2_with fail
        refine Calls.mono (CI.out _) ?_
        rintro e w2 ⟨rfl,rfl⟩
        go_wp2
        go_ret2
        exact ⟨_,rfl,(HY.out _).1,(HY.out _).2⟩
      | cons x r' =>
        obtain ⟨a,b⟩:=x
        obtain ⟨hx,hr⟩ : FndR s.data.toList t k (some (a,b)) ∧ AllR s.data.toList t (nextAt (a,b)) r':=by
          have:=HA.out.rest
          cases this
          exact ⟨by assumption,by assumption⟩
        have C:=hid (HC.out k (some (a,b)) wr HA.out.au (HTB.out _ HA.out.b) hks hx)
        rw [show spV (fndX (some (a,b))) = .agg #[.int .i64 (a : Int),.int .i64 (b : Int)] from rfl,show fndE (some (a,b)) = 0 from rfl,show errV 0 = .nilIface from rfl] at C
        have CI:=hid (fun w' => HI.out 0 w' (Or.inl rfl))
        rw [show errV 0 = .nilIface from rfl,show ((0 : Int) == 4) = false from rfl] at CI
        have hnx:=nextAt_lt hx
        have hle:=hx.le
        have CN:=hid (fun w' => HN.out (a,b) (by simp only; omega) (by simp only; omega) w')
        rw [show spV (a,b) = .agg #[.int .i64 (a : Int),.int .i64 (b : Int)] from rfl] at CN
        have HR:=hid hr
        clear hr hx
        go_wp2_with fail
        refine Calls.mono C.out ?_
        rintro e w1 ⟨rfl,hA1,hk1,hb1⟩
        have HO1:=hid (HA.out.own.kc hk1 (by omega))
        have HA1:=hid hA1
        have HF1:=hid (hk1.same _ _ HA.out.fin rfl (by omega))
        have HB1:=hid (HA.out.b.trans hb1)
        have HS1 : Hid (w.heap.size + 1 ≤ w1.heap.size):=Nat.le_trans HA.out.size hb1.size
        have HL1:=hid HA.out.len
        have HAP : Hid (all = (L ++ [(a,b)]) ++ r'):=by show _ = _; rw [HA.out.parts]; simp
        clear hb1 hk1 hA1 C HA c0
        go_wp2_with fail
        refine Calls.mono (CI.out _) ?_
        rintro e w2 ⟨rfl,rfl⟩
        obtain ⟨o1,ho1⟩ : ∃ o1 : Obj,o1 = .cells #[.int .i64 (a : Int),.int .i64 (b : Int)] 54:=⟨_,rfl⟩
        have hbw : Below w1.heap.size w1 ((w1.alloc o1).alloc o1):=((Below.refl _ _).alloc (Nat.le_refl _) o1).alloc (by simp) o1
        have HO2:=hid ((HO1.out.kept ((Below.refl _ _).alloc (Nat.le_refl _) o1)).kept ((Below.refl _ _).alloc (Nat.le_refl _) o1))
        have HB2:=hid (HB1.out.trans (hbw.mono (by have:=HA1.out.size; omega)))
        have HA2:=hid (HA1.out.below hbw)
        have HF2:=hid ((hbw.block _ (heap_lt HF1.out)).trans HF1.out)
        have HS2 : Hid (w.heap.size + 1 ≤ ((w1.alloc o1).alloc o1).heap.size):=Nat.le_trans HS1.out hbw.size
        rw [ho1] at HO2 HB2 HA2 HF2 HS2
        clear ho1 hbw HB1 HA1 HF1
        go_wp2_with (at_builtin; refine wpList_append_sp rfl _ _ rfl (w.heap.size + 1) _ rfl L HO2.out (w1.heap.size + 1) 1 (a,b) rfl (by rw [World.cell?_alloc_at (w:=w1.alloc _) _ _ (w1.heap.size + 1) 0 (by simp)]; rfl) (by rw [World.cell?_alloc_at (w:=w1.alloc _) _ _ (w1.heap.size + 1) 1 (by simp)]; rfl) (by omega) HS2.out ?_; intro g cap w3 hown hgr _ _; obtain ⟨d0,d1⟩:=box_kept HO1.out _ _ _ _ hgr; have HBX:=hid (HB2.out.trans ((HO2.out.grown HS2.out hgr).mono (by omega))); have HAX:=hid (HA2.out.row HO2.out (by omega) hgr); have HFX:=hid ((hgr.block _ (by have:=HS2.out; omega) (fun e => by have:=(HO2.out.row _ e.symm).1; omega)).trans HF2.out); have HSX:=hid (Nat.le_trans HS2.out hgr.size); have HOX:=hid hown; clear hown hgr)
        refine Calls.mono (CN.out _) ?_
        rintro e w4 ⟨rfl,hb4⟩
        have HR2 : Hid (AfI c t s all w (nextAt (a,b)) (.slice (some ⟨g,0,none⟩) (L.length + 1) cap) (L ++ [(a,b)]) r' w4):={
          parts:=HAP.out
          own:=HOX.out.kept hb4
          rest:=HR.out
          len:=by have:=HL1.out; simp; omega
          b:=HBX.out.trans (hb4.mono (by have:=HAX.out.size; omega))
          au:=HAX.out.below hb4
          fin:=(hb4.block _ (heap_lt HFX.out)).trans HFX.out
          size:=Nat.le_trans HSX.out hb4.size }
        clear hb4 HOX HBX HAX HFX HSX HA2 HB2 HF2 HS2 HO1 HO2 d0 d1 HAP HR HL1 HS1 CI CN HC HTB HI HN
        go_wp2
        exact ⟨⟨nextAt (a,b),L ++ [(a,b)],r',by omega,rfl,HR2⟩,by simp [intOf]; omega⟩
    · have g1 : ¬ (k : Int) ≤ (s.size : Int):=by omega
      have HY : Hid (SpIn wr (.slice ua L.length uc) all ∧ Below c.B w wr):=by
        have hA:=HA.out
        cases r with
        | nil => exact ⟨by rw [hA.parts,List.append_nil]; exact hA.own.isIn (by unfold maxLen; omega),hA.b⟩
        | cons x r' =>
          have hR:=hA.rest
          cases hR with
          | cons _ x r' hx hr =>
            have:=hx.le
            omega
      clear HA
      go_wp2
      go_ret2
      exact ⟨_,rfl,HY.out.1,HY.out.2⟩
theorem all_find_bad (ns : List Nd) (v : Value) (s : ByteArray) (w : World) (h : NsIn w v ns) (hf : ¬ faultL ns = 0) :
    Calls Tryz.prog 21 #[v,.string s] w fun e w' => e = .returned (.tuple #[.slice none 0 0,errV (faultL ns)]) ∧ Below w.heap.size w w':=by
  have HC:=hid (finderOf_bad ns v w h hf)
  rw [show errV (faultL ns) = .iface 32 (.int .i64 (faultL ns)) by unfold errV; rw [if_neg hf]] at HC ⊢
  obtain ⟨va,vc,rfl,vm⟩:=nsIn_form h
  clear h hf
  go_enter Tryz.func21,Tryz.ntmps21
  go_wp2_with fail
  refine Calls.mono HC.out ?_
  rintro e w1 ⟨rfl,hb⟩
  have hb':=hid (hb.alloc hb.size (.cells #[.pointer none] 87))
  clear hb HC
  go_wp2
  go_ret2
  exact ⟨rfl,hb'.out⟩
theorem all_by (t : Rx) (ht : t.Ok) (v : Value) (s : ByteArray) (w : World) (h : NsIn w v t.flat) (hf : faultL t.flat = 0) (R : Value → Value → World → Prop)
    (HF : ∀ c w',c.ss = t.prog → w.heap.size ≤ c.B → Below w.heap.size w w' → AuN c w' → Calls Tryz.prog 36 #[.agg #[c.u],.string s] w' fun e w'' => ∃ u E,e = .returned (.tuple #[u,E]) ∧ R u E w'' ∧ Below c.B w' w'') :
    Calls Tryz.prog 21 #[v,.string s] w fun e w' => ∃ u E,e = .returned (.tuple #[u,E]) ∧ R u E w' ∧ Below w.heap.size w w':=by
  have HC:=hid (finderOf_ok t ht v w h hf)
  have HF':=hid HF
  obtain ⟨va,vc,rfl,vm⟩:=nsIn_form h
  clear h hf HF
  go_enter Tryz.func21,Tryz.ntmps21
  go_wp2_with fail
  refine Calls.mono HC.out ?_
  rintro e w1 ⟨c,hss,hcB,rfl,hb,hA⟩
  have B1:=hid (hb.alloc hb.size (.cells #[c.u] 87))
  have CF:=hid (HF'.out c _ hss hcB B1.out (hA.below ((Below.refl _ _).alloc (Nat.le_refl _) _)))
  clear hb HC hA hss HF'
  go_wp2_with fail
  refine Calls.mono CF.out ?_
  rintro e w2 ⟨u,E,rfl,hR,hb⟩
  have HR:=hid hR
  have B2:=hid (B1.out.trans (hb.mono hcB))
  clear hb CF B1 hcB hR
  go_wp2
  go_ret2
  exact ⟨u,E,rfl,HR.out,B2.out⟩
theorem findL : FindL Tab where
  bad:=fun ns v s w hN hw hs hne => by
    by_cases hf : faultL ns = 0
    · have h4 : 400 < s.size:=by
        rcases Nat.lt_or_ge 400 s.size with h | h
        · exact h
        · exact absurd ((meanF_zero _ _).2 ⟨hf,h⟩) hne
      have e3 : meanF ns s.size = 3:=by unfold meanF; rw [if_pos hf,if_pos h4]
      rw [e3]
      obtain ⟨t,ht,rfl⟩:=tree_of ns ((faultL_zero ns).1 hf).2.2
      refine (all_by t ht v s w hN hf (fun u E _ => u = .slice none 0 0 ∧ E = errV 3) (fun c w' hss hB hb hA => ?_)).mono ?_
      · refine (fall_bad c s w' hs h4).mono ?_
        rintro e w'' ⟨rfl,hb'⟩
        exact ⟨_,_,rfl,⟨rfl,rfl⟩,hb'.mono (by have:=hA.size; omega)⟩
      · rintro e w' ⟨u,E,rfl,⟨rfl,rfl⟩,hb⟩
        exact ⟨_,rfl,hb,spIn_nil _⟩
    · have e3 : meanF ns s.size = faultL ns:=by unfold meanF; rw [if_neg hf]
      rw [e3]
      refine (all_find_bad ns v s w hN hf).mono ?_
      rintro e w' ⟨rfl,hb⟩
      exact ⟨_,rfl,hb,spIn_nil _⟩
  all:=fun t v s l w hT ht hN hw hz hl => by
    obtain ⟨hf,h4⟩:=(meanF_zero _ _).1 hz
    refine (all_by t ht v s w hN hf (fun u E w' => E = .nilIface ∧ SpIn w' u l) (fun c w' hss hB hb hA => ?_)).mono ?_
    · refine (fall_ok c (goodA_of t hss hw hf hT hB) t ht hss (fun n hn => (((faultL_zero _).1 hf).2.1 n hn).1) s h4 l hl w' (lasts_tab _ _ hT hb) hA).mono ?_
      rintro e w'' ⟨u,rfl,hI,hb'⟩
      exact ⟨_,_,rfl,⟨rfl,hI⟩,hb'⟩
    · rintro e w' ⟨u,E,rfl,⟨rfl,hI⟩,hb⟩
      exact ⟨_,rfl,hb,hI⟩
theorem htCells_of : ∀ (l : List (Nat × Nat × Nat)) (j : Nat) (u : Value),(htCells l)[j]? = some u → ∃ i x,l[i]? = some x ∧ ((j = i * 3 ∧ u = .int .i64 (x.1 : Int)) ∨ (j = i * 3 + 1 ∧ u = .int .i64 (x.2.1 : Int)) ∨ (j = i * 3 + 2 ∧ u = .int .i64 (x.2.2 : Int)))
  | [],j,u,h => by simp [htCells] at h
  | m :: r,0,u,h => by
    simp [htCells] at h
    exact ⟨0,m,rfl,Or.inl ⟨rfl,h.symm⟩⟩
  | m :: r,1,u,h => by
    simp [htCells] at h
    exact ⟨0,m,rfl,Or.inr (Or.inl ⟨rfl,h.symm⟩)⟩
  | m :: r,2,u,h => by
    simp [htCells] at h
    exact ⟨0,m,rfl,Or.inr (Or.inr ⟨rfl,h.symm⟩)⟩
  | m :: r,j + 3,u,h => by
    obtain ⟨i,x,h1,h2⟩:=htCells_of r j u (by simpa [htCells] using h)
    refine ⟨i + 1,x,by simpa using h1,?_⟩
    rcases h2 with ⟨rfl,e⟩ | ⟨rfl,e⟩ | ⟨rfl,e⟩
    · exact Or.inl ⟨by omega,e⟩
    · exact Or.inr (Or.inl ⟨by omega,e⟩)
    · exact Or.inr (Or.inr ⟨by omega,e⟩)
theorem wpList_append_hts {ops : Array Oper} {rest : List Oper} {o : Oper} {a : Act} {Q : Exit → Act → World → Prop} {w : World} (hgd : o.guard = none) (s x : Operand)
    (ho : o.op = .call { callee:=.builtin .append,args:=#[s,x],argTypes:=#[43,43] })
    (B : Nat) (v : Value) (hs : a.eval s = v) (l : List (Nat × Nat × Nat)) (hown : HtOwn w B v l) (b off cap : Nat) (m : List (Nat × Nat × Nat)) (hx : a.eval x = .slice (some ⟨b,off,none⟩) m.length cap) (h0 : 0 < m.length)
    (hnews : HtAt w b off m) (hlen : l.length + m.length ≤ 1000000000) (hbase : B ≤ w.heap.size)
    (h : ∀ g c w',HtOwn w' B (.slice (some ⟨g,0,none⟩) (l ++ m).length c) (l ++ m) → w.grownBy w' v.ownBlock → wpList Tryz.prog ops Q rest (a.put o.dst (.slice (some ⟨g,0,none⟩) (l.length + m.length) c)) w') : wpList Tryz.prog ops Q (o :: rest) a w:=by
  have hinfo : (Tryz.prog.info? 56).map (fun i => (i.zero,i.size,i.bytes)) = some (some (.agg #[.int .i64 0,.int .i64 0,.int .i64 0]),3,24):=by kernel_rfl
  obtain ⟨i0,hi,hz0,hz1,hz2⟩:=info_parts hinfo
  refine wpList_append_lies w hgd s x 43 ho B 56 i0 _ 3 24 Tryz.underlying43 hi hz0 hz1 hz2 rfl (by decide) v l.length (htCells l) hs hown ⟨b,off,none⟩ m.length cap (htCells m) hx (htCells_len m) ?_ (htCells_one m) h0 (by unfold maxLen; omega) (by omega) hbase _ rfl ?_
  · intro j u hj
    rw [Addr.add_lit]
    obtain ⟨i,y,h1,h2⟩:=htCells_of m j u hj
    obtain ⟨c0,c1,c2⟩:=hnews i y h1
    rcases h2 with ⟨rfl,rfl⟩ | ⟨rfl,rfl⟩ | ⟨rfl,rfl⟩
    · exact c0
    · rw [← Nat.add_assoc]; exact c1
    · rw [← Nat.add_assoc]; exact c2
  · intro g c w' h1 h2 _ _
    refine h g c w' ?_ h2
    unfold HtOwn
    rw [List.length_append,htCells_append]
    exact h1
theorem append_ht_nil (a : Option Addr) (cap : Nat) (ty : TypeId) (w : World) : (Builtin.append_ #[43,43] ty #[.slice none 0 0,.slice a 0 cap]).run Tryz.prog w = .ok (.slice none 0 0) w:=by
  cases a <;> kernel_rfl
theorem lhits_any (m : Mbr) (hm : m.ok) (hw : ∀ n ∈ m.pat.flat,n.wf) (s : ByteArray) (hs : s.size ≤ 400) (l : List (Nat × Nat)) (hl : AllR s.data.toList m.pat 0 l) (za : Option Addr) (zc : Nat) (d : ByteArray) (B0 : Nat) (w : World) (hT : Tab w) (hN : NsOwn w B0 (.slice za m.pat.flat.length zc) m.pat.flat) :
    Calls Tryz.prog 33 #[.agg #[.int .i64 (m.id : Int),.string m.text,.slice za m.pat.flat.length zc,.string d],.string s] w fun e w' => ∃ u,e = .returned (.tuple #[u,.nilIface]) ∧ HtOwn w' w.heap.size u (l.map (fun x => (m.id,x.1,x.2))) ∧ Below w.heap.size w w':=by
  have hll : l.length ≤ 401:=by
    have:=hl.len
    have hlen : s.data.toList.length = s.size:=by simp
    omega
  have h60 : m.pat.flat.length ≤ 60:=by have:=hm.2.2.2; omega
  have hb0 : Below w.heap.size w (w.alloc (.cells #[.int .i64 (m.id : Int),.string m.text,.slice za m.pat.flat.length zc,.string d] 73)):=(Below.refl _ _).alloc (Nat.le_refl _) _
  have CF:=hid (findL.all m.pat (.slice za m.pat.flat.length zc) s l _ (hT.below hb0 (Nat.le_refl _)) hm.isOk (NsOwn.isIn (show NsOwn _ B0 _ _ from owns_below hN hb0) (by unfold maxLen; omega)) hw ((meanF_zero _ _).2 ⟨hm.fault,hs⟩) hl)
  have HB0:=hid hb0
  clear hl hT hN hw hm hb0
  go_enter Tryz.func33,Tryz.ntmps33
  go_wp2_with fail
  refine Calls.mono CF.out ?_
  rintro e w1 ⟨u,rfl,hb,hin⟩
  obtain ⟨la,lc,rfl,hlm⟩:=spIn_form hin
  have hb1:=HB0.out.trans (hb.mono HB0.out.size)
  have HI:=hid hin
  have hrec : w1.heap[w.heap.size]? = some (.cells #[.int .i64 (m.id : Int),.string m.text,.slice za m.pat.flat.length zc,.string d] 73 (0,0)):=(hb.block w.heap.size (by simp)).trans (World.alloc_heap_new w _)
  have HR:=hid hrec
  have HB1:=hid hb1
  have HI0 : Hid (HtOwn w1 w.heap.size (.slice none 0 0) ((l.take 0).map (fun x => (m.id,x.1,x.2))) ∧ Below w1.heap.size w1 w1):=⟨HtOwn.nil _ _,Below.refl _ _⟩
  clear hb hb1 hin hrec CF HB0
  go_wp2_with fail
  go_loopw [8,23] (fun o v wr => ∃ k : Nat,k ≤ l.length ∧ v = .int .i64 (k : Int) ∧ Hid (HtOwn wr w1.heap.size o ((l.take k).map (fun x => (m.id,x.1,x.2))) ∧ Below w1.heap.size w1 wr)) (fun _ v _ => l.length - (intOf v).toNat)
  case atStart => exact ⟨0,by omega,rfl,⟨HtOwn.nil _ _,Below.refl _ _⟩⟩
  case round =>
    clear HI0
    obtain ⟨k,hk,rfl,HQ⟩:=hrel
    by_cases hkl : k < l.length
    · obtain ⟨x,hx⟩ : ∃ x,l[k]? = some x:=⟨l[k],List.getElem?_eq_getElem hkl⟩
      have k0 : (0 : Int) ≤ (k : Int):=by omega
      have k1 : (k : Int) < (l.length : Int):=by omega
      obtain ⟨M,hM⟩ : ∃ M,M = (l.take k).map (fun x => (m.id,x.1,x.2)):=⟨_,rfl⟩
      have hML : M.length ≤ 401:=by rw [hM,List.length_map,List.length_take]; omega
      have HST : Hid ((l.take (k + 1)).map (fun x => (m.id,x.1,x.2)) = M ++ [(m.id,x.1,x.2)]):=by
        show _ = _
        rw [List.take_add_one,hx,List.map_append,hM]
        rfl
      rw [← hM] at HQ
      obtain ⟨oa,oc,rfl⟩:=HQ.out.1.form
      obtain ⟨lb,off,rfl,hlb,hat⟩ : ∃ b off,la = some ⟨b,off,none⟩ ∧ b < w1.heap.size ∧ SpAt w1 b off l:=by
        obtain ⟨a',c',e,_,h | h⟩:=HI.out
        · rw [h] at hkl; simp at hkl
        · injection e with e _ _
          rw [e]
          exact h
      obtain ⟨s0,s1⟩:=hat k x hx
      have x0:=(HQ.out.2.cell (p:=⟨lb,_,none⟩) hlb).trans s0
      have x1:=(HQ.out.2.cell (p:=⟨lb,_,none⟩) hlb).trans s1
      have hrw:=(HQ.out.2.block w.heap.size (hp_lt HR.out)).trans HR.out
      have r0:=Lib.cell_of_heap hrw 0
      simp only [List.getElem?_toArray,List.getElem?_cons_zero,List.getElem?_cons_succ] at r0
      have hwr:=hp_lt hrw
      have r1 : ∀ o,(wr.alloc o).cell? ⟨w.heap.size,0,none⟩ = some (.int .i64 (m.id : Int)):=fun o => (World.cell?_of_block (Below.heap_alloc _ _ _ hwr)).trans r0
      have hbA : Below wr.heap.size wr ((wr.alloc (.cells #[.int .i64 (x.1 : Int),.int .i64 (x.2 : Int)] 54)).alloc (.cells #[.int .i64 (m.id : Int),.int .i64 (x.1 : Int),.int .i64 (x.2 : Int)] 56)):=((Below.refl _ _).alloc (Nat.le_refl _) _).alloc (by simp) _
      have HO:=hid (owns_below HQ.out.1 hbA)
      have HBA:=hid hbA
      clear hx hM hbA hat s0 s1 hrw
      go_wp2_with (at_builtin; refine wpList_append_ht rfl _ _ rfl w1.heap.size _ rfl M HO.out (wr.heap.size + 1) 1 (m.id,x.1,x.2) rfl (by rw [World.cell?_alloc_at (w:=wr.alloc _) _ _ (wr.heap.size + 1) 0 (by simp)]; rfl) (by rw [World.cell?_alloc_at (w:=wr.alloc _) _ _ (wr.heap.size + 1) 1 (by simp)]; rfl) (by rw [World.cell?_alloc_at (w:=wr.alloc _) _ _ (wr.heap.size + 1) 2 (by simp)]; rfl) (by omega) (by have:=HQ.out.2.size; simp; omega) ?_; intro g2 cap2 w2 ho2 hg2 _ _)
      all_goals
        have HQ2 : Hid (HtOwn w2 w1.heap.size (.slice (some ⟨g2,0,none⟩) (M.length + 1) cap2) ((l.take (k + 1)).map (fun x => (m.id,x.1,x.2))) ∧ Below w1.heap.size w1 w2):=⟨by rw [HST.out]; exact ho2,(HQ.out.2.trans (HBA.out.mono HQ.out.2.size)).trans (owns_grown HO.out (by have:=HQ.out.2.size; simp; omega) hg2)⟩
        exact ⟨⟨k + 1,by omega,by go_num,HQ2⟩,by simp [intOf]; omega⟩
    · have g1 : ¬ (k : Int) < (l.length : Int):=by omega
      have HZ : Hid (HtOwn wr w.heap.size u8 (l.map (fun x => (m.id,x.1,x.2))) ∧ Below w.heap.size w wr):=by
        have h:=HQ.out
        rw [List.take_of_length_le (by omega)] at h
        exact ⟨World.ownsRow.mono h.1 HB1.out.size,HB1.out.trans (h.2.mono HB1.out.size)⟩
      clear HQ
      go_wp2
      go_ret2
      exact ⟨_,rfl,HZ.out.1,HZ.out.2⟩
theorem ht_info : (Tryz.prog.info? 56).map (fun i => (i.zero,i.size,i.bytes)) = some (some (.agg #[.int .i64 0,.int .i64 0,.int .i64 0]),3,24):=by kernel_rfl
theorem append_ht_none {w : World} {B : Nat} {v : Value} {l : List (Nat × Nat × Nat)} (hown : HtOwn w B v l) (z : Option Addr) (cap : Nat) (ty : TypeId) : (Builtin.append_ #[43,43] ty #[v,.slice z 0 cap]).run Tryz.prog w = .ok v w:=by
  obtain ⟨i0,hi,hz0,hz1,hz2⟩:=info_parts ht_info
  rcases hown.2 with ⟨hv,h0⟩ | ⟨g,c,cur,hv,hb,hg,hc,_⟩
  · subst hv
    exact append_ht_nil z cap ty w
  · subst hv
    have hs : Src Tryz.prog i0.size 43 (.slice z 0 cap) 0 [] w:=by
      cases z with
      | none => exact Src.ofNil w Tryz.underlying43 cap
      | some a => exact Src.ofSlice w Tryz.underlying43 a 0 cap [] (by simp) (fun j u hj => by simp at hj) (fun u hu => by cases hu)
    have h:=run_append_room_src w 43 43 ty 56 i0 Tryz.underlying43 hi g 0 l.length c (.slice z 0 cap) 0 [] hs (by omega) (fun j hj => by simp at hj) (fun j hj => by simp at hj)
    exact h
theorem wpList_append_hte {ops : Array Oper} {rest : List Oper} {o : Oper} {a : Act} {Q : Exit → Act → World → Prop} {w : World} (hgd : o.guard = none) (s x : Operand)
    (ho : o.op = .call { callee:=.builtin .append,args:=#[s,x],argTypes:=#[43,43] })
    (B : Nat) (v : Value) (hs : a.eval s = v) (l : List (Nat × Nat × Nat)) (hown : HtOwn w B v l) (z : Option Addr) (cap : Nat) (hx : a.eval x = .slice z 0 cap)
    (h : wpList Tryz.prog ops Q rest (a.put o.dst v) w) : wpList Tryz.prog ops Q (o :: rest) a w:=by
  refine wpList_plain hgd fun K hK => ?_
  unfold Oper.wp execOp
  simp only [ho,resolve,invoke,builtin,Sem.run_bind,Sem.run_pure,Result.andThen_ok,List.map_toArray,List.map_cons,List.map_nil,hs,hx,append_ht_none hown]
  exact hK _ _ h
theorem lscan_full (mb : Nat) (w : World) (s : ByteArray) (hs : s.size ≤ maxLen) (h4 : 400 < s.size) :
    Calls Tryz.prog 14 #[.pointer (some ⟨mb,0,none⟩),.string s] w fun x w' => x = .returned (.tuple #[.slice none 0 0,.iface 32 (.int .i64 3)]) ∧ w' = w:=by
  unfold maxLen at hs
  have g1 : (s.size : Int) > 400:=by omega
  go_enter Tryz.func14,Tryz.ntmps14
  go_wp2
  go_ret2
  exact ⟨rfl,rfl⟩
noncomputable def trl (on : Bool) (s : List UInt8) (ps : List (Mbr × Value)) : List (Mbr × Value):=ps.filter (fun x => x.1.try s || !on)
theorem trl_map (on : Bool) (s : List UInt8) (ps : List (Mbr × Value)) : (trl on s ps).map (·.1) = (ps.map (·.1)).filter (fun m => m.try s || !on):=by
  unfold trl
  rw [List.filter_map]
  rfl
theorem trl_on (s : List UInt8) (ps : List (Mbr × Value)) : trs s ps = trl true s ps:=by
  unfold trs trl
  congr 1
  funext x
  rw [try_index]
  simp
theorem trl_off (s : List UInt8) (ps : List (Mbr × Value)) : trl false s ps = ps:=by
  unfold trl
  rw [List.filter_eq_self]
  intro x _
  simp
theorem ltry_any (mb : Nat) (v : Value) (ps : List (Mbr × Value)) (σ : SetS) (w : World) (h : MsI mb v ps σ w) (hσ : σ.Ok) (s : ByteArray) (hs : s.size ≤ 400) (hX : Mxl w) :
    Calls Tryz.prog 32 #[.pointer (some ⟨mb,0,none⟩),.string s] w fun e w' => ∃ u,e = .returned u ∧ MbOwn w' 0 u (trl σ.on s.data.toList ps) ∧ Below w.heap.size w w':=by
  cases hon : σ.on with
  | false =>
    refine (ltry_off mb v ps σ w h hon s).mono ?_
    rintro e w' ⟨rfl,rfl⟩
    exact ⟨v,rfl,by rw [trl_off]; exact h.row,Below.refl _ _⟩
  | true =>
    refine (ltry_on mb v ps σ w h hσ hon s hs hX).mono ?_
    rintro e w' ⟨u,rfl,hO,hb⟩
    exact ⟨u,rfl,by rw [← trl_on]; exact World.ownsRow.mono hO (Nat.zero_le _),hb⟩
theorem lscan_ok (mb : Nat) (v : Value) (ps : List (Mbr × Value)) (σ : SetS) (w : World) (h : MsI mb v ps σ w) (hσ : σ.Ok) (s : ByteArray) (hs : s.size ≤ 400) (hT : Tab w) (hX : Mxl w) (hits : List (Nat × Nat × Nat)) (hA : AllsR s.data.toList σ.ms hits) :
    Calls Tryz.prog 14 #[.pointer (some ⟨mb,0,none⟩),.string s] w fun x w' => ∃ u,x = .returned (.tuple #[u,.nilIface]) ∧ HtOwn w' w.heap.size u hits ∧ MsI mb v ps ⟨σ.ms,σ.last,σ.on,triedL σ.on σ.ms s.data.toList⟩ w' ∧ But (fun k => k = mb) w w':=by
  have hhl : hits.length ≤ 4812:=by
    have h3:=hA.len
    have h4 : σ.ms.length * (s.data.toList.length + 1) ≤ 12 * 401:=Nat.mul_le_mul hσ.len (by simp; omega)
    omega
  have g0 : ¬ (s.size : Int) > 400:=by omega
  have CT:=hid (ltry_any mb v ps σ w h hσ s hs hX)
  obtain ⟨qs,hqs⟩ : ∃ qs,qs = trl σ.on s.data.toList ps:=⟨_,rfl⟩
  rw [← hqs] at CT
  have hmem : ∀ x ∈ qs,x ∈ ps:=fun x hx => by rw [hqs] at hx; exact (List.mem_filter.1 hx).1
  have HME:=hid hmem
  have HMO : Hid (∀ x ∈ qs,x.1.ok):=fun x hx => (hσ.each x.1 (by rw [h.ms]; exact List.mem_map.2 ⟨x,hmem x hx,rfl⟩)).1
  have HTR : Hid (qs.length = triedL σ.on σ.ms s.data.toList):=by
    show _ = _
    unfold triedL
    rw [h.ms,← trl_map,List.length_map,hqs]
  have hAQ : AllsR s.data.toList (qs.map (·.1)) hits:=by
    rw [hqs,trl_map,← h.ms]
    exact alls_try σ.on s.data.toList σ.ms hits (fun m hm => (hσ.each m hm).1) hA
  have HAQ:=hid hAQ
  have hq12 : qs.length ≤ 12:=by
    have h1 : qs.length ≤ ps.length:=by rw [hqs]; exact List.length_filter_le _ _
    have:=h.len
    have:=hσ.len
    omega
  have H:=hid h
  have HT:=hid hT
  have HX:=hid hX
  clear h hσ hT hX hA hAQ hmem hqs
  go_enter Tryz.func14,Tryz.ntmps14
  go_wp2_with fail
  refine Calls.mono CT.out ?_
  rintro e w1 ⟨u,rfl,hO,hb⟩
  obtain ⟨qa,qc,rfl,hat⟩:=MbOwn.at hO
  have HO:=hid hO
  have HAT:=hid hat
  have HB:=hid hb
  have H1:=hid (H.out.below hb)
  have HI0 : Hid (∃ L r,HtOwn w1 w1.heap.size (.slice none 0 0) L ∧ hits = L ++ r ∧ AllsR s.data.toList ((qs.drop 0).map (·.1)) r ∧ Below w1.heap.size w1 w1):=⟨[],hits,HtOwn.nil _ _,rfl,HAQ.out,Below.refl _ _⟩
  clear hO hat hb CT
  go_wp2_with fail
  go_loopw [6,21] (fun o v wr => ∃ k : Nat,k ≤ qs.length ∧ v = .int .i64 (k : Int) ∧ Hid (∃ L r,HtOwn wr w1.heap.size o L ∧ hits = L ++ r ∧ AllsR s.data.toList ((qs.drop k).map (·.1)) r ∧ Below w1.heap.size w1 wr)) (fun _ v _ => qs.length - (intOf v).toNat)
  case atStart => exact ⟨0,by omega,rfl,HI0⟩
  case round =>
    clear HI0
    obtain ⟨i,hi,rfl,HQ⟩:=hrel
    obtain ⟨L,r,hL1,hL2,hL3,hL4⟩:=HQ.out
    obtain ⟨oa,oc,ho⟩:=owns_form hL1
    subst ho
    have HLO:=hid hL1
    have HBR:=hid hL4
    have HPT:=hid hL2
    have hLl : L.length ≤ 4812:=by have:=congrArg List.length hL2; rw [List.length_append] at this; omega
    by_cases hil : i < qs.length
    · obtain ⟨x,hx⟩ : ∃ x,qs[i]? = some x:=⟨qs[i],List.getElem?_eq_getElem hil⟩
      have i0 : (0 : Int) ≤ (i : Int):=by omega
      have i1 : (i : Int) < (qs.length : Int):=by omega
      obtain ⟨b,hbb,hmat⟩ : ∃ b,qa = some ⟨b,0,none⟩ ∧ MbAt w1 b qs:=by
        rcases HAT.out with h | h
        · rw [h] at hil; simp at hil
        · exact h
      subst hbb
      have hbw : b < w1.heap.size:=(owns_block HO.out (g:=b) rfl).2.1
      have hxm:=List.mem_of_getElem? hx
      have hNs:=H1.out.pats x (HME.out x hxm)
      have hok:=HMO.out x hxm
      obtain ⟨za,zc,hz⟩:=owns_form hNs
      obtain ⟨y0,y1,y2,y3⟩:=hmat i x hx
      have x0:=(HBR.out.cell (p:=⟨b,i * 4,none⟩) hbw).trans y0
      have x1:=(HBR.out.cell (p:=⟨b,i * 4 + 1,none⟩) hbw).trans y1
      have x2:=(HBR.out.cell (p:=⟨b,i * 4 + 2,none⟩) hbw).trans y2
      have x3:=(HBR.out.cell (p:=⟨b,i * 4 + 3,none⟩) hbw).trans y3
      obtain ⟨l,rr,hl,hrr,hre⟩ : ∃ l rr,AllR s.data.toList x.1.pat 0 l ∧ AllsR s.data.toList ((qs.drop (i + 1)).map (·.1)) rr ∧ r = l.map (fun y => (x.1.id,y.1,y.2)) ++ rr:=by
        have e : qs.drop i = x :: qs.drop (i + 1):=by
          rw [List.drop_eq_getElem_cons hil]
          rw [List.getElem?_eq_getElem hil] at hx
          rw [Option.some.inj hx]
        rw [e] at hL3
        cases hL3 with
        | cons _ _ l h h1 h2 => exact ⟨l,h,h1,h2,rfl⟩
      obtain ⟨m,z⟩:=x
      simp only at hz
      subst hz
      simp only at x0 x1 x2 x3 hl hre hok hNs
      have hwf : ∀ n ∈ m.pat.flat,n.wf:=fun n hn => good_wf (hok.good.all n hn)
      have hbA : Below wr.heap.size wr (wr.alloc (.cells #[.int .i64 (m.id : Int),.string m.text,.slice za m.pat.flat.length zc,.string m.need] 73)):=(Below.refl _ _).alloc (Nat.le_refl _) _
      have hb2:=HBR.out.trans (hbA.mono HBR.out.size)
      have CH:=hid (lhits_any m hok hwf s hs l hl za zc m.need 0 _ (HT.out.below (HB.out.trans (hb2.mono HB.out.size)) (Nat.le_refl _)) (owns_below hNs hb2))
      have hll : l.length ≤ 401:=by
        have:=hl.len
        have hlen : s.data.toList.length = s.size:=by simp
        omega
      have HBA:=hid hbA
      have HB2:=hid hb2
      have HRR:=hid hrr
      have HRE:=hid hre
      obtain ⟨F,hF⟩ : ∃ F,F = l.map (fun y => (m.id,y.1,y.2)):=⟨_,rfl⟩
      have hFl : F.length ≤ 401:=by rw [hF,List.length_map]; exact hll
      rw [← hF] at CH HRE
      clear hx hmat y0 y1 y2 y3 hxm hNs hok hl hrr hre hwf hbA hb2 hL1 hL2 hL3 hL4 HQ hF hll
      go_wp2_with fail
      refine Calls.mono CH.out ?_
      rintro e w3 ⟨fu,rfl,hfu,hb3⟩
      obtain ⟨fa,fc,hff⟩:=owns_form hfu
      subst hff
      have hb4:=HB2.out.trans (hb3.mono HB2.out.size)
      have HLO3:=hid (owns_below (owns_below HLO.out HBA.out) hb3)
      have HFU:=hid hfu
      have HB4:=hid hb4
      clear hfu hb3 hb4 CH HBA HB2 x0 x1 x2 x3
      by_cases hF0 : F = []
      · subst hF0
        go_wp2_with (at_builtin; refine wpList_append_hte rfl _ _ rfl w1.heap.size _ rfl L HLO3.out fa fc rfl ?_)
        have HQ2 : Hid (∃ L' r',HtOwn w3 w1.heap.size (.slice oa L.length oc) L' ∧ hits = L' ++ r' ∧ AllsR s.data.toList ((qs.drop (i + 1)).map (·.1)) r' ∧ Below w1.heap.size w1 w3):=⟨L,rr,HLO3.out,by rw [HPT.out,HRE.out,List.nil_append],HRR.out,HB4.out⟩
        exact ⟨⟨i + 1,by omega,by go_num,HQ2⟩,by simp [intOf]; omega⟩
      · obtain ⟨fb,hfb,hfat⟩ : ∃ fb off,fa = some ⟨fb,off,none⟩ ∧ HtAt w3 fb off F:=by
          obtain ⟨a',c',e,_,h | ⟨b',off',h1,_,h2⟩⟩:=HFU.out.isIn (by unfold maxLen; omega)
          · exact absurd h hF0
          · injection e with e _ _
            exact ⟨b',off',e.trans h1,h2⟩
        obtain ⟨rfl,hfat⟩:=hfat
        have HFA:=hid hfat
        have hF1 : 0 < F.length:=List.length_pos_iff.2 hF0
        clear hfat hF0
        go_wp2_with (at_builtin; refine wpList_append_hts rfl _ _ rfl w1.heap.size _ rfl L HLO3.out fb hfb fc F rfl hF1 HFA.out (by omega) (by have:=HB4.out.size; omega) ?_; intro g5 c5 w5 ho5 hg5)
        have HQ2 : Hid (∃ L' r',HtOwn w5 w1.heap.size (.slice (some ⟨g5,0,none⟩) (L.length + F.length) c5) L' ∧ hits = L' ++ r' ∧ AllsR s.data.toList ((qs.drop (i + 1)).map (·.1)) r' ∧ Below w1.heap.size w1 w5):=⟨L ++ F,rr,by rw [← List.length_append]; exact ho5,by rw [HPT.out,HRE.out,List.append_assoc],HRR.out,HB4.out.trans (owns_grown HLO3.out (by have:=HB4.out.size; omega) hg5)⟩
        exact ⟨⟨i + 1,by omega,by go_num,HQ2⟩,by simp [intOf]; omega⟩
    · have g1 : ¬ (i : Int) < (qs.length : Int):=by omega
      obtain rfl : i = qs.length:=by omega
      rw [List.drop_length] at hL3
      cases hL3
      rw [List.append_nil] at hL2
      subst hL2
      obtain ⟨d0,-,-,d3,df⟩:=(H1.out.below hL4).cells
      have f3:=df 3
      have hbx:=(H1.out.below hL4).box
      have HBX:=hid hbx
      have HM:=hid (H1.out.below hL4)
      clear df hbx HQ hL4 hL1 d0
      go_wp2
      have hg:=grown_cellR wr ⟨mb,3,none⟩ (.int .i64 (qs.length : Int))
      have hrow:=owns_other HLO.out HBX.out (by decide) hg
      have hmi : MsI mb v ps ⟨σ.ms,σ.last,σ.on,qs.length⟩ (wr.setCell ⟨mb,3,none⟩ (.int .i64 (qs.length : Int))):=HM.out.put hg rfl (by simp [World.setCell,Array.getElem?_modify,HBX.out])
      have hbut : But (fun k => k = mb) w (wr.setCell ⟨mb,3,none⟩ (.int .i64 (qs.length : Int))):=(But.below (HB.out.trans (HBR.out.mono HB.out.size))).trans (But.grown (F:=fun k => k = mb) hg (fun k e => by injection e with e; exact e.symm)) (fun k hk => Or.inl hk)
      have HZ : Hid (HtOwn (wr.setCell ⟨mb,3,none⟩ (.int .i64 (qs.length : Int))) w.heap.size (.slice oa hits.length oc) hits ∧ MsI mb v ps ⟨σ.ms,σ.last,σ.on,triedL σ.on σ.ms s.data.toList⟩ (wr.setCell ⟨mb,3,none⟩ (.int .i64 (qs.length : Int))) ∧ But (fun k => k = mb) w (wr.setCell ⟨mb,3,none⟩ (.int .i64 (qs.length : Int)))):=⟨World.ownsRow.mono hrow HB.out.size,by rw [← HTR.out]; exact hmi,hbut⟩
      clear hg hrow hmi hbut
      go_ret2
      exact ⟨_,rfl,HZ.out.1,HZ.out.2.1,HZ.out.2.2⟩
theorem lscan_any (mb : Nat) (v : Value) (ps : List (Mbr × Value)) (σ σ' : SetS) (w : World) (h : MsI mb v ps σ w) (hσ : σ.Ok) (s : ByteArray) (hs : s.size ≤ maxLen) (hT : Tab w) (hX : Mxl w) (e : Int) (hits : List (Nat × Nat × Nat)) (g : ScanR σ s e hits σ') :
    Calls Tryz.prog 14 #[.pointer (some ⟨mb,0,none⟩),.string s] w fun x w' => ∃ u,x = .returned (.tuple #[u,errV e]) ∧ HtOwn w' w.heap.size u hits ∧ MsI mb v ps σ' w' ∧ But (fun k => k = mb) w w':=by
  cases g with
  | full h4 =>
    refine (lscan_full mb w s hs h4).mono ?_
    rintro x w' ⟨rfl,rfl⟩
    exact ⟨_,rfl,HtOwn.nil _ _,h,But.refl _ _⟩
  | ok hits h4 hA => exact lscan_ok mb v ps σ w h hσ s h4 hT hX hits hA
def Xs (w : World) : Prop:=Tab w ∧ Mxl w
theorem HtOwn.offL {w : World} {B : Nat} {v : Value} {l : List (Nat × Nat × Nat)} (h : HtOwn w B v l) (hm : l.length ≤ maxLen) : HtOff (fun k => k < B) w v l:=by
  have hi:=h.isIn hm
  rcases h.2 with ⟨hv,h0⟩ | ⟨g,cap,cur,hv,hb,hg,_⟩
  · exact ⟨none,0,by rw [hv,h0],hm,Or.inl (List.eq_nil_of_length_eq_zero h0)⟩
  · obtain ⟨a,c,hv2,_,hq⟩:=hi
    refine ⟨a,c,hv2,hm,?_⟩
    rcases hq with hq | ⟨b,off,ha,hlt,hat⟩
    · exact Or.inl hq
    · refine Or.inr ⟨b,off,ha,hlt,?_,hat⟩
      rw [hv] at hv2
      injection hv2 with e _ _
      rw [ha] at e
      injection e with e
      injection e with e _ _
      omega
theorem own_new {w : World} {B n k : Nat} {T : TypeId} {v : Value} {xs : List Value} (h : w.ownsRow B T n v k xs) : NewAt B v:=fun g e => (owns_block h e).1
theorem lscan_out (F : Nat → Prop) (w : World) (u : Value) (σ : SetS) (s : ByteArray) (e : Int) (h : List (Nat × Nat × Nat)) (σ' : SetS) (hX : Xs w) (hS : SvL F w u σ) (hσ : σ.Ok) (hs : s.size ≤ maxLen) (g : ScanR σ s e h σ') :
    Calls Tryz.prog 14 #[u,.string s] w fun x w' => ∃ v,x = .returned (.tuple #[v,errV e]) ∧ NewAt w.heap.size v ∧ Turns F w w' (fun F' => SvL F' w' u σ' ∧ HtOff F' w' v h):=by
  obtain ⟨mb,v,ps,rfl,hm,hF⟩:=hS
  refine (lscan_any mb v ps σ σ' w hm hσ s hs hX.1 hX.2 e h g).mono ?_
  rintro x w' ⟨z,rfl,hO,hm',hb⟩
  have hl : h.length ≤ maxLen:=by have:=g.len hσ; unfold maxLen; omega
  refine ⟨z,rfl,own_new hO,F,⟨⟨mb,v,ps,rfl,hm',hF⟩,?_⟩,hb.mono (fun k _ hk => (hF k).2 (Or.inl hk)),fun k hk => Or.inl hk⟩
  obtain ⟨a,c,h1,h2,h3⟩:=hO.offL hl
  refine ⟨a,c,h1,h2,?_⟩
  rcases h3 with h3 | ⟨b,off,h4,h5,h6,h7⟩
  · exact Or.inl h3
  · exact Or.inr ⟨b,off,h4,h5,fun hf => h6 (hm.lt ((hF b).1 hf)),h7⟩
theorem llist_out (F : Nat → Prop) (w : World) (u : Value) (σ : SetS) (hS : SvL F w u σ) (hσ : σ.Ok) :
    Calls Tryz.prog 17 #[u] w fun x w' => ∃ v,x = .returned v ∧ (ItIn w' v σ.items ∧ NewAt w.heap.size v) ∧ Below w.heap.size w w':=by
  obtain ⟨mb,v,ps,rfl,hm,hF⟩:=hS
  refine (llist_any mb v ps σ w hm hσ).mono ?_
  rintro x w' ⟨z,rfl,hO,hb⟩
  have hl : σ.items.length ≤ maxLen:=by
    have:=hσ.len
    have e : σ.items.length = σ.ms.length:=by simp [SetS.items]
    unfold maxLen
    omega
  exact ⟨z,rfl,⟨hO.isIn hl,own_new hO⟩,hb⟩
theorem turnsL {mb : Nat} {v v' : Value} {ps ps' : List (Mbr × Value)} {σ' : SetS} {F : Nat → Prop} {w w' : World} (hF : ∀ k,F k ↔ FootL mb v ps k) (hm : MsI mb v' ps' σ' w') (hb : But (FootL mb v ps) w w') (ho : Onto (FootL mb v ps) (FootL mb v' ps') w) : Turns F w w' (fun F' => SvL F' w' (.pointer (some ⟨mb,0,none⟩)) σ') :=
  ⟨FootL mb v' ps',⟨mb,v',ps',rfl,hm,fun _ => Iff.rfl⟩,hb.mono (fun k _ hk => (hF k).2 hk),fun k hk => (ho k hk).imp (fun h => (hF k).2 h) id⟩
theorem setC : SetC Xs SvL where
  lt:=fun F w u σ h => h.lt
  ptr:=fun F w u σ h => h.ptr
  keep:=fun F G w w' u σ h hb hG => h.keep hb hG
  new:=fun w _ => lnew_any w
  add:=by
    rintro F w u σ s n k e σ' hX ⟨mb,v,ps,rfl,hm,hF⟩ hσ hl hs ha
    refine (ladd_any mb v ps σ σ' w hm hσ hl s hs n k e ha).mono ?_
    rintro x w' ⟨rfl,v',ps',h1,h2,h3⟩
    exact ⟨rfl,turnsL hF h1 h2 h3⟩
  remove:=by
    rintro F w u σ n hX ⟨mb,v,ps,rfl,hm,hF⟩ hσ
    refine (lremove_any mb v ps σ w hm hσ n).mono ?_
    rintro x w' ⟨rfl,v',ps',h1,h2,h3⟩
    exact ⟨rfl,turnsL hF h1 h2 h3⟩
  list:=fun F w u σ hX hS hσ => (llist_out F w u σ hS hσ).mono fun _ _ ⟨v,h1,h2,h3⟩ => ⟨v,h1,h2.1,h3⟩
  scan:=fun F w u σ s e h σ' hX hS hσ hs g => (lscan_out F w u σ s e h σ' hX hS hσ hs g).mono fun _ _ ⟨v,h1,_,h3⟩ => ⟨v,h1,h3⟩
  filter:=by
    rintro F w u σ b hX ⟨mb,v,ps,rfl,hm,hF⟩ hσ
    refine (lfilter_any mb v ps σ w hm b).mono ?_
    rintro x w' ⟨rfl,h1,h2⟩
    exact ⟨rfl,turnsL hF h1 h2 (fun k hk => Or.inl hk)⟩
theorem setT : SetT Xs SvL where
  tried:=by
    rintro F w u σ hX ⟨mb,v,ps,rfl,hm,hF⟩ hσ
    refine (ltried_any mb v ps σ w hm).mono ?_
    rintro x w' ⟨rfl,rfl⟩
    exact ⟨rfl,Below.refl _ _⟩
theorem setN : SetN Xs SvL where
  list:=fun F w u σ hX hS hσ => llist_out F w u σ hS hσ
  scan:=fun F w u σ s e h σ' hX hS hσ hs g => lscan_out F w u σ s e h σ' hX hS hσ hs g
theorem lasts_xs : Lasts Xs:=fun w w' h hb => ⟨h.1.below hb (Nat.le_refl _),h.2.below hb (Nat.le_refl _)⟩
end Go.Proofs.YtcjghhedphmhkaaGreatDoor
namespace Go.Proofs.YtcjghhedphmhkaaGreatDoor
open Go.ChangeShapes Go.WideShapes Go.ChangeAt Go.RowKit
theorem mxl_of_shaped {W : World} (h : W.ShapedOpen Tryz.prog) : Mxl W :=
  cell_of_shapedOpen_int (g:=1) (t:=3) (zero:=#[.int .i64 0]) h (by decide +kernel) (by kernel_rfl) rfl (by kernel_rfl) (by kernel_rfl) Tryz.underlying3
end Go.Proofs.YtcjghhedphmhkaaGreatDoor
namespace Go.Proofs.YtcjghhedphmhkaaGreatDoor
open Go.RowKit
def sgn (j : Nat) : Int:=([92,46,91,93,40,41,124,42,43,63,94,36,45] : List Int).getD j 0
def signedB (x : Int) : Bool:=([92,46,91,93,40,41,124,42,43,63,94,36,45] : List Int).any (· == x)
theorem sgn_index (j : Nat) (h : j < 13) (w : World) : (Instr.index 9 (.string ⟨#[92,46,91,93,40,41,124,42,43,63,94,36,45]⟩) (.int .i64 j)).run Tryz.prog w = .ok (.int .u8 (sgn j)) w:=by
  match j,h with
  | 0,_ | 1,_ | 2,_ | 3,_ | 4,_ | 5,_ | 6,_ | 7,_ | 8,_ | 9,_ | 10,_ | 11,_ | 12,_ => go_simp; rfl
theorem signed_of (x : Int) (h : ∃ j,j < 13 ∧ sgn j = x) : signedB x = true:=by
  obtain ⟨j,hj,rfl⟩:=h
  have key : ∀ j : Fin 13,signedB (sgn j.val) = true:=by decide
  exact key ⟨j,hj⟩
theorem signed_not (x : Int) (h : ∀ j,j < 13 → sgn j ≠ x) : signedB x = false:=by
  have k0:=h 0 (by decide); have k1:=h 1 (by decide); have k2:=h 2 (by decide); have k3:=h 3 (by decide)
  have k4:=h 4 (by decide); have k5:=h 5 (by decide); have k6:=h 6 (by decide); have k7:=h 7 (by decide)
  have k8:=h 8 (by decide); have k9:=h 9 (by decide); have k10:=h 10 (by decide); have k11:=h 11 (by decide); have k12:=h 12 (by decide)
  simp [sgn] at k0 k1 k2 k3 k4 k5 k6 k7 k8 k9 k10 k11 k12
  simp [signedB, *]
theorem signed_any (x : Int) (w : World) :
    Calls Tryz.prog 107 #[.int .u8 x] w fun e w' => e = .returned (.bool (signedB x)) ∧ w' = w:=by
  go_enter Tryz.func107,Tryz.ntmps107
  go_wp2
  go_loop [3] (fun v => ∃ j : Nat,j ≤ 13 ∧ v = .int .i64 j ∧ Hid (∀ i,i < j → sgn i ≠ x)) (fun v => 13 - (intOf v).toNat)
  case atStart => exact ⟨0,by omega,rfl,fun i hi => by omega⟩
  case round =>
    obtain ⟨j,hj,rfl,HN⟩:=hrel
    by_cases hlt : j < 13
    · have hi:=sgn_index j hlt
      have i1 : (j : Int) < 13:=by omega
      by_cases he : sgn j = x
      · have he2 : (sgn j == x) = true:=by simp [he]
        have HX : Hid (signedB x = true):=signed_of x ⟨j,hlt,he⟩
        clear he
        go_wp2
        go_ret
        exact ⟨by rw [HX.out]; rfl,rfl⟩
      · have he2 : (sgn j == x) = false:=by simp [he]
        have HX : Hid (∀ i,i < j + 1 → sgn i ≠ x):=fun i hi => by
          by_cases e : i = j
          · rw [e]; exact he
          · exact HN.out i (by omega)
        clear he
        go_wp2
        exact ⟨⟨j + 1,by omega,by go_num,HX⟩,by simp [intOf]; omega⟩
    · have hj2 : j = 13:=by omega
      subst hj2
      have HX : Hid (signedB x = false):=signed_not x HN.out
      go_wp2
      go_ret
      exact ⟨by rw [HX.out]; rfl,rfl⟩
def RdB (w : World) (g : Nat) (s : ByteArray) (a bd : Int) : Prop:=w.heap[g]? = some (.cells #[.string s,.int .i64 a,.int .i64 bd] 93 (0,0))
theorem RdB.all {w : World} {g : Nat} {s : ByteArray} {a bd : Int} (h : RdB w g s a bd) : w.cell? ⟨g,0,none⟩ = some (.string s) ∧ w.cell? ⟨g,1,none⟩ = some (.int .i64 a) ∧ w.cell? ⟨g,2,none⟩ = some (.int .i64 bd) ∧ w.frozen? ⟨g,1,none⟩ = false ∧ w.frozen? ⟨g,2,none⟩ = false:=by
  refine ⟨?_,?_,?_,Lib.frozen_of_heap h 1,Lib.frozen_of_heap h 2⟩ <;> (rw [Lib.cell_of_heap h]; rfl)
theorem RdB.lt {w : World} {g : Nat} {s : ByteArray} {a bd : Int} (h : RdB w g s a bd) : g < w.heap.size:=by
  rcases Nat.lt_or_ge g w.heap.size with h' | h'
  · exact h'
  · simp [RdB,Array.getElem?_eq_none h'] at h
theorem RdB.setAt {w : World} {g : Nat} {s : ByteArray} {a bd : Int} (h : RdB w g s a bd) (z : Int) : RdB (w.setCell ⟨g,1,none⟩ (.int .i64 z)) g s z bd:=by
  simp only [RdB] at h ⊢
  simp [World.setCell,Array.getElem?_modify,h]
theorem RdB.setBad {w : World} {g : Nat} {s : ByteArray} {a bd : Int} (h : RdB w g s a bd) (z : Int) : RdB (w.setCell ⟨g,2,none⟩ (.int .i64 z)) g s a z:=by
  simp only [RdB] at h ⊢
  simp [World.setCell,Array.getElem?_modify,h]
theorem RdB.below {w w' : World} {g : Nat} {s : ByteArray} {a bd : Int} (h : RdB w g s a bd) (hb : Below w.heap.size w w') : RdB w' g s a bd:=(hb.block g h.lt).trans h
theorem grown_at (w : World) (g : Nat) (i : Nat) (v : Value) : w.grownBy (w.setCell ⟨g,i,none⟩ v) (some g):=Lib.grownBy_setB (World.grownBy.refl w _) i v
theorem below_grown {w w' : World} (hb : Below w.heap.size w w') (row : Option Nat) : w.grownBy w' row:=⟨hb.os,hb.tape,hb.output,hb.size,fun k hk _ => hb.block k hk⟩
theorem len_str (s : ByteArray) : s.data.toList.length = s.size:=Array.length_toList
theorem idx_at (s : ByteArray) (a : Nat) (c : UInt8) (h : s.data.toList[a]? = some c) (w : World) : (Instr.index 9 (.string s) (.int .i64 (a : Int))).run Tryz.prog w = .ok (.int .u8 (c.toNat : Int)) w:=by
  have hl : a < s.data.toList.length:=by
    rcases Nat.lt_or_ge a s.data.toList.length with h' | h'
    · exact h'
    · rw [List.getElem?_eq_none h'] at h; cases h
  have hs : a < s.size:=by rw [← len_str]; exact hl
  rw [run_index_string w 9 s .i64 (a : Int) Tryz.underlying9,dif_pos ⟨by omega,by omega⟩]
  rw [List.getElem?_eq_getElem hl] at h
  have e : s[(a : Int).toNat]'(by simpa using hs) = c:=by
    exact Option.some.inj h
  rw [e]
theorem drop_cons (L : List UInt8) (a : Nat) (c : UInt8) (r : List UInt8) (h : L.drop a = c :: r) : L[a]? = some c ∧ L.drop (a + 1) = r ∧ a < L.length:=by
  have hl : a < L.length:=by
    rcases Nat.lt_or_ge a L.length with h' | h'
    · exact h'
    · rw [List.drop_eq_nil_of_le h'] at h; cases h
  rw [List.drop_eq_getElem_cons hl] at h
  injection h with h1 h2
  exact ⟨by rw [List.getElem?_eq_getElem hl,h1],h2,hl⟩
theorem drop_nil' (L : List UInt8) (a : Nat) (h : L.drop a = []) : L.length ≤ a:=by
  rcases Nat.lt_or_ge a L.length with h' | h'
  · rw [List.drop_eq_getElem_cons h'] at h; cases h
  · exact h'
theorem fail_first (g : Nat) (s : ByteArray) (a bd z : Int) (w : World) (h : RdB w g s a bd) (hbd : bd < 0) :
    Calls Tryz.prog 38 #[.pointer (some ⟨g,0,none⟩),.int .i64 z] w fun e w' => e = .returned (.tuple #[]) ∧ RdB w' g s a z ∧ w.grownBy w' (some g):=by
  obtain ⟨c0,c1,c2,f1,f2⟩:=h.all
  have H : Hid _:=h
  clear h
  go_enter Tryz.func38,Tryz.ntmps38
  go_wp2
  go_end0
  exact ⟨rfl,RdB.setBad H.out z,grown_at _ _ _ _⟩
theorem fail_more (g : Nat) (s : ByteArray) (a bd z : Int) (w : World) (h : RdB w g s a bd) (hbd : ¬ bd < 0) :
    Calls Tryz.prog 38 #[.pointer (some ⟨g,0,none⟩),.int .i64 z] w fun e w' => e = .returned (.tuple #[]) ∧ w' = w:=by
  obtain ⟨c0,c1,c2,f1,f2⟩:=h.all
  clear h
  go_enter Tryz.func38,Tryz.ntmps38
  go_wp2
  go_end0
  exact ⟨rfl,rfl⟩
theorem sees_bad (g : Nat) (s : ByteArray) (a bd z : Int) (w : World) (h : RdB w g s a bd) (hbd : ¬ bd < 0) :
    Calls Tryz.prog 55 #[.pointer (some ⟨g,0,none⟩),.int .u8 z] w fun e w' => e = .returned (.bool false) ∧ Below w.heap.size w w':=by
  obtain ⟨c0,c1,c2,f1,f2⟩:=h.all
  clear h
  have hbd2 : decide (bd < 0) = false:=by simp; omega
  go_enter Tryz.func55,Tryz.ntmps55
  go_wp2_with fail
  go_quiet (fail)
  go_wp2
  go_ret
  exact ⟨rfl,below_drewN' w nq⟩
theorem sees_ok (g : Nat) (s : ByteArray) (a : Nat) (l : List UInt8) (hl : s.data.toList.drop a = l) (b : UInt8) (z : Int) (hz : z = (b.toNat : Int)) (w : World) (h : RdB w g s a (-1)) (hs : s.size ≤ 1000000) :
    Calls Tryz.prog 55 #[.pointer (some ⟨g,0,none⟩),.int .u8 z] w fun e w' => e = .returned (.bool (decide (l.head? = some b))) ∧ Below w.heap.size w w':=by
  subst hz
  obtain ⟨c0,c1,c2,f1,f2⟩:=h.all
  clear h
  cases l with
  | nil =>
    have h1:=drop_nil' _ _ hl
    have h2 : ¬ (a : Int) < (s.size : Int):=by
      have:=len_str s
      omega
    have h4 : decide (a < s.size) = false:=by simp; omega
    clear hl h1
    go_enter Tryz.func55,Tryz.ntmps55
    go_wp2_with fail
    go_quiet (fail)
    go_wp2
    go_ret
    exact ⟨rfl,below_drewN' w nq⟩
  | cons c r =>
    obtain ⟨h1,_,h3⟩:=drop_cons _ _ _ _ hl
    have h2 : (a : Int) < (s.size : Int):=by
      have:=len_str s
      omega
    have hi:=idx_at s a c h1
    have h4 : decide (a < s.size) = true:=by simp; omega
    clear hl h1 h3
    by_cases hc : c = b
    · subst hc
      have e : ((c.toNat : Int) == (c.toNat : Int)) = true:=by simp
      have HX : Hid (decide ((c :: r).head? = some c) = true):=by show _ = _; simp
      rw [HX.out]
      go_enter Tryz.func55,Tryz.ntmps55
      go_wp2_with fail
      go_quiet (fail)
      go_wp2
      go_ret
      exact ⟨rfl,below_drewN' w nq⟩
    · have e : ((c.toNat : Int) == (b.toNat : Int)) = false:=by
        rw [beq_eq_false_iff_ne]
        intro h
        exact hc (UInt8.toNat_inj.1 (by omega))
      have HX : Hid (decide ((c :: r).head? = some b) = false):=by show _ = _; simp [hc]
      rw [HX.out]
      clear hc
      go_enter Tryz.func55,Tryz.ntmps55
      go_wp2_with fail
      go_quiet (fail)
      go_wp2
      go_ret
      exact ⟨rfl,below_drewN' w nq⟩
def hexI (c : UInt8) : Int:=match hx c with | none => -1 | some a => a
def hdg (j : Nat) : Int:=([48,49,50,51,52,53,54,55,56,57,97,98,99,100,101,102] : List Int).getD j 0
theorem hdg_index (j : Nat) (h : j < 16) (w : World) : (Instr.index 9 (.string ⟨#[48,49,50,51,52,53,54,55,56,57,97,98,99,100,101,102]⟩) (.int .i64 j)).run Tryz.prog w = .ok (.int .u8 (hdg j)) w:=by
  match j,h with
  | 0,_ | 1,_ | 2,_ | 3,_ | 4,_ | 5,_ | 6,_ | 7,_ | 8,_ | 9,_ | 10,_ | 11,_ | 12,_ | 13,_ | 14,_ | 15,_ => go_simp; rfl
  | n + 16,h => omega
theorem hex_yes (c : UInt8) (j : Nat) (hj : j < 16) (h : hdg j = (c.toNat : Int)) : hexI c = (j : Int):=by
  have key : ∀ c : Fin 256,∀ j : Fin 16,hdg j.val = (c.val : Int) → hexI (UInt8.ofNat c.val) = (j.val : Int):=by decide +kernel
  have:=key ⟨c.toNat,c.toNat_lt⟩ ⟨j,hj⟩ h
  simpa using this
theorem hex_no (c : UInt8) (h : ∀ j,j < 16 → hdg j ≠ (c.toNat : Int)) : hexI c = -1:=by
  have key : ∀ c : Fin 256,(∀ j : Fin 16,hdg j.val ≠ (c.val : Int)) → hexI (UInt8.ofNat c.val) = -1:=by decide +kernel
  have:=key ⟨c.toNat,c.toNat_lt⟩ (fun j => h j.val j.isLt)
  simpa using this
theorem hex_any (c : UInt8) (w : World) :
    Calls Tryz.prog 108 #[.int .u8 (c.toNat : Int)] w fun e w' => e = .returned (.int .i64 (hexI c)) ∧ w' = w:=by
  go_enter Tryz.func108,Tryz.ntmps108
  go_wp2
  go_loop [3] (fun v => ∃ j : Nat,j ≤ 16 ∧ v = .int .i64 j ∧ Hid (∀ i,i < j → hdg i ≠ (c.toNat : Int))) (fun v => 16 - (intOf v).toNat)
  case atStart => exact ⟨0,by omega,rfl,fun i hi => by omega⟩
  case round =>
    obtain ⟨j,hj,rfl,HN⟩:=hrel
    by_cases hlt : j < 16
    · have hi:=hdg_index j hlt
      have i1 : (j : Int) < 16:=by omega
      by_cases he : hdg j = (c.toNat : Int)
      · have he2 : (hdg j == (c.toNat : Int)) = true:=by simp [he]
        have HX : Hid (hexI c = (j : Int)):=hex_yes c j hlt he
        clear he
        go_wp2
        go_ret
        exact ⟨by rw [HX.out]; rfl,rfl⟩
      · have he2 : (hdg j == (c.toNat : Int)) = false:=by simp [he]
        have HX : Hid (∀ i,i < j + 1 → hdg i ≠ (c.toNat : Int)):=fun i hi => by
          by_cases e : i = j
          · rw [e]; exact he
          · exact HN.out i (by omega)
        clear he
        go_wp2
        exact ⟨⟨j + 1,by omega,by go_num,HX⟩,by simp [intOf]; omega⟩
    · have hj2 : j = 16:=by omega
      subst hj2
      have HX : Hid (hexI c = -1):=hex_no c HN.out
      go_wp2
      go_ret
      exact ⟨by rw [HX.out]; rfl,rfl⟩
def VsOwn (w : World) (base : Nat) (v : Value) (vs : List Value) : Prop:=w.ownsRow base 60 1 v vs.length vs
theorem VsOwn.nil (w : World) (base : Nat) : VsOwn w base (.slice none 0 0) []:=World.ownsRow_nil w base _ _
theorem VsOwn.below {w w' : World} {base : Nat} {v : Value} {vs : List Value} (h : VsOwn w base v vs) (hb : Below w.heap.size w w') : VsOwn w' base v vs:=by
  refine World.ownsRow.kept (row:=none) h ⟨hb.os,hb.tape,hb.output,hb.size,fun k hk _ => hb.block k hk⟩ ?_
  cases hv : v.ownBlock with
  | none => exact Or.inl rfl
  | some x => exact Or.inr (by simp)
theorem VsOwn.keptG {w w' : World} {B g : Nat} {v : Value} {vs : List Value} (h : VsOwn w B v vs) (hg : w.grownBy w' (some g)) (hlt : g < B) : VsOwn w' B v vs:=by
  refine World.ownsRow.kept h hg ?_
  rcases h.2 with ⟨hv,_⟩ | ⟨b,cap,cur,hv,hb,_⟩
  · rw [hv]; exact Or.inl rfl
  · rw [hv]
    refine Or.inr ?_
    intro e
    injection e with e
    simp only at e
    omega
theorem VsOwn.block {w : World} {B : Nat} {v : Value} {vs : List Value} (h : VsOwn w B v vs) (k : Nat) (hk : v.ownBlock = some k) : B ≤ k ∧ k < w.heap.size ∧ ∃ cur,w.heap[k]? = some (.cells cur 60 (0,0)):=by
  rcases h.2 with ⟨hv,_⟩ | ⟨b,cap,cur,hv,hb,hh,_⟩
  · rw [hv] at hk; cases hk
  · rw [hv] at hk
    injection hk with hk
    simp only at hk
    subst hk
    refine ⟨hb,?_,cur,hh⟩
    rcases Nat.lt_or_ge b w.heap.size with hlt | hge
    · exact hlt
    · rw [Array.getElem?_eq_none hge] at hh; cases hh
theorem VsOwn.form {w : World} {B : Nat} {v : Value} {vs : List Value} (h : VsOwn w B v vs) : ∃ a cap,v = .slice a vs.length cap:=by
  rcases h.2 with ⟨hv,h0⟩ | ⟨b,cap,cur,hv,_⟩
  · have : vs.length = 0:=h0
    exact ⟨none,0,by rw [hv,this]⟩
  · exact ⟨_,cap,hv⟩
theorem VsOwn.form1 {w : World} {B : Nat} {v : Value} {vs : List Value} (h : VsOwn w B v vs) (h0 : 0 < vs.length) : ∃ b cap,v = .slice (some ⟨b,0,none⟩) vs.length cap ∧ b < w.heap.size ∧ ∀ j u,vs[j]? = some u → w.cell? ⟨b,j,none⟩ = some u:=by
  rcases h.2 with ⟨hv,h1⟩ | ⟨g,cap,cur,hv,hb,hg,_,_,hs,ht⟩
  · omega
  · refine ⟨g,cap,hv,?_,?_⟩
    · rcases Nat.lt_or_ge g w.heap.size with hlt | hge
      · exact hlt
      · rw [Array.getElem?_eq_none hge] at hg; cases hg
    · intro j u hj
      rw [Lib.cell_of_heap hg]
      rw [← ht,List.getElem?_take] at hj
      split at hj
      · simpa using hj
      · cases hj
theorem NsOwn.keptV {w w' : World} {B B' : Nat} {u v : Value} {ns : List Nd} {vs : List Value} (h : NsOwn w B u ns) (hv : VsOwn w B' v vs) (hg : w.grownBy w' v.ownBlock) : NsOwn w' B u ns:=by
  refine World.ownsRow.kept h hg ?_
  rcases h.2 with ⟨hu,_⟩ | ⟨b,cap,cur,hu,hb,hh,_⟩
  · rw [hu]; exact Or.inl rfl
  · rw [hu]
    refine Or.inr ?_
    intro e
    obtain ⟨_,_,cur',hh'⟩:=hv.block b e.symm
    rw [hh] at hh'
    injection hh' with hh'
    injection hh' with _ hh' _
    exact absurd hh' (by decide)
def Pool (w : World) (B : Nat) : List Value → List (List Nd) → Prop
  | [],[] => True
  | u :: us,ns :: nss => (NsOwn w B u ns ∧ 0 < ns.length) ∧ Pool w B us nss
  | _,_ => False
theorem Pool.map {w w' : World} {B B' : Nat} (hk : ∀ u ns,NsOwn w B u ns → NsOwn w' B' u ns) : ∀ {us : List Value} {nss : List (List Nd)},Pool w B us nss → Pool w' B' us nss
  | [],[],_ => trivial
  | u :: us,ns :: nss,h => ⟨⟨hk u ns h.1.1,h.1.2⟩,Pool.map hk h.2⟩
  | [],_ :: _,h => h.elim
  | _ :: _,[],h => h.elim
theorem Pool.len {w : World} {B : Nat} : ∀ {us : List Value} {nss : List (List Nd)},Pool w B us nss → us.length = nss.length
  | [],[],_ => rfl
  | u :: us,ns :: nss,h => by simp [Pool.len h.2]
  | [],_ :: _,h => h.elim
  | _ :: _,[],h => h.elim
theorem Pool.snoc {w : World} {B : Nat} {u : Value} {ns : List Nd} (hu : NsOwn w B u ns) (h0 : 0 < ns.length) : ∀ {us : List Value} {nss : List (List Nd)},Pool w B us nss → Pool w B (us ++ [u]) (nss ++ [ns])
  | [],[],_ => ⟨⟨hu,h0⟩,trivial⟩
  | v :: us,ms :: nss,h => ⟨h.1,Pool.snoc hu h0 h.2⟩
  | [],_ :: _,h => h.elim
  | _ :: _,[],h => h.elim
theorem Pool.get {w : World} {B : Nat} : ∀ {us : List Value} {nss : List (List Nd)},Pool w B us nss → ∀ (i : Nat) (ns : List Nd),nss[i]? = some ns → ∃ u,us[i]? = some u ∧ NsOwn w B u ns ∧ 0 < ns.length
  | [],[],_,i,ns,h => by simp at h
  | u :: us,ms :: nss,h,0,ns,hn => by
    simp at hn
    subst hn
    exact ⟨u,rfl,h.1⟩
  | u :: us,ms :: nss,h,i + 1,ns,hn => by
    obtain ⟨v,h1,h2⟩:=Pool.get h.2 i ns (by simpa using hn)
    exact ⟨v,by simpa using h1,h2⟩
  | [],_ :: _,h,_,_,_ => h.elim
  | _ :: _,[],h,_,_,_ => h.elim
theorem wpList_append_vs {ops : Array Oper} {rest : List Oper} {o : Oper} {a : Act} {Q : Exit → Act → World → Prop} {w : World} (hgd : o.guard = none) (s x : Operand)
    (ho : o.op = .call { callee:=.builtin .append,args:=#[s,x],argTypes:=#[27,27] })
    (B : Nat) (v : Value) (hs : a.eval s = v) (vs : List Value) (hown : VsOwn w B v vs) (g2 m2 c2 : Nat) (u : Value) (hu : u.oneCell' = true) (hx : a.eval x = .slice (some ⟨g2,0,none⟩) m2 c2) (hm2 : m2 = 1)
    (hnews : w.cell? ⟨g2,0,none⟩ = some u) (hbytes : (vs.length + 1) * 24 ≤ 140737488355328) (hbase : B ≤ w.heap.size)
    (h : ∀ g cap w',VsOwn w' B (.slice (some ⟨g,0,none⟩) (vs.length + 1) cap) (vs ++ [u]) → w.grownBy w' v.ownBlock → B ≤ g → wpList Tryz.prog ops Q rest (a.put o.dst (.slice (some ⟨g,0,none⟩) (vs.length + 1) cap)) w') : wpList Tryz.prog ops Q (o :: rest) a w:=by
  subst hm2
  have hinfo : (Tryz.prog.info? 60).map (fun i => (i.zero,i.size,i.bytes)) = some (some (.slice none 0 0),1,24):=by kernel_rfl
  obtain ⟨i0,hi,hz0,hz1,hz2⟩:=info_parts hinfo
  refine wpList_append_lies w hgd s x 27 ho B 60 i0 _ 1 24 Tryz.underlying27 hi hz0 hz1 hz2 rfl (by decide) v vs.length vs hs hown ⟨g2,0,none⟩ 1 c2 [u] hx rfl ?_ (by intro z hz; simp at hz; rw [hz]; exact hu) (by decide) (by unfold maxLen; omega) hbytes hbase w.heap.size rfl ?_
  · intro j z hj
    cases j with
    | zero =>
      simp at hj
      subst hj
      simpa [Addr.add] using hnews
    | succ j => simp at hj
  · intro g cap w' h1 h2 h3 h4
    have e : VsOwn w' B (.slice (some ⟨g,0,none⟩) (vs.length + 1) cap) (vs ++ [u]):=by
      unfold VsOwn
      rw [List.length_append]
      exact h1
    have hg : B ≤ g:=by
      rcases h3 with h3 | h3
      · exact (hown.block g h3).1
      · omega
    exact h g cap w' e h2 hg
theorem Pool.mem {w : World} {B : Nat} : ∀ {us : List Value} {nss : List (List Nd)},Pool w B us nss → ∀ u ∈ us,∃ ns,NsOwn w B u ns
  | [],[],_,u,h => by cases h
  | v :: us,ms :: nss,h,u,hu => by
    rcases List.mem_cons.1 hu with rfl | hu
    · exact ⟨ms,h.1.1⟩
    · exact Pool.mem h.2 u hu
  | [],_ :: _,h,_,_ => h.elim
  | _ :: _,[],h,_,_ => h.elim
theorem Pool.mapM {w w' : World} {B B' : Nat} : ∀ {us : List Value} {nss : List (List Nd)},(∀ u ∈ us,∀ ns,NsOwn w B u ns → NsOwn w' B' u ns) → Pool w B us nss → Pool w' B' us nss
  | [],[],_,_ => trivial
  | u :: us,ns :: nss,hk,h => ⟨⟨hk u (by simp) ns h.1.1,h.1.2⟩,Pool.mapM (fun v hv => hk v (by simp [hv])) h.2⟩
  | [],_ :: _,_,h => h.elim
  | _ :: _,[],_,h => h.elim
def Foot (mb : Nat) (iv pv : Value) (vs : List Value) (k : Nat) : Prop:=k = mb ∨ iv.ownBlock = some k ∨ pv.ownBlock = some k ∨ ∃ u ∈ vs,u.ownBlock = some k
structure RsI (B mb : Nat) (iv pv : Value) (vs : List Value) (σ : SetS) (w : World) : Prop where
  box : w.heap[mb]? = some (.cells #[iv,pv,.int .i64 (σ.last : Int),.bool σ.on,.int .i64 (σ.tried : Int)] 29 (0,0))
  items : ItOwn w B iv σ.items
  pats : VsOwn w B pv vs
  pool : Pool w B vs (σ.ms.map (fun m => m.pat.flat))
  mbB : B ≤ mb
theorem RsI.lt {B mb : Nat} {iv pv : Value} {vs : List Value} {σ : SetS} {w : World} (h : RsI B mb iv pv vs σ w) {k : Nat} (hk : Foot mb iv pv vs k) : B ≤ k ∧ k < w.heap.size:=by
  rcases hk with rfl | hk | hk | ⟨u,hu,hk⟩
  · exact ⟨h.mbB,hp_lt h.box⟩
  · exact ⟨(owns_block h.items hk).1,(owns_block h.items hk).2.1⟩
  · exact ⟨(owns_block h.pats hk).1,(owns_block h.pats hk).2.1⟩
  · obtain ⟨ns,hn⟩:=h.pool.mem u hu
    exact ⟨(owns_block hn hk).1,(owns_block hn hk).2.1⟩
theorem RsI.keep {B mb : Nat} {iv pv : Value} {vs : List Value} {σ : SetS} {w w' : World} (h : RsI B mb iv pv vs σ w) {G : Nat → Prop} (hb : But G w w') (hG : ∀ k,G k → ¬ Foot mb iv pv vs k) : RsI B mb iv pv vs σ w':=by
  have key : ∀ k,Foot mb iv pv vs k → w'.heap[k]? = w.heap[k]?:=fun k hk => hb.block k (h.lt hk).2 (fun hg => hG k hg hk)
  exact ⟨(key mb (Or.inl rfl)).trans h.box,owns_same h.items (fun g e => key g (Or.inr (Or.inl e))),owns_same h.pats (fun g e => key g (Or.inr (Or.inr (Or.inl e)))),h.pool.mapM (fun u hu ns hn => owns_same hn (fun g e => key g (Or.inr (Or.inr (Or.inr ⟨u,hu,e⟩))))),h.mbB⟩
theorem RsI.below {B mb : Nat} {iv pv : Value} {vs : List Value} {σ : SetS} {w w' : World} (h : RsI B mb iv pv vs σ w) (hb : Below w.heap.size w w') : RsI B mb iv pv vs σ w':=h.keep (But.below (F:=fun _ => False) hb) (fun _ h => h.elim)
theorem RsI.put {B mb : Nat} {iv pv : Value} {vs : List Value} {σ σ' : SetS} {w w' : World} (h : RsI B mb iv pv vs σ w) (hg : w.grownBy w' (some mb)) (hm : σ'.ms = σ.ms) (hbox : w'.heap[mb]? = some (.cells #[iv,pv,.int .i64 (σ'.last : Int),.bool σ'.on,.int .i64 (σ'.tried : Int)] 29 (0,0))) : RsI B mb iv pv vs σ' w':=by
  have hi : σ'.items = σ.items:=by unfold SetS.items; rw [hm]
  refine ⟨hbox,?_,?_,?_,h.mbB⟩
  · rw [hi]
    exact owns_same h.items (fun g e => hg.block g (owns_block h.items e).2.1 (by
      intro e'
      injection e' with e'
      obtain ⟨_,_,cur,hc⟩:=owns_block h.items e
      exact type_ne hc h.box (by decide) e'))
  · exact owns_same h.pats (fun g e => hg.block g (owns_block h.pats e).2.1 (by
      intro e'
      injection e' with e'
      obtain ⟨_,_,cur,hc⟩:=owns_block h.pats e
      exact type_ne hc h.box (by decide) e'))
  · rw [hm]
    exact h.pool.mapM (fun u hu ns hn => owns_same hn (fun g e => hg.block g (owns_block hn e).2.1 (by
      intro e'
      injection e' with e'
      obtain ⟨_,_,cur,hc⟩:=owns_block hn e
      exact type_ne hc h.box (by decide) e')))
theorem RsI.grownI {B mb : Nat} {iv pv : Value} {vs : List Value} {σ : SetS} {w W w3 : World} (h : RsI B mb iv pv vs σ w) (hb : Below w.heap.size w W) (hg : W.grownBy w3 iv.ownBlock) : w3.heap[mb]? = w.heap[mb]? ∧ VsOwn w3 B pv vs ∧ Pool w3 B vs (σ.ms.map (fun m => m.pat.flat)) ∧ But (Foot mb iv pv vs) w w3 ∧ Below B w w3:=by
  have h1:=h.below hb
  refine ⟨(box_row h1.box h1.items (by decide) hg).trans h.box.symm,owns_row h1.pats h1.items (by decide) hg,h1.pool.mapM (fun u hu ns hn => owns_row hn h1.items (by decide) hg),(But.below hb).trans (But.grown hg (fun k e => Or.inr (Or.inl e))) (fun k hk => Or.inl hk),?_⟩
  have hB:=h.lt (k:=mb) (Or.inl rfl)
  refine (hb.mono (by omega)).trans ⟨hg.os,hg.tape,hg.output,hg.size,fun k hk => hg.block k (by have:=hb.size; omega) (fun e => by have:=(owns_block h1.items e.symm).1; omega)⟩
theorem wpList_append_vsr {ops : Array Oper} {rest : List Oper} {o : Oper} {a : Act} {Q : Exit → Act → World → Prop} {w : World} (hgd : o.guard = none) (s x : Operand)
    (ho : o.op = .call { callee:=.builtin .append,args:=#[s,x],argTypes:=#[27,27] })
    (B : Nat) (v : Value) (hs : a.eval s = v) (vs : List Value) (hown : VsOwn w B v vs) (g2 m2 c2 : Nat) (u : Value) (hu : u.oneCell' = true) (hx : a.eval x = .slice (some ⟨g2,0,none⟩) m2 c2) (hm2 : m2 = 1)
    (hnews : w.cell? ⟨g2,0,none⟩ = some u) (hbytes : (vs.length + 1) * 24 ≤ 140737488355328) (hbase : B ≤ w.heap.size)
    (h : ∀ g cap w',VsOwn w' B (.slice (some ⟨g,0,none⟩) (vs.length + 1) cap) (vs ++ [u]) → w.grownBy w' v.ownBlock → (v.ownBlock = some g ∨ w.heap.size ≤ g) → wpList Tryz.prog ops Q rest (a.put o.dst (.slice (some ⟨g,0,none⟩) (vs.length + 1) cap)) w') : wpList Tryz.prog ops Q (o :: rest) a w:=by
  subst hm2
  have hinfo : (Tryz.prog.info? 60).map (fun i => (i.zero,i.size,i.bytes)) = some (some (.slice none 0 0),1,24):=by kernel_rfl
  obtain ⟨i0,hi,hz0,hz1,hz2⟩:=info_parts hinfo
  refine wpList_append_lies w hgd s x 27 ho B 60 i0 _ 1 24 Tryz.underlying27 hi hz0 hz1 hz2 rfl (by decide) v vs.length vs hs hown ⟨g2,0,none⟩ 1 c2 [u] hx rfl ?_ (by intro z hz; simp at hz; rw [hz]; exact hu) (by decide) (by unfold maxLen; omega) hbytes hbase w.heap.size rfl ?_
  · intro j z hj
    cases j with
    | zero =>
      simp at hj
      subst hj
      simpa [Addr.add] using hnews
    | succ j => simp at hj
  · intro g cap w' h1 h2 h3 h4
    have e : VsOwn w' B (.slice (some ⟨g,0,none⟩) (vs.length + 1) cap) (vs ++ [u]):=by
      unfold VsOwn
      rw [List.length_append]
      exact h1
    exact h g cap w' e h2 (h3.imp id (fun e => by omega))
def PlcR (ms : List Mbr) (n : Int) : Option Nat → Prop
  | none => ∀ (j : Nat) m,ms[j]? = some m → ¬ (m.id : Int) = n
  | some i => ∃ m,ms[i]? = some m ∧ (m.id : Int) = n
def plcI : Option Nat → Int
  | none => -1
  | some i => (i : Int)
theorem SetS.items_len (σ : SetS) : σ.items.length = σ.ms.length:=by unfold SetS.items; simp
theorem SetS.items_at {σ : SetS} {i : Nat} {m : Mbr} (h : σ.ms[i]? = some m) : σ.items[i]? = some (m.id,m.text):=by
  unfold SetS.items
  rw [List.getElem?_map,h]
  rfl
theorem RsI.row {B mb : Nat} {iv pv : Value} {vs : List Value} {σ : SetS} {w : World} (h : RsI B mb iv pv vs σ w) (hσ : σ.Ok) : ∃ a cap,iv = .slice a σ.ms.length cap ∧ ∀ i m,σ.ms[i]? = some m → ∃ b,a = some ⟨b,0,none⟩ ∧ w.cell? ⟨b,i * 2,none⟩ = some (.int .i64 (m.id : Int)) ∧ w.cell? ⟨b,i * 2 + 1,none⟩ = some (.string m.text):=by
  have hl:=σ.items_len
  rcases h.items.2 with ⟨hv,h0⟩ | ⟨g,cap,cur,hv,hb,hg,hc,_⟩
  · have e0 : σ.ms.length = 0:=by omega
    refine ⟨none,0,by rw [hv,e0],fun i m hm => ?_⟩
    rw [List.eq_nil_of_length_eq_zero e0] at hm
    cases hm
  · refine ⟨some ⟨g,0,none⟩,cap,by rw [hv,hl],fun i m hm => ⟨g,rfl,?_⟩⟩
    have hc:=itCells_at σ.items i _ (SetS.items_at hm)
    have h1:=h.items.cells (g:=g) (by rw [hv]; rfl) (i * 2) _ hc.1
    have h2:=h.items.cells (g:=g) (by rw [hv]; rfl) (i * 2 + 1) _ hc.2
    rw [Addr.add_lit] at h1 h2
    exact ⟨by simpa using h1,by simpa using h2⟩
theorem place_any {B mb : Nat} {iv pv : Value} {vs : List Value} {σ : SetS} {w : World} (h : RsI B mb iv pv vs σ w) (hσ : σ.Ok) (n : Int) :
    Calls Tryz.prog 25 #[.pointer (some ⟨mb,0,none⟩),.int .i64 n] w fun e w' => ∃ r,e = .returned (.int .i64 (plcI r)) ∧ PlcR σ.ms n r ∧ w' = w:=by
  have c0:=Lib.cell_of_heap h.box 0
  simp only [List.getElem?_toArray,List.getElem?_cons_zero,List.getElem?_cons_succ] at c0
  obtain ⟨a,cap,rfl,hr⟩:=h.row hσ
  have HR:=hid hr
  have h12:=hσ.len
  clear hr h
  go_enter Tryz.func25,Tryz.ntmps25
  go_wp2
  go_loop [5] (fun v => ∃ i : Nat,i ≤ σ.ms.length ∧ v = .int .i64 (i : Int) ∧ Hid (∀ (j : Nat) m,j < i → σ.ms[j]? = some m → ¬ (m.id : Int) = n)) (fun v => σ.ms.length - (intOf v).toNat)
  case atStart => exact ⟨0,by omega,rfl,fun j m hj => by omega⟩
  case round =>
    obtain ⟨i,hi,rfl,HN⟩:=hrel
    by_cases hil : i < σ.ms.length
    · obtain ⟨m,hm⟩ : ∃ m,σ.ms[i]? = some m:=⟨σ.ms[i],List.getElem?_eq_getElem hil⟩
      obtain ⟨b,rfl,c1,_⟩:=HR.out i m hm
      have i0 : (0 : Int) ≤ (i : Int):=by omega
      have i1 : (i : Int) < (σ.ms.length : Int):=by omega
      by_cases he : (m.id : Int) = n
      · have hq : ((m.id : Int) == n) = true:=by rw [beq_iff_eq]; exact he
        have HP : Hid (PlcR σ.ms n (some i)):=⟨m,hm,he⟩
        clear he hm
        go_wp2
        go_ret
        exact ⟨some i,rfl,HP.out,rfl⟩
      · have hq : ((m.id : Int) == n) = false:=by rw [beq_eq_false_iff_ne]; exact he
        have HN2 : Hid (∀ (j : Nat) m,j < i + 1 → σ.ms[j]? = some m → ¬ (m.id : Int) = n):=fun j m' hj hm' => by
          rcases Nat.lt_or_ge j i with h1 | h1
          · exact HN.out j m' h1 hm'
          · obtain rfl : j = i:=by omega
            rw [hm] at hm'
            obtain rfl:=Option.some.inj hm'
            exact he
        clear he hm HN
        go_wp2
        exact ⟨⟨i + 1,by omega,by go_num,HN2⟩,by simp [intOf]; omega⟩
    · have g1 : ¬ (i : Int) < (σ.ms.length : Int):=by omega
      have HP : Hid (PlcR σ.ms n none):=fun j m hm => HN.out j m (by
        have:=(List.getElem?_eq_some_iff.1 hm).1
        omega) hm
      clear HN
      go_wp2
      go_ret
      exact ⟨none,rfl,HP.out,rfl⟩
theorem RsI.read {B mb bi n1 cap bp n2 pc : Nat} {vs : List Value} {σ : SetS} {w : World} (h : RsI B mb (.slice (some ⟨bi,0,none⟩) n1 cap) (.slice (some ⟨bp,0,none⟩) n2 pc) vs σ w) {i : Nat} {m : Mbr} (hm : σ.ms[i]? = some m) {z : Value} (hz : vs[i]? = some z) :
    w.cell? ⟨mb,0,none⟩ = some (.slice (some ⟨bi,0,none⟩) n1 cap) ∧ w.cell? ⟨mb,1,none⟩ = some (.slice (some ⟨bp,0,none⟩) n2 pc) ∧ w.cell? ⟨mb,3,none⟩ = some (.bool σ.on) ∧ w.cell? ⟨mb,4,none⟩ = some (.int .i64 (σ.tried : Int)) ∧ w.frozen? ⟨mb,4,none⟩ = false ∧ w.cell? ⟨bi,i * 2,none⟩ = some (.int .i64 (m.id : Int)) ∧ w.cell? ⟨bp,i,none⟩ = some z:=by
  have c0:=Lib.cell_of_heap h.box 0
  have c1:=Lib.cell_of_heap h.box 1
  have c3:=Lib.cell_of_heap h.box 3
  have c4:=Lib.cell_of_heap h.box 4
  simp only [List.getElem?_toArray,List.getElem?_cons_zero,List.getElem?_cons_succ] at c0 c1 c3 c4
  have h1:=h.items.cells (g:=bi) rfl (i * 2) _ (itCells_at σ.items i _ (SetS.items_at hm)).1
  have h2:=h.pats.cells (g:=bp) rfl i z hz
  rw [Addr.add_lit] at h1 h2
  exact ⟨c0,c1,c3,c4,Lib.frozen_of_heap h.box 4,by simpa using h1,by simpa using h2⟩
theorem RsI.low {B mb : Nat} {iv pv : Value} {vs : List Value} {σ : SetS} {w w' : World} {C : Nat} (h : RsI B mb iv pv vs σ w) (hb : Below C w w') (hC : ∀ k,Foot mb iv pv vs k → k < C) : RsI B mb iv pv vs σ w' :=
  h.keep (G:=fun k => C ≤ k) ⟨hb.os,hb.tape,hb.output,hb.size,fun k hk hn => hb.block k (by omega)⟩ (fun k hk hf => by have:=hC k hf; omega)
theorem withR_not (k : C4) (hk : k.ok) (b : Nat) (hb : b < 256) (hn : k.has b = false) (w : World) :
    Calls Tryz.prog 81 #[k.v,.int .i64 b] w fun e w' => e = .returned (k.add b).v ∧ Below w.heap.size w w':=by
  have HA : Hid _:=C4.put_add hk b hb hn
  have hx0 : (0 : Int) ≤ (b : Int):=by omega
  have hx1 : (b : Int) < 256:=by omega
  go_enter Tryz.func81,Tryz.ntmps81
  go_wp2_with fail
  refine (in_any k hk b hb _).mono ?_
  rintro e w1 ⟨rfl,hb1⟩
  have hK : Hb w1 w.heap.size k:=((Hb.new w k _ rfl).alloc _).below hb1 (by simp; omega)
  have hZ : Hb w1 (w.heap.size + 1) z4:=(Hb.new _ z4 _ (by simp)).below hb1 (by simp)
  have hB : Below w.heap.size w w1:=(((Below.refl _ _).alloc (Nat.le_refl _) _).alloc (by simp) _).trans (hb1.mono (by simp; omega))
  generalize hx : (b : Int) = x at *
  go_wp2
  go_loop [6,7] (fun n i => ∃ j z : Nat,(j : Int) ≤ x % 64 ∧ Hid (z = 2 ^ j) ∧ i = .int .i64 j ∧ n = .int .u64 (z : Int)) (fun _ i => (x % 64).toNat - (intOf i).toNat)
  case atStart => exact ⟨0,1,by omega,by show 1 = 2 ^ 0; rfl,rfl,rfl⟩
  case round =>
    obtain ⟨j,z,hj,HZ,rfl,rfl⟩:=hrel
    by_cases hlt : (j : Int) < x % 64
    · go_wp2
      go_round
      case rel =>
        have hz : z * 2 < 18446744073709551616:=by
          rw [HZ.out,← Nat.pow_succ]
          exact Nat.pow_lt_pow_right (n:=64) (by decide) (by omega)
        exact ⟨j + 1,z * 2,by omega,by show _ = _; rw [HZ.out,Nat.pow_succ],by go_num,wrap_twice z hz⟩
      case measure => simp [intOf]; omega
    · have hj2 : (x % 64).toNat = j:=by omega
      have HJ:=(show Hid _ from hj2)
      clear hj2
      have cx:=hK.cell (x / 64).toNat (by omega)
      have fx:=hK.frozen (x / 64).toNat
      have hS:=fun v => hK.store (x / 64).toNat (by omega) v
      have hT:=fun v => hZ.other ⟨w.heap.size,(x / 64).toNat,none⟩ (.int .u64 v) (by simp only; omega)
      have s0:=fun v => (hS v).c0
      have s1:=fun v => (hS v).c1
      have s2:=fun v => (hS v).c2
      have s3:=fun v => (hS v).c3
      have t0:=fun v => (hT v).c0
      have t1:=fun v => (hT v).c1
      have t2:=fun v => (hT v).c2
      have t3:=fun v => (hT v).c3
      have u0:=fun v => (hT v).frozen 0
      have u1:=fun v => (hT v).frozen 1
      have u2:=fun v => (hT v).frozen 2
      have u3:=fun v => (hT v).frozen 3
      go_wp2
      have ez : k.put (x / 64).toNat (IntKind.u64.wrap (k.w (x / 64).toNat + (z : Int))) = k.add x:=by rw [HZ.out,← HJ.out]; exact HA.out
      have hq:=(hT (IntKind.u64.wrap (k.w (x / 64).toNat + (z : Int)))).put4 (k.add x)
      rw [← ez] at hq
      refine bodyPost_ret (v:=(k.add x).v) (by rw [← ez]; simp [results,Tryz.results81,go_sem,hq.c0,hq.c1,hq.c2,hq.c3]) rfl ⟨rfl,?_⟩
      exact below_put4 (hB.setCell (by simp) _) (by omega) _
theorem withR_has (k : C4) (hk : k.ok) (b : Nat) (hb : b < 256) (hn : k.has b = true) (w : World) :
    Calls Tryz.prog 81 #[k.v,.int .i64 b] w fun e w' => e = .returned (k.add b).v ∧ Below w.heap.size w w':=by
  rw [C4.add_same hk b hb hn]
  go_enter Tryz.func81,Tryz.ntmps81
  go_wp2_with fail
  refine (in_any k hk b hb _).mono ?_
  rintro e w1 ⟨rfl,hb1⟩
  have hK : Hb w1 w.heap.size k:=((Hb.new w k _ rfl).alloc _).below hb1 (by simp; omega)
  have hZ : Hb w1 (w.heap.size + 1) z4:=(Hb.new _ z4 _ (by simp)).below hb1 (by simp)
  have hB : Below w.heap.size w w1:=(((Below.refl _ _).alloc (Nat.le_refl _) _).alloc (by simp) _).trans (hb1.mono (by simp; omega))
  obtain ⟨c0,c1,c2,c3,e0,e1,e2,e3⟩:=hK.all
  obtain ⟨d0,d1,d2,d3,f0,f1,f2,f3⟩:=hZ.all
  go_wp2
  have hq:=hZ.put4 k
  refine bodyPost_ret (v:=k.v) (by simp [results,Tryz.results81,go_sem,hq.c0,hq.c1,hq.c2,hq.c3]) rfl ⟨rfl,?_⟩
  exact below_put4 hB (by omega) _
theorem withR_any (k : C4) (hk : k.ok) (b : Nat) (hb : b < 256) (w : World) :
    Calls Tryz.prog 81 #[k.v,.int .i64 b] w fun e w' => e = .returned (k.add b).v ∧ Below w.heap.size w w':=by
  cases hn : k.has b
  · exact withR_not k hk b hb hn w
  · exact withR_has k hk b hb hn w
def oth (k : C4) : Nat → C4
  | 0 => z4
  | i + 1 => if k.has i then oth k i else (oth k i).add (i : Int)
theorem oth_ok (k : C4) : ∀ i,(oth k i).ok
  | 0 => z4_ok
  | i + 1 => by
    rw [oth]
    split
    · exact oth_ok k i
    · exact C4.add_ok (oth_ok k i) i
theorem oth_has (k : C4) (n : Nat) (hn : n < 256) : ∀ i,i ≤ 256 → (oth k i).has n = (decide (n < i) && !k.has n)
  | 0,_ => by rw [oth,z4_has]; simp
  | i + 1,hi => by
    have ih:=oth_has k n hn i (by omega)
    rw [oth]
    by_cases hk : k.has i = true
    · rw [if_pos hk,ih]
      by_cases e : n = i
      · subst e; simp [hk]
      · have : (n < i + 1) ↔ (n < i):=by omega
        simp only [this]
    · rw [if_neg hk,C4.has_add (oth_ok k i) i n (by omega) hn,ih]
      by_cases e : i = n
      · subst e; simp [hk]
      · have : (n < i + 1) ↔ (n < i):=by omega
        simp only [this,e,decide_false,Bool.or_false]
theorem oth_not {k : C4} (hk : k.ok) : oth k 256 = k.not:=by
  apply C4.ext_has (oth_ok k 256) (C4.not_ok hk)
  intro i hi
  rw [oth_has k i hi 256 (Nat.le_refl _),C4.has_not hk]
  simp [hi]
theorem others_any (k : C4) (hk : k.ok) (w : World) :
    Calls Tryz.prog 78 #[k.v] w fun e w' => e = .returned k.not.v ∧ Below w.heap.size w w':=by
  rw [← oth_not hk]
  go_enter Tryz.func78,Tryz.ntmps78
  go_wp2
  go_loopw [4] (fun v wr => ∃ i : Nat,i ≤ 256 ∧ v = .int .i64 i ∧ Below w.heap.size w wr ∧ Hb wr w.heap.size k ∧ Hb wr (w.heap.size + 1) z4 ∧ Hb wr (w.heap.size + 1 + 1) (oth k i)) (fun v _ => 256 - (intOf v).toNat)
  case atStart =>
    refine ⟨0,by omega,rfl,?_,?_,?_,?_⟩
    · exact (((Below.refl _ _).alloc (Nat.le_refl _) _).alloc (by simp) _).alloc (by simp; omega) _
    · exact ((Hb.new _ k _ rfl).alloc _).alloc _
    · exact (Hb.new _ z4 _ (by simp)).alloc _
    · exact Hb.new _ z4 _ (by simp)
  case round =>
    obtain ⟨i,hi,rfl,hB,hK,hZ,hO⟩:=hrel
    obtain ⟨c0,c1,c2,c3,e0,e1,e2,e3⟩:=hK.all
    by_cases hlt : i < 256
    · have i1 : (i : Int) < 256:=by omega
      go_wp2_with fail
      refine (in_any k hk i hlt _).mono ?_
      rintro e w1 ⟨rfl,hb1⟩
      have hB1:=hB.trans (hb1.mono hB.size)
      have hK1:=hK.below hb1 hK.lt
      have hZ1:=hZ.below hb1 hZ.lt
      have hO1:=hO.below hb1 hO.lt
      cases hn : k.has i
      · have HE : Hid (oth k (i + 1) = (oth k i).add (i : Int)):=by show _ = _; rw [oth,hn]; rfl
        obtain ⟨o0,o1,o2,o3,p0,p1,p2,p3⟩:=hO1.all
        go_wp2_with fail
        refine (withR_any (oth k i) (oth_ok k i) i hlt _).mono ?_
        rintro e w2 ⟨rfl,hb2⟩
        have hO2:=hO1.below hb2 hO1.lt
        obtain ⟨r0,r1,r2,r3,t0,t1,t2,t3⟩:=hO2.all
        go_wp2
        refine ⟨⟨i + 1,by omega,by go_num,?_,?_,?_,?_⟩,by simp [intOf]; omega⟩
        · exact below_put4 (hB1.trans (hb2.mono hB1.size)) (by omega) _
        · exact Hb.other4 (hK1.below hb2 hK1.lt) _ (by omega)
        · exact Hb.other4 (hZ1.below hb2 hZ1.lt) _ (by omega)
        · rw [HE.out]; exact hO2.put4 _
      · have HE : Hid (oth k (i + 1) = oth k i):=by show _ = _; rw [oth,hn]; rfl
        go_wp2
        refine ⟨⟨i + 1,by omega,by go_num,hB1,hK1,hZ1,?_⟩,by simp [intOf]; omega⟩
        rw [HE.out]; exact hO1
    · have hi2 : i = 256:=by omega
      subst hi2
      obtain ⟨o0,o1,o2,o3,p0,p1,p2,p3⟩:=hO.all
      obtain ⟨d0,d1,d2,d3,f0,f1,f2,f3⟩:=hZ.all
      go_wp2
      have hq:=hZ.put4 (oth k 256)
      refine bodyPost_ret (v:=(oth k 256).v) (by simp [results,Tryz.results78,go_sem,hq.c0,hq.c1,hq.c2,hq.c3]) rfl ⟨rfl,?_⟩
      exact below_put4 hB (by omega) _
theorem ofText_any (s : ByteArray) (w : World) (hs : s.size ≤ maxLen) :
    Calls Tryz.prog 79 #[.string s] w fun e w' => e = .returned (C4.ofL s.data.toList).v ∧ Below w.heap.size w w':=by
  unfold maxLen at hs
  go_enter Tryz.func79,Tryz.ntmps79
  go_wp2
  go_loopw [4] (fun i wr => ∃ k : Nat,k ≤ s.size ∧ i = .int .i64 k ∧ Below w.heap.size w wr ∧ Hb wr w.heap.size z4 ∧ Hb wr (w.heap.size + 1) (C4.ofL (s.data.toList.take k))) (fun i _ => s.size - (intOf i).toNat)
  case atStart =>
    refine ⟨0,by omega,rfl,?_,?_,?_⟩
    · exact ((Below.refl _ _).alloc (Nat.le_refl _) _).alloc (by simp) _
    · exact (Hb.new _ z4 _ rfl).alloc _
    · exact Hb.new _ z4 _ (by simp)
  case round =>
    obtain ⟨k,hk,rfl,hB,hZ,hC⟩:=hrel
    by_cases hlt : k < s.size
    · obtain ⟨c0,c1,c2,c3,e0,e1,e2,e3⟩:=hC.all
      have i0 : (0 : Int) ≤ (k : Int):=by omega
      have i1 : (k : Int) < (s.size : Int):=by omega
      have hts : s.data.toList.take (k + 1) = s.data.toList.take k ++ [s[k]]:=by
        rw [List.take_succ_eq_append_getElem (by simpa using hlt)]; rfl
      have HT : Hid (C4.ofL (s.data.toList.take (k + 1)) = (C4.ofL (s.data.toList.take k)).add (s[k].toNat : Int)):=by rw [hts,C4.ofL_snoc]; exact rfl
      clear hts
      have hlb : s[k].toNat < 256:=s[k].toNat_lt
      have hwr : IntKind.i64.wrap (s[k].toNat : Int) = (s[k].toNat : Int):=by rw [IntKind.wrap_i64]; omega
      have hok:=ofL_ok (s.data.toList.take k)
      have HO:=(show Hid _ from hok)
      clear hok
      go_wp2_with fail
      go_region_with (first | (go_at_call 81; refine (withR_any (C4.ofL (s.data.toList.take k)) HO.out _ hlb _).mono ?_; rintro e w' ⟨rfl,hb⟩; have hC1:=Hb.below hC.drew hb hC.lt; obtain ⟨g0,g1,g2,g3,q0,q1,q2,q3⟩:=hC1.all))
      all_goals
        go_wp2
        refine ⟨⟨k + 1,by omega,by go_num,?_,?_,?_⟩,by simp [intOf]; omega⟩
        · exact below_put4 (hB.drew.trans (hb.mono hB.size)) (by omega) _
        · exact Hb.other4 (Hb.below hZ.drew hb hZ.lt) _ (by omega)
        · rw [HT.out]; exact hC1.put4 _
    · have hk4 : k = s.size:=by omega
      subst hk4
      have ht : s.data.toList.take s.size = s.data.toList:=List.take_of_length_le (by simp)
      rw [ht] at hC
      clear ht
      obtain ⟨c0,c1,c2,c3,e0,e1,e2,e3⟩:=hC.all
      obtain ⟨d0,d1,d2,d3,f0,f1,f2,f3⟩:=hZ.all
      go_wp2
      have hq:=hZ.put4 (C4.ofL s.data.toList)
      refine bodyPost_ret (v:=(C4.ofL s.data.toList).v) (by simp [results,Tryz.results79,go_sem,hq.c0,hq.c1,hq.c2,hq.c3]) rfl ⟨rfl,?_⟩
      exact below_put4 hB (by omega) _
/-! Others,Count -/
end Go.Proofs.YtcjghhedphmhkaaGreatDoor

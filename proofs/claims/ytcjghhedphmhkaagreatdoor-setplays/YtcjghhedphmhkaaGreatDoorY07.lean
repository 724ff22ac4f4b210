/- Own texts. -/
import Derived.Test.YtcjghhedphmhkaaGreatDoorY06
import Derived.Handy
import Derived.Deep.Cut
import Derived.Lib.SliceRun
set_option linter.unusedSimpArgs false
set_option linter.unusedVariables false
set_option maxRecDepth 100000
set_option maxHeartbeats 8000000
namespace Go.Proofs.YtcjghhedphmhkaaGreatDoor
open Go.RowKit
theorem ned_whl {t : Rx} {x : List UInt8} (h : t.whl = some x) : t.ned = x:=by
  cases t with
  | leaf n => unfold Rx.ned; rw [h]; rfl
  | one n a => simp [Rx.whl] at h
  | two n a b => unfold Rx.ned; rw [h]
theorem ned_len : ∀ (t : Rx),t.ned.length ≤ t.flat.length
  | .leaf n => by
    unfold Rx.ned
    cases h : (Rx.leaf n).whl with
    | none => simp
    | some x => simpa using whl_len _ x h
  | .one n a => by
    unfold Rx.ned
    have:=ned_len a
    split
    · simp [Rx.flat]; omega
    · simp
  | .two n a b => by
    unfold Rx.ned
    cases h : (Rx.two n a b).whl with
    | some x => exact whl_len _ x h
    | none =>
      simp only
      have h1:=ned_len a
      have h2:=ned_len b
      split
      · rcases longer_cases a.ned b.ned with e | e <;> rw [e] <;> simp [Rx.flat] <;> omega
      · simp
def NeOk (ns : List Nd) (b off cap : Nat) (t : Rx) (i : Nat) : Prop:=∀ w : World,b < w.heap.size → NsAt w b off ns →
  Calls Tryz.prog 29 #[.slice (some ⟨b,off,none⟩) ns.length cap,.int .i64 (i : Int)] w fun e w' => e = .returned (.string ⟨t.ned.toArray⟩) ∧ Below w.heap.size w w'
theorem ne_whole (ns : List Nd) (hl : ns.length ≤ 60) (b off cap i : Nat) (t : Rx) (x : List UInt8) (hx : t.whl = some x) (hi : i < ns.length) (hW : WhOk ns b off cap t i) : NeOk ns b off cap t i:=by
  intro w hlt hN
  have HW:=hid (hW w hlt hN)
  unfold whV at HW
  rw [ned_whl hx]
  rw [hx] at HW
  simp only [Option.getD_some,Option.isSome_some] at HW
  clear hW hN
  go_enter Tryz.func29,Tryz.ntmps29
  go_wp2_with fail
  refine Calls.mono HW.out ?_
  rintro e w1 ⟨rfl,hb⟩
  have B:=hid hb
  clear hb
  go_wp2
  go_ret
  exact ⟨rfl,B.out⟩
theorem ne_nothing (ns : List Nd) (hl : ns.length ≤ 60) (b off cap i : Nat) (n : Nd) (t : Rx) (hx : t.whl = none) (hd : t.ned = []) (hn : ns[i]? = some n) (hi : i < ns.length) (h3 : n.op ≠ 3) (h6 : n.op ≠ 6) (hW : WhOk ns b off cap t i) : NeOk ns b off cap t i:=by
  intro w hlt hN
  have HW:=hid (hW w hlt hN)
  unfold whV at HW
  rw [hx] at HW
  simp only [Option.getD_none,Option.isSome_none] at HW
  rw [hd]
  have HN:=hid hN
  have i0 : (0 : Int) ≤ (i : Int):=by omega
  have i1 : (i : Int) < (ns.length : Int):=by omega
  have g3 : (n.op == 3) = false:=by simp [h3]
  have g6 : (n.op == 6) = false:=by simp [h6]
  clear hW hN h3 h6
  go_enter Tryz.func29,Tryz.ntmps29
  go_wp2_with fail
  refine Calls.mono HW.out ?_
  rintro e w1 ⟨rfl,hb⟩
  have B:=hid hb
  obtain ⟨c0,c1,c2,c3,c4⟩:=(HN.out.below hb hlt) i n hn
  clear hb
  go_wp2
  go_ret
  exact ⟨rfl,B.out⟩
theorem ne_plus (ns : List Nd) (hl : ns.length ≤ 60) (b off cap i : Nat) (n : Nd) (a : Rx) (hn : ns[i]? = some n) (hi : i < ns.length) (h6 : n.op = 6) (hW : WhOk ns b off cap (.one n a) i) (hA : NeOk ns b off cap a (i + 1)) : NeOk ns b off cap (.one n a) i:=by
  intro w hlt hN
  have HW:=hid (hW w hlt hN)
  unfold whV at HW
  rw [show (Rx.one n a).whl = none from rfl] at HW
  simp only [Option.getD_none,Option.isSome_none] at HW
  have HA : Hid (∀ w',Below w.heap.size w w' → _):=fun w' hb => hA w' (Nat.lt_of_lt_of_le hlt hb.size) (hN.below hb hlt)
  have HD : Hid ((Rx.one n a).ned = a.ned):=by show _ = _; rw [Rx.ned,if_pos h6]
  rw [HD.out]
  have HN:=hid hN
  have i0 : (0 : Int) ≤ (i : Int):=by omega
  have i1 : (i : Int) < (ns.length : Int):=by omega
  have hk : Hid ((i : Int) + 1 = ((i + 1 : Nat) : Int)):=by show _ = _; omega
  have g3 : (n.op == 3) = false:=by simp [h6]
  have g6 : (n.op == 6) = true:=by simp [h6]
  clear hW hN h6 hA
  go_enter Tryz.func29,Tryz.ntmps29
  go_wp2_with fail
  refine Calls.mono HW.out ?_
  rintro e w1 ⟨rfl,hb⟩
  have B:=hid hb
  obtain ⟨c0,c1,c2,c3,c4⟩:=(HN.out.below hb hlt) i n hn
  clear hb
  go_wp2_with fail
  rw [hk.out]
  refine Calls.mono (HA.out _ B.out) ?_
  rintro e w2 ⟨rfl,hb⟩
  replace B:=hid (B.out.trans (hb.mono B.out.size))
  clear hb
  go_wp2
  go_ret
  exact ⟨rfl,B.out⟩
theorem ne_cat (ns : List Nd) (hl : ns.length ≤ 60) (b off cap i : Nat) (n : Nd) (x y : Rx) (hw : (Rx.two n x y).whl = none) (hn : ns[i]? = some n) (hi : i < ns.length) (hop : n.op = 3) (he : endE ns (i + 1) = some (i + 1 + x.flat.length)) (hxl : x.flat.length ≤ 60) (hyl : y.flat.length ≤ 60) (hW : WhOk ns b off cap (.two n x y) i) (hX : NeOk ns b off cap x (i + 1)) (hY : NeOk ns b off cap y (i + 1 + x.flat.length)) : NeOk ns b off cap (.two n x y) i:=by
  intro w hlt hN
  have HW:=hid (hW w hlt hN)
  unfold whV at HW
  rw [hw] at HW
  simp only [Option.getD_none,Option.isSome_none] at HW
  have HX : Hid (∀ w',Below w.heap.size w w' → _):=fun w' hb => hX w' (Nat.lt_of_lt_of_le hlt hb.size) (hN.below hb hlt)
  have HY : Hid (∀ w',Below w.heap.size w w' → _):=fun w' hb => hY w' (Nat.lt_of_lt_of_le hlt hb.size) (hN.below hb hlt)
  have HEN : Hid (∀ w',Below w.heap.size w w' → _):=fun w' hb => endOf_any ns (.slice (some ⟨b,off,none⟩) ns.length cap) (i + 1) w' ⟨_,_,rfl,by unfold maxLen; omega,Or.inr ⟨b,off,rfl,Nat.lt_of_lt_of_le hlt hb.size,hN.below hb hlt⟩⟩
  rw [he,show endI (some (i + 1 + x.flat.length)) = ((i + 1 + x.flat.length : Nat) : Int) from rfl] at HEN
  have HD : Hid ((Rx.two n x y).ned = longer x.ned y.ned):=by show _ = _; rw [Rx.ned,hw]; simp only; rw [if_pos hop]
  rw [HD.out]
  have HN:=hid hN
  have hlx:=ned_len x
  have hly:=ned_len y
  have s1 : (⟨x.ned.toArray⟩ : ByteArray).size = x.ned.length:=size_str _
  have s2 : (⟨y.ned.toArray⟩ : ByteArray).size = y.ned.length:=size_str _
  have i0 : (0 : Int) ≤ (i : Int):=by omega
  have i1 : (i : Int) < (ns.length : Int):=by omega
  have hk : Hid ((i : Int) + 1 = ((i + 1 : Nat) : Int)):=by show _ = _; omega
  have g3 : (n.op == 3) = true:=by simp [hop]
  clear hW hN hop hX hY he hw
  go_enter Tryz.func29,Tryz.ntmps29
  go_wp2_with fail
  refine Calls.mono HW.out ?_
  rintro e w1 ⟨rfl,hb⟩
  have B:=hid hb
  obtain ⟨c0,c1,c2,c3,c4⟩:=(HN.out.below hb hlt) i n hn
  clear hb
  go_wp2_with fail
  rw [hk.out]
  refine Calls.mono (HX.out _ B.out) ?_
  rintro e w2 ⟨rfl,hb⟩
  replace B:=hid (B.out.trans (hb.mono B.out.size))
  clear hb c0 c1 c2 c3 c4
  go_wp2_with fail
  rw [hk.out]
  refine Calls.mono (HEN.out _ B.out) ?_
  rintro e w3 ⟨rfl,rfl⟩
  go_wp2_with fail
  refine Calls.mono (HY.out _ B.out) ?_
  rintro e w4 ⟨rfl,hb⟩
  replace B:=hid (B.out.trans (hb.mono B.out.size))
  clear hb
  by_cases hc : x.ned.length < y.ned.length
  · have g4 : ((⟨x.ned.toArray⟩ : ByteArray).size : Int) < ((⟨y.ned.toArray⟩ : ByteArray).size : Int):=by rw [s1,s2]; omega
    have HL : Hid (longer x.ned y.ned = y.ned):=by show _ = _; unfold longer; rw [if_pos hc]
    have hcd : decide (x.ned.length < y.ned.length) = true:=by simp only [hc,decide_true,decide_false]
    clear s1 s2 g4
    go_wp2
    go_ret
    exact ⟨by rw [HL.out]; rfl,B.out⟩
  · have g4 : ¬ ((⟨x.ned.toArray⟩ : ByteArray).size : Int) < ((⟨y.ned.toArray⟩ : ByteArray).size : Int):=by rw [s1,s2]; omega
    have HL : Hid (longer x.ned y.ned = x.ned):=by show _ = _; unfold longer; rw [if_neg hc]
    have hcd : decide (x.ned.length < y.ned.length) = false:=by simp only [hc,decide_true,decide_false]
    clear s1 s2 g4
    go_wp2
    go_ret
    exact ⟨by rw [HL.out]; rfl,B.out⟩
theorem ne_tree (b off cap : Nat) : ∀ (t : Rx),t.Ok → ∀ (p q : List Nd),(∀ n ∈ t.flat,(1 ≤ n.op ∧ n.op ≤ 9) ∧ n.c.ok) → (p ++ t.flat ++ q).length ≤ 60 → NeOk (p ++ t.flat ++ q) b off cap t p.length
  | .leaf n,h,p,q,ho,hl => by
    have hW:=wh_tree b off cap (.leaf n) h p q ho hl
    cases hx : (Rx.leaf n).whl with
    | some x => exact ne_whole _ hl b off cap p.length _ x hx (by simp [Rx.flat]) hW
    | none =>
      have h0 : prt n.op = 0:=h
      have h2 : ¬ prt n.op = 2:=by omega
      have h3 : ¬ prt n.op = 1:=by omega
      rw [prt_two] at h2
      rw [prt_one] at h3
      exact ne_nothing _ hl b off cap p.length n _ hx (by unfold Rx.ned; rw [hx]; rfl) (by simp [Rx.flat]) (by simp [Rx.flat]) (by omega) (by omega) hW
  | .one n a,h,p,q,ho,hl => by
    have hW:=wh_tree b off cap (.one n a) h p q ho hl
    by_cases h6 : n.op = 6
    · have e : p ++ (Rx.one n a).flat ++ q = (p ++ [n]) ++ a.flat ++ q:=by simp [Rx.flat]
      have ih:=ne_tree b off cap a h.2 (p ++ [n]) q (fun m hm => ho m (by simp [Rx.flat,hm])) (by rw [← e]; exact hl)
      rw [← e,show (p ++ [n]).length = p.length + 1 from by simp] at ih
      exact ne_plus _ hl b off cap p.length n a (by simp [Rx.flat]) (by simp [Rx.flat]) h6 hW ih
    · have hop:=(prt_one n.op).1 h.1
      exact ne_nothing _ hl b off cap p.length n _ rfl (by rw [Rx.ned,if_neg h6]) (by simp [Rx.flat]) (by simp [Rx.flat]) (by omega) h6 hW
  | .two n x y,h,p,q,ho,hl => by
    have hW:=wh_tree b off cap (.two n x y) h p q ho hl
    cases hw : (Rx.two n x y).whl with
    | some z => exact ne_whole _ hl b off cap p.length _ z hw (by simp [Rx.flat]) hW
    | none =>
      have e1 : p ++ (Rx.two n x y).flat ++ q = (p ++ [n]) ++ x.flat ++ (y.flat ++ q):=by simp [Rx.flat]
      have e2 : p ++ (Rx.two n x y).flat ++ q = (p ++ [n] ++ x.flat) ++ y.flat ++ q:=by simp [Rx.flat]
      rcases (prt_two n.op).1 h.1 with hop | hop
      · have ih1:=ne_tree b off cap x h.2.1 (p ++ [n]) (y.flat ++ q) (fun m hm => ho m (by simp [Rx.flat,hm])) (by rw [← e1]; exact hl)
        have ih2:=ne_tree b off cap y h.2.2 (p ++ [n] ++ x.flat) q (fun m hm => ho m (by simp [Rx.flat,hm])) (by rw [← e2]; exact hl)
        rw [← e1,show (p ++ [n]).length = p.length + 1 from by simp] at ih1
        rw [← e2,show (p ++ [n] ++ x.flat).length = p.length + 1 + x.flat.length from by simp; omega] at ih2
        have hb : x.flat.length ≤ 60 ∧ y.flat.length ≤ 60:=by
          rw [e1] at hl
          simp at hl
          omega
        exact ne_cat _ hl b off cap p.length n x y hw (by simp [Rx.flat]) (by simp [Rx.flat]) hop (end_at p q n x y h.2.1 _ rfl) hb.1 hb.2 hW ih1 ih2
      · exact ne_nothing _ hl b off cap p.length n _ hw (by rw [Rx.ned,hw]; simp only; rw [if_neg (by omega)]) (by simp [Rx.flat]) (by simp [Rx.flat]) (by omega) (by omega) hW
theorem neededOf_any (t : Rx) (ht : t.Ok) (hf : faultL t.flat = 0) (hok : ∀ n ∈ t.flat,n.c.ok) (v : Value) (w : World) (h : NsIn w v t.flat) :
    Calls Tryz.prog 29 #[v,.int .i64 0] w fun e w' => e = .returned (.string ⟨t.ned.toArray⟩) ∧ Below w.heap.size w w':=by
  obtain ⟨h60,hops,-⟩:=(faultL_zero t.flat).1 hf
  have hpos:=t.flat_pos
  obtain ⟨a,cap,rfl,hm,h | ⟨b,off,rfl,hlt,hn⟩⟩:=h
  · rw [h] at hpos; simp at hpos
  · have:=ne_tree b off cap t ht [] [] (fun n hn => ⟨(hops n hn).1,hok n hn⟩) (by simpa using h60)
    simp only [List.nil_append,List.append_nil,List.length_nil] at this
    exact this w hlt hn
def beh : List Nd → Nat → Nat × Bool
  | _,0 => (0,true)
  | [],_ + 1 => (0,false)
  | n :: r,m + 1 => ((beh r (m + prt n.op)).1 + 1,(beh r (m + prt n.op)).2)
theorem beh_zero (l : List Nd) : beh l 0 = (0,true):=by cases l <;> rfl
theorem beh_flat : ∀ (t : Rx),t.Ok → ∀ (q : List Nd) (m : Nat),beh (t.flat ++ q) (m + 1) = ((beh q m).1 + t.flat.length,(beh q m).2)
  | .leaf n,h,q,m => by
    have h0 : prt n.op = 0:=h
    simp [Rx.flat,beh,h0]
  | .one n a,h,q,m => by
    have ih:=beh_flat a h.2 q m
    simp [Rx.flat,beh,h.1,ih]; omega
  | .two n a b,h,q,m => by
    have ih:=beh_flat a h.2.1 (b.flat ++ q) (m + 1)
    have ih2:=beh_flat b h.2.2 q m
    rw [ih2] at ih
    simp only [Rx.flat,List.cons_append,List.append_assoc,beh,h.1,ih,List.length_cons,List.length_append]
    refine Prod.ext ?_ rfl
    simp only
    omega
theorem beh_le : ∀ (l : List Nd) (m : Nat),(beh l m).1 ≤ l.length
  | l,0 => by rw [beh_zero]; simp
  | [],m + 1 => by simp [beh]
  | n :: r,m + 1 => by
    have:=beh_le r (m + prt n.op)
    simp [beh]; omega
theorem beh_trees : ∀ (l : List Nd) (m : Nat),(beh l m).2 = true → ∃ (ts : List Rx) (q : List Nd),ts.length = m ∧ (∀ t ∈ ts,t.Ok) ∧ l = (ts.map Rx.flat).flatten ++ q ∧ (beh l m).1 = (ts.map Rx.flat).flatten.length
  | l,0,h => ⟨[],l,rfl,by simp,by simp,by rw [beh_zero]; rfl⟩
  | [],m + 1,h => by simp [beh] at h
  | n :: r,m + 1,h => by
    simp only [beh] at h
    obtain ⟨ts,q,hl,hok,he,hk⟩:=beh_trees r (m + prt n.op) h
    have hp:=prt_le n.op
    have h3 : prt n.op = 0 ∨ prt n.op = 1 ∨ prt n.op = 2:=by omega
    rcases h3 with h0 | h0 | h0
    · refine ⟨.leaf n :: ts,q,by simp; omega,?_,by simp [he,Rx.flat],by simp [beh,hk,Rx.flat]⟩
      intro t ht
      rcases List.mem_cons.1 ht with rfl | ht
      · exact h0
      · exact hok t ht
    · match ts,hl,hok,he,hk with
      | [],hl,_,_,_ => simp at hl; omega
      | a :: ts,hl,hok,he,hk =>
        refine ⟨.one n a :: ts,q,by simp at hl ⊢; omega,?_,by simp [he,Rx.flat],by simp [beh,hk,Rx.flat]⟩
        intro t ht
        rcases List.mem_cons.1 ht with rfl | ht
        · exact ⟨h0,hok a (by simp)⟩
        · exact hok t (by simp [ht])
    · match ts,hl,hok,he,hk with
      | [],hl,_,_,_ => simp at hl; omega
      | [a],hl,_,_,_ => simp at hl; omega
      | a :: b :: ts,hl,hok,he,hk =>
        refine ⟨.two n a b :: ts,q,by simp at hl ⊢; omega,?_,by simp [he,Rx.flat],by simp [beh,hk,Rx.flat]⟩
        intro t ht
        rcases List.mem_cons.1 ht with rfl | ht
        · exact ⟨h0,hok a (by simp),hok b (by simp)⟩
        · exact hok t (by simp [ht])
theorem beh_end (ns : List Nd) (h : (beh ns 1).2 = true) : endE ns 0 = some (beh ns 1).1:=by
  obtain ⟨ts,q,hl,hok,he,hk⟩:=beh_trees ns 1 h
  match ts,hl,hok,he,hk with
  | [t],hl,hok,he,hk =>
    have e : ns = t.flat ++ q:=by simpa using he
    have e2 : (beh ns 1).1 = t.flat.length:=by simpa using hk
    have:=endE_mid t (hok t (by simp)) [] q
    rw [e2,e]
    simpa using this
theorem end_beh (ns : List Nd) (f i j : Nat) (h : endF ns f i = some j) : (beh (ns.drop i) 1).2 = true ∧ i + (beh (ns.drop i) 1).1 = j:=by
  obtain ⟨t,ht,q,e,ej⟩:=part_tree ns f i j h
  have:=beh_flat t ht q 0
  rw [e,this,beh_zero]
  refine ⟨rfl,?_⟩
  simp only
  omega
theorem fault_beh (ns : List Nd) (h60 : ¬ 60 < ns.length) (h0 : scanL ns = 0) : faultL ns = if (beh ns 1).2 = true ∧ ns.length ≤ (beh ns 1).1 then 0 else 2:=by
  rw [faultL,if_neg h60,h0,if_neg (by simp)]
  by_cases h : (beh ns 1).2 = true ∧ ns.length ≤ (beh ns 1).1
  · have e:=beh_end ns h.1
    have hl:=beh_le ns 1
    have e2 : (beh ns 1).1 = ns.length:=by omega
    rw [e2] at e
    have hne : ns ≠ []:=by rintro rfl; rw [endE_nil] at e; cases e
    rw [if_pos h,if_neg (by simp [e,hne])]
  · rw [if_neg h,if_pos]
    refine Or.inr fun e => h ?_
    have:=end_beh ns _ 0 _ e
    rw [List.drop_zero] at this
    exact ⟨this.1,by omega⟩
theorem tree_sub : ∀ (t : Rx),t.Ok → ∀ i,i < t.flat.length → ∃ s : Rx,s.Ok ∧ ∃ q,t.flat.drop i = s.flat ++ q
  | t,ht,0,_ => ⟨t,ht,[],by simp⟩
  | .leaf n,ht,i + 1,h => by simp [Rx.flat] at h
  | .one n a,ht,i + 1,h => by
    obtain ⟨s,hs,q,e⟩:=tree_sub a ht.2 i (by simp [Rx.flat] at h; omega)
    exact ⟨s,hs,q,by simpa [Rx.flat] using e⟩
  | .two n a b,ht,i + 1,h => by
    by_cases hi : i < a.flat.length
    · obtain ⟨s,hs,q,e⟩:=tree_sub a ht.2.1 i hi
      refine ⟨s,hs,q ++ b.flat,?_⟩
      simp only [Rx.flat,List.drop_succ_cons]
      rw [List.drop_append_of_le_length (by omega),e,List.append_assoc]
    · obtain ⟨s,hs,q,e⟩:=tree_sub b ht.2.2 (i - a.flat.length) (by simp [Rx.flat] at h; omega)
      refine ⟨s,hs,q,?_⟩
      simp only [Rx.flat,List.drop_succ_cons]
      rw [List.drop_append,List.drop_eq_nil_of_le (by omega),List.nil_append,e]
theorem part_at (ns : List Nd) (hv : endE ns 0 = some ns.length) (i : Nat) (hi : i < ns.length) : ∃ j,endE ns i = some j:=by
  obtain ⟨t,ht,rfl⟩:=tree_of ns hv
  obtain ⟨s,hs,q,e⟩:=tree_sub t ht i hi
  have h:=endE_mid s hs (t.flat.take i) q
  have e1 : (t.flat.take i).length = i:=by simp; omega
  have e2 : t.flat.take i ++ s.flat ++ q = t.flat:=by rw [List.append_assoc,← e,List.take_append_drop]
  rw [e1,e2] at h
  exact ⟨_,h⟩
theorem beh_step (ns : List Nd) (i m : Nat) (n : Nd) (hn : ns[i]? = some n) : beh (ns.drop i) (m + 1) = ((beh (ns.drop (i + 1)) (m + prt n.op)).1 + 1,(beh (ns.drop (i + 1)) (m + prt n.op)).2):=by
  have hi : i < ns.length:=by
    rcases Nat.lt_or_ge i ns.length with h | h
    · exact h
    · rw [List.getElem?_eq_none h] at hn; cases hn
  rw [List.drop_eq_getElem_cons hi]
  rw [List.getElem?_eq_getElem hi] at hn
  rw [Option.some.inj hn,beh]
theorem rparts_any (op : Int) (w : World) :
    Calls Tryz.prog 109 #[.int .i64 op] w fun e w' => e = .returned (.int .i64 (prt op)) ∧ w' = w:=by
  by_cases h3 : op = 3
  · subst h3
    go_enter Tryz.func109,Tryz.ntmps109
    go_wp2
    go_ret
    exact ⟨rfl,rfl⟩
  by_cases h4 : op = 4
  · subst h4
    go_enter Tryz.func109,Tryz.ntmps109
    go_wp2
    go_ret
    exact ⟨rfl,rfl⟩
  by_cases h5 : op = 5
  · subst h5
    go_enter Tryz.func109,Tryz.ntmps109
    go_wp2
    go_ret
    exact ⟨rfl,rfl⟩
  by_cases h6 : op = 6
  · subst h6
    go_enter Tryz.func109,Tryz.ntmps109
    go_wp2
    go_ret
    exact ⟨rfl,rfl⟩
  by_cases h7 : op = 7
  · subst h7
    go_enter Tryz.func109,Tryz.ntmps109
    go_wp2
    go_ret
    exact ⟨rfl,rfl⟩
  have b3 : (op == 3) = false:=by simp [h3]
  have b4 : (op == 4) = false:=by simp [h4]
  have b5 : (op == 5) = false:=by simp [h5]
  have b6 : (op == 6) = false:=by simp [h6]
  have b7 : (op == 7) = false:=by simp [h7]
  have e0 : prt op = 0:=by unfold prt; simp [h3,h4,h5,h6,h7]
  rw [e0]
  clear h3 h4 h5 h6 h7 e0
  go_enter Tryz.func109,Tryz.ntmps109
  go_wp2
  go_ret
  exact ⟨rfl,rfl⟩
theorem behind_at (ns : List Nd) (b off cap i : Nat) (hm : ns.length ≤ maxLen) (hm2 : ns.length ≤ 2 ^ 62) (hi : i ≤ ns.length) (w : World) (hN : NsAt w b off ns) :
    Calls Tryz.prog 83 #[.slice (some ⟨b,off,none⟩) ns.length cap,.int .i64 i] w fun e w' => e = .returned (.tuple #[.int .i64 (i + (beh (ns.drop i) 1).1 : Nat),.bool (beh (ns.drop i) 1).2]) ∧ w' = w:=by
  unfold maxLen at hm
  obtain ⟨k,x,HK,HX⟩ : ∃ k x,Hid (i + (beh (ns.drop i) 1).1 = k) ∧ Hid ((beh (ns.drop i) 1).2 = x):=⟨_,_,Eq.refl _,Eq.refl _⟩
  rw [HK.out,HX.out]
  go_enter Tryz.func83,Tryz.ntmps83
  go_wp2_with fail
  go_loop [1,6] (fun v u => ∃ (j m : Nat),j ≤ ns.length ∧ m ≤ j + 1 ∧ v = .int .i64 j ∧ u = .int .i64 m ∧ Hid (j + (beh (ns.drop j) m).1 = k) ∧ Hid ((beh (ns.drop j) m).2 = x)) (fun v _ => ns.length - (intOf v).toNat)
  case atStart => exact ⟨i,1,by omega,by omega,rfl,rfl,HK,HX⟩
  case round =>
    obtain ⟨j,m,hj,hmj,rfl,rfl,H1,H2⟩:=hrel
    clear HK HX
    cases m with
    | zero =>
      rw [beh_zero] at H1 H2
      obtain rfl:=H1.out
      obtain rfl:=H2.out
      clear H1 H2
      go_wp2
      go_ret2
      exact ⟨rfl,rfl⟩
    | succ m =>
      have m0 : (0 : Int) < ((m + 1 : Nat) : Int):=by omega
      by_cases hl : j < ns.length
      · obtain ⟨n,hn⟩ : ∃ n,ns[j]? = some n:=⟨ns[j],List.getElem?_eq_getElem hl⟩
        obtain ⟨c0,_⟩:=hN j n hn
        have hp:=prt_le n.op
        have i0 : (0 : Int) ≤ (j : Int):=by omega
        have i1 : (j : Int) < (ns.length : Int):=by omega
        rw [beh_step ns j m n hn] at H1 H2
        have H3 : Hid (j + 1 + (beh (ns.drop (j + 1)) (m + prt n.op)).1 = k):=by show _ = _; rw [← H1.out]; simp only; omega
        have H4 : Hid ((beh (ns.drop (j + 1)) (m + prt n.op)).2 = x):=H2.out
        clear hn H1 H2
        go_wp2_with fail
        refine (rparts_any _ _).mono ?_
        rintro e w1 ⟨rfl,rfl⟩
        generalize prt n.op = pr at *
        go_wp2
        refine ⟨⟨j + 1,m + pr,by omega,by omega,by go_num,?_,H3,H4⟩,by simp [intOf]; omega⟩
        rw [show (m : Int) + 1 + ((pr : Int) - 1) = ((m + pr : Nat) : Int) from by omega]
      · have hj2 : j = ns.length:=by omega
        have i1 : ¬ (j : Int) < (ns.length : Int):=by omega
        have d0 : ns.drop j = []:=List.drop_eq_nil_of_le (by omega)
        rw [d0] at H1 H2
        obtain rfl:=H1.out
        obtain rfl:=H2.out
        have m1 : (((m + 1 : Nat) : Int) == 0) = false:=by rw [beq_eq_false_iff_ne]; omega
        clear H1 H2
        go_wp2
        go_ret2
        exact ⟨rfl,rfl⟩
theorem behind_nil (a : Option Addr) (cap : Nat) (w : World) :
    Calls Tryz.prog 83 #[.slice a 0 cap,.int .i64 0] w fun e w' => e = .returned (.tuple #[.int .i64 0,.bool false]) ∧ w' = w:=by
  go_enter Tryz.func83,Tryz.ntmps83
  go_wp2_with fail
  go_loop [1,6] (fun v u => v = .int .i64 0 ∧ u = .int .i64 1) (fun _ _ => 0)
  case atStart => exact ⟨rfl,rfl⟩
  case round =>
    obtain ⟨rfl,rfl⟩:=hrel
    go_wp2
    go_ret2
    exact ⟨rfl,rfl⟩
theorem checkNode_any (n : Nd) (w : World) :
    Calls Tryz.prog 82 #[n.v] w fun e w' => e = .returned (errV (scanL [n])) ∧ Below w.heap.size w w':=by
  by_cases h1 : n.op < 1
  · have HF : Hid (scanL [n] = 1):=by show _ = _; rw [scanL,if_pos (Or.inl h1)]
    go_enter Tryz.func82,Tryz.ntmps82
    go_wp2
    go_ret
    exact ⟨by rw [HF.out]; rfl,Below.alloc (Below.refl _ _) (Nat.le_refl _) _⟩
  by_cases h9 : 9 < n.op
  · have HF : Hid (scanL [n] = 1):=by show _ = _; rw [scanL,if_pos (Or.inr h9)]
    go_enter Tryz.func82,Tryz.ntmps82
    go_wp2
    go_ret
    exact ⟨by rw [HF.out]; rfl,Below.alloc (Below.refl _ _) (Nat.le_refl _) _⟩
  by_cases hb : n.op = 1
  · have HF : Hid (scanL [n] = 0):=by show _ = _; rw [scanL,if_neg (by omega),if_neg (by simp [hb])]; rfl
    have hb2 : (n.op != 1) = false:=by simp [hb]
    clear hb
    go_enter Tryz.func82,Tryz.ntmps82
    go_wp2
    go_ret
    exact ⟨by rw [HF.out]; rfl,Below.alloc (Below.refl _ _) (Nat.le_refl _) _⟩
  have hb2 : (n.op != 1) = true:=by simp [hb]
  by_cases hz : n.c.eqb z4 = true
  · have HF : Hid (scanL [n] = 0):=by show _ = _; rw [scanL,if_neg (by omega),if_neg (by simp [hz])]; rfl
    clear hb
    have he : ∀ w,(Op.equalIn 10000 104 (.agg #[.int .u64 n.c.a,.int .u64 n.c.b,.int .u64 n.c.c,.int .u64 n.c.d]) (.agg #[.int .u64 0,.int .u64 0,.int .u64 0,.int .u64 0])).run Tryz.prog w = .ok true w:=fun w => (eq4 n.c z4 w).trans (by rw [hz])
    go_enter Tryz.func82,Tryz.ntmps82
    go_wp2
    go_ret
    exact ⟨by rw [HF.out]; rfl,Below.alloc (Below.refl _ _) (Nat.le_refl _) _⟩
  · have HF : Hid (scanL [n] = 2):=by show _ = _; rw [scanL,if_neg (by omega),if_pos ⟨hb,hz⟩]
    clear hb
    have he : ∀ w,(Op.equalIn 10000 104 (.agg #[.int .u64 n.c.a,.int .u64 n.c.b,.int .u64 n.c.c,.int .u64 n.c.d]) (.agg #[.int .u64 0,.int .u64 0,.int .u64 0,.int .u64 0])).run Tryz.prog w = .ok false w:=fun w => (eq4 n.c z4 w).trans (by rw [Bool.eq_false_iff.2 hz])
    go_enter Tryz.func82,Tryz.ntmps82
    go_wp2
    go_ret
    exact ⟨by rw [HF.out]; rfl,Below.alloc (Below.refl _ _) (Nat.le_refl _) _⟩
theorem scan_one (n : Nd) : scanL [n] = if n.op < 1 ∨ 9 < n.op then 1 else if ¬ n.op = 1 ∧ ¬ n.c.eqb z4 = true then 2 else 0:=by
  rw [scanL]; rfl
theorem check_at (ns : List Nd) (b off cap : Nat) (hm : ns.length ≤ maxLen) (w : World) (hlt : b < w.heap.size) (hN : NsAt w b off ns) (h0 : 0 < ns.length) :
    Calls Tryz.prog 56 #[.slice (some ⟨b,off,none⟩) ns.length cap] w fun e w' => e = .returned (errV (faultL ns)) ∧ Below w.heap.size w w':=by
  have HM:=(show Hid _ from hm)
  unfold maxLen at hm
  by_cases h60 : 60 < ns.length
  · have g60 : (60 : Int) < (ns.length : Int):=by omega
    have HF : Hid (faultL ns = 3):=by show _ = _; rw [faultL,if_pos h60]
    go_enter Tryz.func56,Tryz.ntmps56
    go_wp2
    go_ret
    exact ⟨by rw [HF.out]; rfl,Below.refl _ _⟩
  · have g60 : ¬ (60 : Int) < (ns.length : Int):=by omega
    go_enter Tryz.func56,Tryz.ntmps56
    go_wp2
    go_loopw [14] (fun v wr => ∃ i : Nat,i ≤ ns.length ∧ v = .int .i64 i ∧ Hid (scanL ns = scanL (ns.drop i)) ∧ Below w.heap.size w wr) (fun v _ => ns.length - (intOf v).toNat)
    case atStart => exact ⟨0,by omega,rfl,Eq.refl _,Below.refl _ _⟩
    case round =>
      obtain ⟨i,hi,rfl,HS,hB⟩:=hrel
      have hNr:=hN.below hB hlt
      by_cases hil : i < ns.length
      · obtain ⟨n,hn⟩ : ∃ n,ns[i]? = some n:=⟨ns[i],List.getElem?_eq_getElem hil⟩
        obtain ⟨c0,c1,c2,c3,c4⟩:=hNr i n hn
        have HD : Hid _:=scan_drop ns i n hn
        have H1 : Hid _:=scan_one n
        have i0 : (0 : Int) ≤ (i : Int):=by omega
        have i1 : (i : Int) < (ns.length : Int):=by omega
        clear hn
        have hcn:=checkNode_any n
        go_wp2_with fail
        refine (hcn _).mono ?_
        rintro e w1 ⟨rfl,hb1⟩
        have hB1 : Below w.heap.size w w1:=hB.trans ((Below.alloc (Below.refl _ _) (Nat.le_refl _) _).trans (hb1.mono (by simp)) |>.mono hB.size)
        clear hb1 hcn
        by_cases hs : scanL [n] = 0
        · have HS2 : Hid (scanL ns = scanL (ns.drop (i + 1))):=by
            show _ = _
            rw [HS.out,HD.out]
            rw [H1.out] at hs
            split
            · rename_i h; rw [if_pos h] at hs; cases hs
            · rename_i h
              rw [if_neg h] at hs
              split
              · rename_i h2; rw [if_pos h2] at hs; cases hs
              · rfl
          rw [hs,show errV 0 = .nilIface from rfl]
          clear hs HD H1 HS
          go_wp2
          exact ⟨⟨i + 1,by omega,by go_num,HS2,hB1⟩,by simp [intOf]; omega⟩
        · have HF : Hid (faultL ns = scanL [n]):=by
            show _ = _
            have e1 : scanL ns = scanL [n]:=by
              rw [HS.out,HD.out]
              rw [H1.out] at hs ⊢
              split
              · rfl
              · rename_i h
                rw [if_neg h] at hs
                split
                · rfl
                · rename_i h2; rw [if_neg h2] at hs; exact absurd rfl hs
            rw [faultL,if_neg h60,e1,if_pos hs]
          rw [show errV (scanL [n]) = .iface 32 (.int .i64 (scanL [n])) from if_neg hs]
          have HE : Hid (errV (faultL ns) = .iface 32 (.int .i64 (scanL [n]))):=by show _ = _; rw [HF.out]; exact if_neg hs
          clear hs HD H1 HS HF
          generalize scanL [n] = er at *
          go_wp2
          go_ret
          exact ⟨by rw [HE.out]; rfl,hB1⟩
      · have hi2 : i = ns.length:=by omega
        have e0 : scanL ns = 0:=by rw [HS.out,List.drop_eq_nil_of_le (by omega)]; rfl
        have HF : Hid _:=fault_beh ns h60 e0
        have HC : Hid (Calls Tryz.prog 83 #[.slice (some ⟨b,off,none⟩) ns.length cap,.int .i64 0] wr fun e w' => e = .returned (.tuple #[.int .i64 ((beh ns 1).1 : Nat),.bool (beh ns 1).2]) ∧ w' = wr):=by
          have:=behind_at ns b off cap 0 HM.out (by omega) (by omega) wr hNr
          rw [List.drop_zero,Nat.zero_add] at this
          exact this
        subst hi2
        have hkl:=beh_le ns 1
        clear e0 HS
        generalize beh ns 1 = x at *
        obtain ⟨k,y⟩:=x
        simp only at HC HF hkl
        go_wp2_with fail
        refine HC.out.mono ?_
        rintro e w1 ⟨rfl,rfl⟩
        cases y with
        | false =>
          have HF2 : Hid (faultL ns = 2):=by show _ = _; rw [HF.out]; rfl
          clear HF HC
          go_wp2
          go_ret
          exact ⟨by rw [HF2.out]; rfl,hB⟩
        | true =>
          by_cases hk : k < ns.length
          · have HF2 : Hid (faultL ns = 2):=by show _ = _; rw [HF.out,if_neg (by simp; omega)]
            have hk2 : (k : Int) < (ns.length : Int):=by omega
            clear HF HC
            go_wp2
            go_ret
            exact ⟨by rw [HF2.out]; rfl,hB⟩
          · have HF2 : Hid (faultL ns = 0):=by show _ = _; rw [HF.out,if_pos (by simp; omega)]
            have hk2 : ¬ (k : Int) < (ns.length : Int):=by omega
            clear HF HC
            go_wp2
            go_ret
            exact ⟨by rw [HF2.out]; rfl,hB⟩
theorem check_nil (a : Option Addr) (cap : Nat) (w : World) :
    Calls Tryz.prog 56 #[.slice a 0 cap] w fun e w' => e = .returned (errV 2) ∧ Below w.heap.size w w':=by
  go_enter Tryz.func56,Tryz.ntmps56
  go_wp2_with fail
  go_loop [14] (fun v => v = .int .i64 0) (fun _ => 0)
  case atStart => rfl
  case round =>
    subst hrel
    go_wp2_with fail
    refine (behind_nil a cap w).mono ?_
    rintro e w1 ⟨rfl,rfl⟩
    go_wp2
    go_ret
    exact ⟨rfl,Below.refl _ _⟩
theorem rcheck_any (ns : List Nd) (v : Value) (w : World) (hN : NsIn w v ns) :
    Calls Tryz.prog 56 #[v] w fun e w' => e = .returned (errV (faultL ns)) ∧ Below w.heap.size w w':=by
  obtain ⟨a,cap,rfl,hm,h | ⟨b,off,rfl,hlt,hn⟩⟩:=hN
  · subst h
    exact check_nil a cap w
  · by_cases h0 : 0 < ns.length
    · exact check_at ns b off cap hm w hlt hn h0
    · have : ns = []:=List.eq_nil_of_length_eq_zero (by omega)
      subst this
      exact check_nil _ cap w
theorem behind_k (ns : List Nd) (b off cap : Nat) (hm : ns.length ≤ 60) (w : World) (hN : NsAt w b off ns) (i f k : Nat) (h : endF ns f i = some k) :
    Calls Tryz.prog 83 #[.slice (some ⟨b,off,none⟩) ns.length cap,.int .i64 i] w fun e w' => e = .returned (.tuple #[.int .i64 k,.bool true]) ∧ w' = w:=by
  have g:=endF_gt ns f i k h
  have h1:=behind_at ns b off cap i (by unfold maxLen; omega) (by omega) (by omega) w hN
  obtain ⟨e1,e2⟩:=end_beh ns f i k h
  rw [e1,e2] at h1
  exact h1
def endN (ns : List Nd) (i : Int) : Int:=if faultL ns = 0 ∧ 0 ≤ i ∧ i < ns.length then endI (endE ns i.toNat) else 0
def endErr (ns : List Nd) (i : Int) : Int:=if faultL ns = 0 then (if 0 ≤ i ∧ i < ns.length then 0 else 1) else faultL ns
theorem rexEnd_in (ns : List Nd) (i : Int) (h : faultL ns = 0) (h1 : 0 ≤ i) (h2 : i < ns.length) : endN ns i = endI (endE ns i.toNat) ∧ endErr ns i = 0:=by
  simp [endN,endErr,h,h1,h2]
theorem rexEnd_out (ns : List Nd) (i : Int) (h : faultL ns = 0) (h1 : ¬ (0 ≤ i ∧ i < ns.length)) : endN ns i = 0 ∧ endErr ns i = 1:=by
  rw [endN,endErr,if_neg (fun h2 => h1 h2.2),if_pos h,if_neg h1]
  exact ⟨rfl,rfl⟩
theorem rexEnd_bad (ns : List Nd) (i : Int) (h : ¬ faultL ns = 0) : endN ns i = 0 ∧ endErr ns i = faultL ns:=by
  rw [endN,endErr,if_neg (fun h2 => h h2.1),if_neg h]
  exact ⟨rfl,rfl⟩
theorem rend_any (ns : List Nd) (v : Value) (i : Int) (w : World) (hN : NsIn w v ns) :
    Calls Tryz.prog 85 #[v,.int .i64 i] w fun e w' => e = .returned (.tuple #[.int .i64 (endN ns i),errV (endErr ns i)]) ∧ Below w.heap.size w w':=by
  have CC : Hid _:=rcheck_any ns v w hN
  by_cases hf : faultL ns = 0
  · obtain ⟨hl,hr,hv⟩:=(faultL_zero ns).1 hf
    by_cases hi : 0 ≤ i ∧ i < ns.length
    · obtain ⟨c1,c2⟩:=rexEnd_in ns i hf hi.1 hi.2
      rw [c1,c2]
      obtain ⟨j,rfl⟩ : ∃ j : Nat,i = (j : Int):=⟨i.toNat,by omega⟩
      rw [Int.toNat_natCast]
      obtain ⟨k,hk⟩:=part_at ns hv j (by omega)
      obtain ⟨a,cap,rfl,hm,h | ⟨b,off,rfl,hlt,hn⟩⟩:=hN
      · subst h; rw [endE_nil] at hv; cases hv
      have C2 : Hid (∀ w',Below w.heap.size w w' → Calls Tryz.prog 83 #[.slice (some ⟨b,off,none⟩) ns.length cap,.int .i64 j] w' fun e w'' => e = .returned (.tuple #[.int .i64 k,.bool true]) ∧ w'' = w'):=fun w' hb => behind_k ns b off cap hl w' (hn.below hb hlt) j _ k hk
      rw [hk,show endI (some k) = (k : Int) from rfl]
      rw [hf] at CC
      rw [show errV 0 = .nilIface from rfl] at CC ⊢
      have i0 : (0 : Int) ≤ (j : Int):=hi.1
      have i1 : (j : Int) < (ns.length : Int):=hi.2
      clear hr hv hn hf hk c1 c2 hi
      go_enter Tryz.func85,Tryz.ntmps85
      go_wp2_with fail
      refine Calls.mono CC.out ?_
      rintro e w1 ⟨rfl,hb⟩
      have B1 : Hid _:=hb
      clear hb
      go_wp2_with fail
      refine Calls.mono (C2.out _ B1.out) ?_
      rintro e w1 ⟨rfl,rfl⟩
      go_wp2
      go_ret2
      exact ⟨rfl,B1.out⟩
    · obtain ⟨c1,c2⟩:=rexEnd_out ns i hf hi
      rw [c1,c2]
      obtain ⟨a,cap,rfl,hm,_⟩:=hN
      rw [hf] at CC
      rw [show errV 0 = .nilIface from rfl] at CC
      rw [show errV 1 = .iface 32 (.int .i64 1) from rfl]
      clear hr hv hf c1 c2
      by_cases i0 : i < 0
      · clear hi
        go_enter Tryz.func85,Tryz.ntmps85
        go_wp2_with fail
        refine Calls.mono CC.out ?_
        rintro e w1 ⟨rfl,hb⟩
        have B1 : Hid _:=hb
        clear hb
        go_wp2
        go_ret2
        exact ⟨rfl,B1.out⟩
      · have i1 : (ns.length : Int) ≤ i:=by omega
        clear hi
        go_enter Tryz.func85,Tryz.ntmps85
        go_wp2_with fail
        refine Calls.mono CC.out ?_
        rintro e w1 ⟨rfl,hb⟩
        have B1 : Hid _:=hb
        clear hb
        go_wp2
        go_ret2
        exact ⟨rfl,B1.out⟩
  · obtain ⟨c1,c2⟩:=rexEnd_bad ns i hf
    rw [c1,c2]
    obtain ⟨a,cap,rfl,hm,_⟩:=hN
    rw [show errV (faultL ns) = .iface 32 (.int .i64 (faultL ns)) from if_neg hf] at CC ⊢
    clear hf c1 c2
    generalize faultL ns = ft at *
    go_enter Tryz.func85,Tryz.ntmps85
    go_wp2_with fail
    refine Calls.mono CC.out ?_
    rintro e w1 ⟨rfl,hb⟩
    have B1 : Hid _:=hb
    clear hb
    go_wp2
    go_ret2
    exact ⟨rfl,B1.out⟩
theorem ofBoth_any (x y : List UInt8) (bx bb : Bool) (hx : x.length ≤ 60) (hy : y.length ≤ 60) (w : World) : Calls Tryz.prog 86 #[muV x bx,muV y bb] w fun e w' => e = .returned (if (bx && bb) = true then muV (x ++ y) true else muV (longer x y) false) ∧ Below w.heap.size w w':=by
  have fA : Hmu (((w.alloc (.cells #[.string ⟨x.toArray⟩,.bool bx] 131)).alloc (.cells #[.string ⟨y.toArray⟩,.bool bb] 131)).alloc (.cells #[.string ⟨#[]⟩,.bool false] 131)) w.heap.size ⟨x.toArray⟩ bx:=((Hmu.new w _ bx _ rfl).alloc _).alloc _
  have fB : Hmu (((w.alloc (.cells #[.string ⟨x.toArray⟩,.bool bx] 131)).alloc (.cells #[.string ⟨y.toArray⟩,.bool bb] 131)).alloc (.cells #[.string ⟨#[]⟩,.bool false] 131)) (w.heap.size + 1) ⟨y.toArray⟩ bb:=(Hmu.new _ _ bb _ (by simp)).alloc _
  have fC : Hmu (((w.alloc (.cells #[.string ⟨x.toArray⟩,.bool bx] 131)).alloc (.cells #[.string ⟨y.toArray⟩,.bool bb] 131)).alloc (.cells #[.string ⟨#[]⟩,.bool false] 131)) (w.heap.size + 1 + 1) ⟨#[]⟩ false:=Hmu.new _ _ _ _ (by simp)
  have gW : Hid (Below w.heap.size w (((w.alloc (.cells #[.string ⟨x.toArray⟩,.bool bx] 131)).alloc (.cells #[.string ⟨y.toArray⟩,.bool bb] 131)).alloc (.cells #[.string ⟨#[]⟩,.bool false] 131))):=(((Below.refl _ _).alloc (Nat.le_refl _) _).alloc (by simp) _).alloc (by simp; omega) _
  have s1 : (⟨x.toArray⟩ : ByteArray).size = x.length:=size_str _
  have s2 : (⟨y.toArray⟩ : ByteArray).size = y.length:=size_str _
  unfold muV
  go_enter Tryz.func86,Tryz.ntmps86
  go_upto_region 1 with fail
  generalize (((w.alloc (.cells #[.string ⟨x.toArray⟩,.bool bx] 131)).alloc (.cells #[.string ⟨y.toArray⟩,.bool bb] 131)).alloc (.cells #[.string ⟨#[]⟩,.bool false] 131)) = w4 at *
  obtain ⟨a0,a1,_,_⟩:=fA.all
  obtain ⟨b0,b1,_,_⟩:=fB.all
  obtain ⟨c0,c1,z0,z1⟩:=fC.all
  clear fA fB
  have hbp:=fun v v' => below_putM gW.out (Nat.le_succ_of_le (Nat.le_succ w.heap.size)) v v'
  cases hbx : bx && bb
  · have HC : Hid (∀ s,((w4.setCell ⟨w.heap.size + 1 + 1,0,none⟩ (.string s)).setCell ⟨w.heap.size + 1 + 1,1,none⟩ (.bool false)).cell? ⟨w.heap.size + 1 + 1,0,none⟩ = some (.string s) ∧ ((w4.setCell ⟨w.heap.size + 1 + 1,0,none⟩ (.string s)).setCell ⟨w.heap.size + 1 + 1,1,none⟩ (.bool false)).cell? ⟨w.heap.size + 1 + 1,1,none⟩ = some (.bool false)):=fun s => ⟨(fC.put s false).all.1,(fC.put s false).all.2.1⟩
    have HBP:=hid hbp
    clear fC hbp
    by_cases hc : x.length < y.length
    · have HL : Hid (longer x y = y):=by show _ = _; unfold longer; rw [if_pos hc]
      have g4 : ((⟨x.toArray⟩ : ByteArray).size : Int) < ((⟨y.toArray⟩ : ByteArray).size : Int):=by rw [s1,s2]; omega
      have hcd : decide (x.length < y.length) = true:=by simp only [hc,decide_true,decide_false]
      clear s1 s2 g4
      clear hc
      cases bx
      · go_wp2
        obtain ⟨p0,p1⟩:=HC.out ⟨y.toArray⟩
        exact bodyPost_ret (v:=.agg #[.string ⟨y.toArray⟩,.bool false]) (by simp [results,Tryz.results86,go_sem,p0,p1]) rfl ⟨by rw [HL.out],HBP.out _ _⟩
      · obtain rfl : bb = false:=by simpa using hbx
        clear hbx
        go_wp2
        obtain ⟨p0,p1⟩:=HC.out ⟨y.toArray⟩
        exact bodyPost_ret (v:=.agg #[.string ⟨y.toArray⟩,.bool false]) (by simp [results,Tryz.results86,go_sem,p0,p1]) rfl ⟨by rw [HL.out],HBP.out _ _⟩
    · have HL : Hid (longer x y = x):=by show _ = _; unfold longer; rw [if_neg hc]
      have g4 : ¬ ((⟨x.toArray⟩ : ByteArray).size : Int) < ((⟨y.toArray⟩ : ByteArray).size : Int):=by rw [s1,s2]; omega
      have hcd : decide (x.length < y.length) = false:=by simp only [hc,decide_true,decide_false]
      clear s1 s2 g4
      clear hc
      cases bx
      · go_wp2
        obtain ⟨p0,p1⟩:=HC.out ⟨x.toArray⟩
        exact bodyPost_ret (v:=.agg #[.string ⟨x.toArray⟩,.bool false]) (by simp [results,Tryz.results86,go_sem,p0,p1]) rfl ⟨by rw [HL.out],HBP.out _ _⟩
      · obtain rfl : bb = false:=by simpa using hbx
        clear hbx
        go_wp2
        obtain ⟨p0,p1⟩:=HC.out ⟨x.toArray⟩
        exact bodyPost_ret (v:=.agg #[.string ⟨x.toArray⟩,.bool false]) (by simp [results,Tryz.results86,go_sem,p0,p1]) rfl ⟨by rw [HL.out],HBP.out _ _⟩
  · obtain ⟨rfl,rfl⟩ : bx = true ∧ bb = true:=by simpa using hbx
    have HC : Hid (((w4.setCell ⟨w.heap.size + 1 + 1,0,none⟩ (.string ⟨(x ++ y).toArray⟩)).setCell ⟨w.heap.size + 1 + 1,1,none⟩ (.bool true)).cell? ⟨w.heap.size + 1 + 1,0,none⟩ = some (.string ⟨(x ++ y).toArray⟩) ∧ ((w4.setCell ⟨w.heap.size + 1 + 1,0,none⟩ (.string ⟨(x ++ y).toArray⟩)).setCell ⟨w.heap.size + 1 + 1,1,none⟩ (.bool true)).cell? ⟨w.heap.size + 1 + 1,1,none⟩ = some (.bool true)):=⟨(fC.put _ true).all.1,(fC.put _ true).all.2.1⟩
    have hcat : (⟨x.toArray⟩ : ByteArray) ++ ⟨y.toArray⟩ = ⟨(x ++ y).toArray⟩:=cat_str x y
    have l1 : (⟨x.toArray⟩ : ByteArray).size ≤ 60:=by rw [size_str]; omega
    have l2 : (⟨y.toArray⟩ : ByteArray).size ≤ 60:=by rw [size_str]; omega
    have HBP:=hid hbp
    clear fC hbp hbx s1 s2
    go_wp2
    obtain ⟨p0,p1⟩:=HC.out
    exact bodyPost_ret (v:=.agg #[.string ⟨(x ++ y).toArray⟩,.bool true]) (by simp [results,Tryz.results86,go_sem,p0,p1]) rfl ⟨rfl,HBP.out _ _⟩
def PnOk (ns : List Nd) (b off cap : Nat) (t : Rx) (i : Nat) : Prop:=∀ w : World,b < w.heap.size → NsAt w b off ns →
  Calls Tryz.prog 57 #[.slice (some ⟨b,off,none⟩) ns.length cap,.int .i64 (i : Int)] w fun e w' => e = .returned t.muV ∧ Below w.heap.size w w'
theorem fieldM (s : ByteArray) (f : Bool) (w : World) : (Instr.field 131 (.agg #[.string s,.bool f]) 0).run Tryz.prog w = .ok (.string s) w:=by kernel_rfl
theorem muV_form (t : Rx) : t.muV = .agg #[.string ⟨t.ned.toArray⟩,.bool t.whl.isSome]:=rfl
theorem pn_leaf (ns : List Nd) (hl : ns.length ≤ 60) (b off cap i : Nat) (n : Nd) (hn : ns[i]? = some n) (hi : i < ns.length) (hok : n.c.ok) (hop : n.op = 1 ∨ n.op = 2 ∨ n.op = 8 ∨ n.op = 9) : PnOk ns b off cap (.leaf n) i:=by
  intro w hlt hN
  have fA : Hmu (w.alloc (.cells #[.string ⟨#[]⟩,.bool false] 131)) w.heap.size ⟨#[]⟩ false:=Hmu.new _ _ _ _ rfl
  have gW : Hid (Below w.heap.size w (w.alloc (.cells #[.string ⟨#[]⟩,.bool false] 131))):=(Below.refl _ _).alloc (Nat.le_refl _) _
  obtain ⟨c0,c1,c2,c3,c4⟩:=(hN.below gW.out hlt) i n hn
  have HZ : Hid (w.alloc (.cells #[.string ⟨#[]⟩,.bool false] 131) = w.alloc (.cells #[.string ⟨#[]⟩,.bool false] 131)):=Eq.refl _
  have i0 : (0 : Int) ≤ (i : Int):=by omega
  have i1 : (i : Int) < (ns.length : Int):=by omega
  go_enter Tryz.func57,Tryz.ntmps57
  go_upto_region 1 with fail
  generalize (w.alloc (.cells #[.string ⟨#[]⟩,.bool false] 131)) = w4 at *
  clear hN HZ
  rcases hop with hop | hop | hop | hop
  · rw [hop] at c0
    have HV : Hid ((Rx.leaf n).muV = n.c.muV):=by
      show _ = _
      simp only [Rx.muV,C4.muV,Rx.ned,Rx.whl,if_pos hop]
    obtain ⟨l,f,HF⟩ : ∃ l f,Hid (n.c.muV = .agg #[.string ⟨l⟩,.bool f]):=⟨_,_,Eq.refl _⟩
    have HB:=hid (fun w' => ofByte_any n.c hok w')
    rw [HF.out] at HV HB
    clear hop HF
    go_wp2_with fail
    refine Calls.mono (HB.out _) ?_
    rintro e w5 ⟨rfl,hb⟩
    have B:=hid (gW.out.trans (hb.mono gW.out.size))
    have fB:=fA.below hb fA.lt
    clear fA hb
    obtain ⟨m0,m1,z0,z1⟩:=fB.all
    go_wp2
    have hp:=(fB.put ⟨l⟩ f).all
    refine bodyPost_ret (v:=.agg #[.string ⟨l⟩,.bool f]) (by simp [results,Tryz.results57,go_sem,hp.1,hp.2.1]) rfl ⟨by rw [HV.out],?_⟩
    exact below_putM B.out (Nat.le_refl _) _ _
  · have HV : Hid ((Rx.leaf n).muV = .agg #[.string ⟨#[]⟩,.bool true]):=by
      show _ = _
      simp [muV_form,Rx.ned,Rx.whl,hop]
    rw [hop] at c0
    obtain ⟨m0,m1,z0,z1⟩:=fA.all
    go_wp2
    have hp:=(fA.put ⟨#[]⟩ true).all
    refine bodyPost_ret (v:=.agg #[.string ⟨#[]⟩,.bool true]) (by simp [results,Tryz.results57,go_sem,hp.1,hp.2.1]) rfl ⟨by rw [HV.out],?_⟩
    exact below_putM gW.out (Nat.le_refl _) _ _
  · have HV : Hid ((Rx.leaf n).muV = .agg #[.string ⟨#[]⟩,.bool false]):=by
      show _ = _
      simp [muV_form,Rx.ned,Rx.whl,hop]
    rw [hop] at c0
    obtain ⟨m0,m1,z0,z1⟩:=fA.all
    go_wp2
    have hp:=(fA.put ⟨#[]⟩ false).all
    refine bodyPost_ret (v:=.agg #[.string ⟨#[]⟩,.bool false]) (by simp [results,Tryz.results57,go_sem,hp.1,hp.2.1]) rfl ⟨by rw [HV.out],?_⟩
    exact below_putM gW.out (Nat.le_refl _) _ _
  · have HV : Hid ((Rx.leaf n).muV = .agg #[.string ⟨#[]⟩,.bool false]):=by
      show _ = _
      simp [muV_form,Rx.ned,Rx.whl,hop]
    rw [hop] at c0
    obtain ⟨m0,m1,z0,z1⟩:=fA.all
    go_wp2
    have hp:=(fA.put ⟨#[]⟩ false).all
    refine bodyPost_ret (v:=.agg #[.string ⟨#[]⟩,.bool false]) (by simp [results,Tryz.results57,go_sem,hp.1,hp.2.1]) rfl ⟨by rw [HV.out],?_⟩
    exact below_putM gW.out (Nat.le_refl _) _ _
theorem pn_none (ns : List Nd) (hl : ns.length ≤ 60) (b off cap i : Nat) (n : Nd) (t : Rx) (ht : t.whl = none) (hd : t.ned = []) (hn : ns[i]? = some n) (hi : i < ns.length) (hop : n.op = 4 ∨ n.op = 5 ∨ n.op = 7) : PnOk ns b off cap t i:=by
  intro w hlt hN
  have fA : Hmu (w.alloc (.cells #[.string ⟨#[]⟩,.bool false] 131)) w.heap.size ⟨#[]⟩ false:=Hmu.new _ _ _ _ rfl
  have gW : Hid (Below w.heap.size w (w.alloc (.cells #[.string ⟨#[]⟩,.bool false] 131))):=(Below.refl _ _).alloc (Nat.le_refl _) _
  obtain ⟨c0,c1,c2,c3,c4⟩:=(hN.below gW.out hlt) i n hn
  have i0 : (0 : Int) ≤ (i : Int):=by omega
  have i1 : (i : Int) < (ns.length : Int):=by omega
  have HV : Hid (t.muV = .agg #[.string ⟨#[]⟩,.bool false]):=by show _ = _; rw [muV_form,hd,ht]; rfl
  have g1 : (n.op == 1) = false:=by rw [beq_eq_false_iff_ne]; omega
  have g2 : (n.op == 2) = false:=by rw [beq_eq_false_iff_ne]; omega
  have g3 : (n.op == 3) = false:=by rw [beq_eq_false_iff_ne]; omega
  have g6 : (n.op == 6) = false:=by rw [beq_eq_false_iff_ne]; omega
  clear hop hN ht hd
  go_enter Tryz.func57,Tryz.ntmps57
  go_upto_region 1 with fail
  generalize (w.alloc (.cells #[.string ⟨#[]⟩,.bool false] 131)) = w4 at *
  obtain ⟨m0,m1,z0,z1⟩:=fA.all
  go_wp2
  have hp:=(fA.put ⟨#[]⟩ false).all
  refine bodyPost_ret (v:=.agg #[.string ⟨#[]⟩,.bool false]) (by simp [results,Tryz.results57,go_sem,hp.1,hp.2.1]) rfl ⟨by rw [HV.out],?_⟩
  exact below_putM gW.out (Nat.le_refl _) _ _
theorem pn_plus (ns : List Nd) (hl : ns.length ≤ 60) (b off cap i : Nat) (n : Nd) (a : Rx) (hn : ns[i]? = some n) (hi : i < ns.length) (h6 : n.op = 6) (hA : PnOk ns b off cap a (i + 1)) : PnOk ns b off cap (.one n a) i:=by
  intro w hlt hN
  have fA : Hmu (w.alloc (.cells #[.string ⟨#[]⟩,.bool false] 131)) w.heap.size ⟨#[]⟩ false:=Hmu.new _ _ _ _ rfl
  have gW : Hid (Below w.heap.size w (w.alloc (.cells #[.string ⟨#[]⟩,.bool false] 131))):=(Below.refl _ _).alloc (Nat.le_refl _) _
  have HN:=hid hN
  have HA : Hid (∀ w',Below w.heap.size w w' → _):=fun w' hb => hA w' (Nat.lt_of_lt_of_le hlt hb.size) (hN.below hb hlt)
  rw [muV_form] at HA
  obtain ⟨c0,c1,c2,c3,c4⟩:=(hN.below gW.out hlt) i n hn
  have i0 : (0 : Int) ≤ (i : Int):=by omega
  have i1 : (i : Int) < (ns.length : Int):=by omega
  have HV : Hid ((Rx.one n a).muV = .agg #[.string ⟨a.ned.toArray⟩,.bool false]):=by
    show _ = _
    rw [muV_form,Rx.ned,if_pos h6]
    rfl
  have hk : Hid ((i : Int) + 1 = ((i + 1 : Nat) : Int)):=by show _ = _; omega
  rw [h6] at c0
  clear hN hA h6
  go_enter Tryz.func57,Tryz.ntmps57
  go_upto_region 1 with fail
  generalize (w.alloc (.cells #[.string ⟨#[]⟩,.bool false] 131)) = w4 at *
  go_wp2_with fail
  rw [hk.out]
  refine Calls.mono (HA.out _ gW.out) ?_
  rintro e w5 ⟨rfl,hb⟩
  have B:=hid (gW.out.trans (hb.mono gW.out.size))
  have fB:=fA.below hb fA.lt
  have hfl:=fieldM
  clear fA hb
  obtain ⟨m0,m1,z0,z1⟩:=fB.all
  go_wp2
  have hp:=(fB.put ⟨a.ned.toArray⟩ false).all
  refine bodyPost_ret (v:=.agg #[.string ⟨a.ned.toArray⟩,.bool false]) (by simp [results,Tryz.results57,go_sem,hp.1,hp.2.1]) rfl ⟨by rw [HV.out],?_⟩
  exact below_putM B.out (Nat.le_refl _) _ _
theorem pn_cat (ns : List Nd) (hf : faultL ns = 0) (hl : ns.length ≤ 60) (b off cap i : Nat) (n : Nd) (x y : Rx) (hn : ns[i]? = some n) (hi : i + 1 < ns.length) (hop : n.op = 3) (he : endE ns (i + 1) = some (i + 1 + x.flat.length)) (hxl : x.flat.length ≤ 60) (hyl : y.flat.length ≤ 60) (hX : PnOk ns b off cap x (i + 1)) (hY : PnOk ns b off cap y (i + 1 + x.flat.length)) : PnOk ns b off cap (.two n x y) i:=by
  intro w hlt hN
  have fA : Hmu (w.alloc (.cells #[.string ⟨#[]⟩,.bool false] 131)) w.heap.size ⟨#[]⟩ false:=Hmu.new _ _ _ _ rfl
  have gW : Hid (Below w.heap.size w (w.alloc (.cells #[.string ⟨#[]⟩,.bool false] 131))):=(Below.refl _ _).alloc (Nat.le_refl _) _
  have HX : Hid (∀ w',Below w.heap.size w w' → _):=fun w' hb => hX w' (Nat.lt_of_lt_of_le hlt hb.size) (hN.below hb hlt)
  have HY : Hid (∀ w',Below w.heap.size w w' → _):=fun w' hb => hY w' (Nat.lt_of_lt_of_le hlt hb.size) (hN.below hb hlt)
  have HBO : Hid (∀ w',Calls Tryz.prog 86 #[muV x.ned x.whl.isSome,muV y.ned y.whl.isSome] w' fun e w'' => e = .returned (Rx.two n x y).muV ∧ Below w'.heap.size w' w''):=fun w' => by
    refine Calls.mono (ofBoth_any x.ned y.ned x.whl.isSome y.whl.isSome (Nat.le_trans (ned_len x) hxl) (Nat.le_trans (ned_len y) hyl) w') ?_
    rintro e w'' ⟨rfl,hb⟩
    refine ⟨?_,hb⟩
    congr 1
    rw [muV_form,Rx.ned,Rx.whl,if_pos hop]
    cases hx : x.whl with
    | none => simp [muV,if_pos hop]
    | some p =>
      cases hy : y.whl with
      | none => simp [muV,if_pos hop]
      | some q => simp [muV,ned_whl hx,ned_whl hy]
  have HEN : Hid (∀ w',Below w.heap.size w w' → _):=fun w' hb => rend_any ns (.slice (some ⟨b,off,none⟩) ns.length cap) ((i + 1 : Nat) : Int) w' ⟨_,_,rfl,by unfold maxLen; omega,Or.inr ⟨b,off,rfl,Nat.lt_of_lt_of_le hlt hb.size,hN.below hb hlt⟩⟩
  obtain ⟨q1,q2⟩:=rexEnd_in ns ((i + 1 : Nat) : Int) hf (by omega) (by omega)
  rw [q1,q2,Int.toNat_natCast,he,show endI (some (i + 1 + x.flat.length)) = ((i + 1 + x.flat.length : Nat) : Int) from rfl,show errV 0 = .nilIface from rfl] at HEN
  obtain ⟨l,f,HF⟩ : ∃ l f,Hid ((Rx.two n x y).muV = .agg #[.string ⟨l⟩,.bool f]):=⟨_,_,Eq.refl _⟩
  rw [HF.out] at HBO
  rw [muV_form] at HX HY
  unfold muV at HBO
  obtain ⟨c0,c1,c2,c3,c4⟩:=(hN.below gW.out hlt) i n hn
  have i0 : (0 : Int) ≤ (i : Int):=by omega
  have i1 : (i : Int) < (ns.length : Int):=by omega
  have hk : Hid ((i : Int) + 1 = ((i + 1 : Nat) : Int)):=by show _ = _; omega
  rw [hop] at c0
  clear hN hop hX hY q1 q2 he
  go_enter Tryz.func57,Tryz.ntmps57
  go_upto_region 1 with fail
  generalize (w.alloc (.cells #[.string ⟨#[]⟩,.bool false] 131)) = w4 at *
  go_wp2_with fail
  rw [hk.out]
  refine Calls.mono (HEN.out _ gW.out) ?_
  rintro e w5 ⟨rfl,hb⟩
  have B:=hid (gW.out.trans (hb.mono gW.out.size))
  have fB:=fA.below hb fA.lt
  clear fA hb gW c0 c1 c2 c3 c4
  go_wp2_with fail
  rw [hk.out]
  refine Calls.mono (HX.out _ B.out) ?_
  rintro e w6 ⟨rfl,hb⟩
  replace B:=hid (B.out.trans (hb.mono B.out.size))
  replace fB:=fB.below hb fB.lt
  clear hb
  go_wp2_with fail
  refine Calls.mono (HY.out _ B.out) ?_
  rintro e w7 ⟨rfl,hb⟩
  replace B:=hid (B.out.trans (hb.mono B.out.size))
  replace fB:=fB.below hb fB.lt
  clear hb
  go_wp2_with fail
  refine Calls.mono (HBO.out _) ?_
  rintro e w8 ⟨rfl,hb⟩
  replace B:=hid (B.out.trans (hb.mono B.out.size))
  replace fB:=fB.below hb fB.lt
  clear hb
  obtain ⟨m0,m1,z0,z1⟩:=fB.all
  go_wp2
  have hp:=(fB.put ⟨l⟩ f).all
  refine bodyPost_ret (v:=.agg #[.string ⟨l⟩,.bool f]) (by simp [results,Tryz.results57,go_sem,hp.1,hp.2.1]) rfl ⟨by rw [HF.out],?_⟩
  exact below_putM B.out (Nat.le_refl _) _ _
theorem pn_tree (b off cap : Nat) : ∀ (t : Rx),t.Ok → ∀ (p q : List Nd),faultL (p ++ t.flat ++ q) = 0 → (∀ n ∈ t.flat,(1 ≤ n.op ∧ n.op ≤ 9) ∧ n.c.ok) → (p ++ t.flat ++ q).length ≤ 60 → PnOk (p ++ t.flat ++ q) b off cap t p.length
  | .leaf n,h,p,q,hf,ho,hl => by
    have h1:=ho n (by simp [Rx.flat])
    refine pn_leaf _ hl b off cap p.length n (by simp [Rx.flat]) (by simp [Rx.flat]) h1.2 ?_
    have h0 : prt n.op = 0:=h
    have h2 : ¬ prt n.op = 2:=by omega
    have h3 : ¬ prt n.op = 1:=by omega
    rw [prt_two] at h2
    rw [prt_one] at h3
    omega
  | .one n a,h,p,q,hf,ho,hl => by
    by_cases h6 : n.op = 6
    · have e : p ++ (Rx.one n a).flat ++ q = (p ++ [n]) ++ a.flat ++ q:=by simp [Rx.flat]
      have ih:=pn_tree b off cap a h.2 (p ++ [n]) q (by rw [← e]; exact hf) (fun m hm => ho m (by simp [Rx.flat,hm])) (by rw [← e]; exact hl)
      rw [← e,show (p ++ [n]).length = p.length + 1 from by simp] at ih
      exact pn_plus _ hl b off cap p.length n a (by simp [Rx.flat]) (by simp [Rx.flat]) h6 ih
    · have hop:=(prt_one n.op).1 h.1
      exact pn_none _ hl b off cap p.length n _ rfl (by rw [Rx.ned,if_neg h6]) (by simp [Rx.flat]) (by simp [Rx.flat]) (by omega)
  | .two n x y,h,p,q,hf,ho,hl => by
    have e1 : p ++ (Rx.two n x y).flat ++ q = (p ++ [n]) ++ x.flat ++ (y.flat ++ q):=by simp [Rx.flat]
    have e2 : p ++ (Rx.two n x y).flat ++ q = (p ++ [n] ++ x.flat) ++ y.flat ++ q:=by simp [Rx.flat]
    rcases (prt_two n.op).1 h.1 with hop | hop
    · have ih1:=pn_tree b off cap x h.2.1 (p ++ [n]) (y.flat ++ q) (by rw [← e1]; exact hf) (fun m hm => ho m (by simp [Rx.flat,hm])) (by rw [← e1]; exact hl)
      have ih2:=pn_tree b off cap y h.2.2 (p ++ [n] ++ x.flat) q (by rw [← e2]; exact hf) (fun m hm => ho m (by simp [Rx.flat,hm])) (by rw [← e2]; exact hl)
      rw [← e1,show (p ++ [n]).length = p.length + 1 from by simp] at ih1
      rw [← e2,show (p ++ [n] ++ x.flat).length = p.length + 1 + x.flat.length from by simp; omega] at ih2
      have hb : x.flat.length ≤ 60 ∧ y.flat.length ≤ 60:=by
        rw [e1] at hl
        simp at hl
        omega
      have hpx:=x.flat_pos
      exact pn_cat _ hf hl b off cap p.length n x y (by simp [Rx.flat]) (by simp [Rx.flat]; omega) hop (end_at p q n x y h.2.1 _ rfl) hb.1 hb.2 ih1 ih2
    · have hw : (Rx.two n x y).whl = none:=by rw [Rx.whl,if_neg (by omega)]
      exact pn_none _ hl b off cap p.length n _ hw (by rw [Rx.ned,hw]; simp only; rw [if_neg (by omega)]) (by simp [Rx.flat]) (by simp [Rx.flat]) (by omega)
theorem ofPart_any (t : Rx) (ht : t.Ok) (hf : faultL t.flat = 0) (hok : ∀ n ∈ t.flat,n.wf) (v : Value) (w : World) (h : NsIn w v t.flat) :
    Calls Tryz.prog 57 #[v,.int .i64 0] w fun e w' => e = .returned t.muV ∧ Below w.heap.size w w':=by
  obtain ⟨h60,hops,-⟩:=(faultL_zero t.flat).1 hf
  have hpos:=t.flat_pos
  obtain ⟨a,cap,rfl,hm,h | ⟨b,off,rfl,hlt,hn⟩⟩:=h
  · rw [h] at hpos; simp at hpos
  · have:=pn_tree b off cap t ht [] [] (by simpa using hf) (fun n hn => ⟨(hops n hn).1,C4.wf_ok (hok n hn).2⟩) (by simpa using h60)
    simp only [List.nil_append,List.append_nil,List.length_nil] at this
    exact this w hlt hn
theorem needed_bad (ns : List Nd) (v : Value) (w : World) (hN : NsIn w v ns) (hf : ¬ faultL ns = 0) : Calls Tryz.prog 39 #[v] w fun e w' => e = .returned (.tuple #[.string ⟨#[]⟩,errV (faultL ns)]) ∧ Below w.heap.size w w':=by
  have CC : Hid _:=rcheck_any ns v w hN
  rw [show errV (faultL ns) = .iface 32 (.int .i64 (faultL ns)) from if_neg hf] at CC ⊢
  clear hf hN
  generalize faultL ns = ft at *
  go_enter Tryz.func39,Tryz.ntmps39
  go_wp2_with fail
  refine Calls.mono CC.out ?_
  rintro e w1 ⟨rfl,hb⟩
  have B:=hid hb
  clear hb CC
  go_wp2
  go_ret2
  exact ⟨rfl,B.out⟩
theorem needed_any (t : Rx) (v : Value) (w : World) (ht : t.Ok) (hN : NsIn w v t.flat) (hok : ∀ n ∈ t.flat,n.wf) (hf : faultL t.flat = 0) : Calls Tryz.prog 39 #[v] w fun e w' => e = .returned (.tuple #[.string ⟨t.ned.toArray⟩,.nilIface]) ∧ Below w.heap.size w w':=by
  have CC : Hid _:=rcheck_any t.flat v w hN
  rw [hf,show errV 0 = .nilIface from rfl] at CC
  have HP : Hid (∀ w',Below w.heap.size w w' → _):=fun w' hb => ofPart_any t ht hf hok v w' (hN.below hb)
  rw [muV_form] at HP
  clear hf hN hok ht
  have hfl:=fieldM
  go_enter Tryz.func39,Tryz.ntmps39
  go_wp2_with fail
  refine Calls.mono CC.out ?_
  rintro e w1 ⟨rfl,hb⟩
  have B:=hid hb
  clear hb CC
  go_wp2_with fail
  refine Calls.mono (HP.out _ B.out) ?_
  rintro e w2 ⟨rfl,hb⟩
  replace B:=hid (B.out.trans (hb.mono B.out.size))
  clear hb HP
  go_wp2
  go_ret2
  exact ⟨rfl,B.out⟩
theorem litN (X : World → Prop) : LitN X where
  bad:=fun ns v w hN _ hf => needed_bad ns v w hN hf
  need:=fun t v w _ ht hN hok hf => needed_any t v w ht hN hok hf
theorem memberOf_any (n : Nat) (s : ByteArray) (t : Rx) (ht : t.Ok) (hok : ∀ n ∈ t.flat,n.wf) (hf : faultL t.flat = 0) (hl : t.flat.length ≤ maxLen) (B : Nat) (a : Option Addr) (c : Nat) (w : World) (hN : NsOwn w B (.slice a t.flat.length c) t.flat) :
    Calls Tryz.prog 23 #[.agg #[.int .i64 (n : Int),.string s],.slice a t.flat.length c] w fun e w' => e = .returned (.tuple #[.agg #[.int .i64 (n : Int),.string s,.slice a t.flat.length c,.string ⟨t.ned.toArray⟩],.nilIface]) ∧ Below w.heap.size w w':=by
  have HC : Hid (∀ w',Below w.heap.size w w' → _):=fun w' hb => (litN (fun _ => True)).need t (.slice a t.flat.length c) w' trivial ht (NsOwn.isIn (show NsOwn w' B _ _ from owns_below hN hb) hl) hok hf
  clear hN hf hok ht
  have hb0 : Below w.heap.size w ((w.alloc (.cells #[.int .i64 (n : Int),.string s] 59)).alloc (.cells #[.int .i64 0,.string ⟨#[]⟩,.slice none 0 0,.string ⟨#[]⟩] 73)):=((Below.refl _ _).alloc (Nat.le_refl _) _).alloc (by simp) _
  have CC:=hid (HC.out _ hb0)
  have HB0:=hid hb0
  clear hb0 HC
  go_enter Tryz.func23,Tryz.ntmps23
  go_wp2_with fail
  refine Calls.mono CC.out ?_
  rintro e w1 ⟨rfl,hb⟩
  have h0 : ((w.alloc (.cells #[.int .i64 (n : Int),.string s] 59)).alloc (.cells #[.int .i64 0,.string ⟨#[]⟩,.slice none 0 0,.string ⟨#[]⟩] 73)).heap[w.heap.size]? = some (.cells #[.int .i64 (n : Int),.string s] 59 (0,0)):=(Below.heap_alloc _ _ _ (by simp)).trans (World.alloc_heap_new w _)
  have h1 : ((w.alloc (.cells #[.int .i64 (n : Int),.string s] 59)).alloc (.cells #[.int .i64 0,.string ⟨#[]⟩,.slice none 0 0,.string ⟨#[]⟩] 73)).heap[w.heap.size + 1]? = some (.cells #[.int .i64 0,.string ⟨#[]⟩,.slice none 0 0,.string ⟨#[]⟩] 73 (0,0)):=by
    have:=World.alloc_heap_new (w.alloc (.cells #[.int .i64 (n : Int),.string s] 59)) (.cells #[.int .i64 0,.string ⟨#[]⟩,.slice none 0 0,.string ⟨#[]⟩] 73)
    rwa [World.size_alloc] at this
  have k0:=(hb.block w.heap.size (by simp; omega)).trans h0
  have k1:=(hb.block (w.heap.size + 1) (by simp)).trans h1
  have c0:=Lib.cell_of_heap k0 0
  have c1:=Lib.cell_of_heap k0 1
  have d0:=Lib.cell_of_heap k1 0
  have d1:=Lib.cell_of_heap k1 1
  have d2:=Lib.cell_of_heap k1 2
  have d3:=Lib.cell_of_heap k1 3
  have f0:=Lib.frozen_of_heap k1 0
  have f1:=Lib.frozen_of_heap k1 1
  have f2:=Lib.frozen_of_heap k1 2
  have f3:=Lib.frozen_of_heap k1 3
  simp only [List.getElem?_toArray,List.getElem?_cons_zero,List.getElem?_cons_succ] at c0 c1 d0 d1 d2 d3
  have HB1:=hid (HB0.out.trans (hb.mono HB0.out.size))
  have H1 : Hid (w1.heap[w.heap.size + 1]? = _):=k1
  clear hb h0 h1 k0 k1 CC HB0
  go_wp2
  have k4 : ((((w1.setCell ⟨w.heap.size + 1,0,none⟩ (.int .i64 (n : Int))).setCell ⟨w.heap.size + 1,1,none⟩ (.string s)).setCell ⟨w.heap.size + 1,2,none⟩ (.slice a t.flat.length c)).setCell ⟨w.heap.size + 1,3,none⟩ (.string ⟨t.ned.toArray⟩)).heap[w.heap.size + 1]? = some (.cells #[.int .i64 (n : Int),.string s,.slice a t.flat.length c,.string ⟨t.ned.toArray⟩] 73 (0,0)):=by
    simp [World.setCell,Array.getElem?_modify,H1.out]
  have hg:=(((grown_cellR w1 ⟨w.heap.size + 1,0,none⟩ (.int .i64 (n : Int))).trans (grown_cellR _ ⟨w.heap.size + 1,1,none⟩ (.string s))).trans (grown_cellR _ ⟨w.heap.size + 1,2,none⟩ (.slice a t.flat.length c))).trans (grown_cellR _ ⟨w.heap.size + 1,3,none⟩ (.string ⟨t.ned.toArray⟩))
  generalize (((w1.setCell ⟨w.heap.size + 1,0,none⟩ (.int .i64 (n : Int))).setCell ⟨w.heap.size + 1,1,none⟩ (.string s)).setCell ⟨w.heap.size + 1,2,none⟩ (.slice a t.flat.length c)).setCell ⟨w.heap.size + 1,3,none⟩ (.string ⟨t.ned.toArray⟩) = w2 at k4 hg ⊢
  have r0:=Lib.cell_of_heap k4 0
  have r1:=Lib.cell_of_heap k4 1
  have r2:=Lib.cell_of_heap k4 2
  have r3:=Lib.cell_of_heap k4 3
  simp only [List.getElem?_toArray,List.getElem?_cons_zero,List.getElem?_cons_succ] at r0 r1 r2 r3
  have HX:=hid (HB1.out.trans (⟨hg.os,hg.tape,hg.output,hg.size,fun k hk => hg.block k (by have:=HB1.out.size; omega) (by intro e; injection e with e; simp only at e; omega)⟩ : Below w.heap.size w1 w2))
  clear k4 hg HB1 H1
  exact bodyPost_ret (v:=.tuple #[.agg #[.int .i64 (n : Int),.string s,.slice a t.flat.length c,.string ⟨t.ned.toArray⟩],.nilIface]) (by simp [results,Tryz.results23,go_sem, *]) rfl ⟨rfl,HX.out⟩
theorem int_wfA {z : Int} (h0 : -9223372036854775808 ≤ z) (h1 : z ≤ 9223372036854775807) : (Lit.int .i64 z).wf = true:=by
  have e1 : IntKind.i64.min = -9223372036854775808:=by decide
  have e2 : IntKind.i64.max = 9223372036854775807:=by decide
  simp only [Lit.wf,e1,e2,h0,h1,decide_true,Bool.and_self]
theorem wf_u64A {x : Int} (h : okW x) : (Lit.int .u64 x).wf = true:=WalkArith.wf_u64 (by unfold okW at h; omega)
theorem good_wf {n : Nd} (h : n.good) : n.wf:=⟨int_wfA (by have:=h.1; omega) (by have:=h.1; omega),wf_u64A h.2.2.1,wf_u64A h.2.2.2.1,wf_u64A h.2.2.2.2.1,wf_u64A h.2.2.2.2.2⟩
theorem ladd_bad (mb : Nat) (w : World) (s : ByteArray) (hs : s.size ≤ maxLen) (ms : List Nd) (k e : Int) (hp : PsR s ms k e) (he : ¬ e = 0) :
    Calls Tryz.prog 8 #[.pointer (some ⟨mb,0,none⟩),.string s] w fun x w' => x = .returned (.tuple #[.int .i64 0,.int .i64 k,errV e]) ∧ Below w.heap.size w w':=by
  have HP:=hid (synR.parse s w ms k e hs hp)
  rw [show errV e = .iface 32 (.int .i64 e) from if_neg he] at HP ⊢
  clear hp he
  go_enter Tryz.func8,Tryz.ntmps8
  go_wp2_with fail
  refine Calls.mono HP.out ?_
  rintro x w1 ⟨u,rfl,hb,hN⟩
  obtain ⟨a,cap,rfl,_⟩:=hN
  go_wp2
  go_ret3
  exact ⟨rfl,hb⟩
theorem ladd_full (mb : Nat) (v : Value) (ps : List (Mbr × Value)) (σ : SetS) (w : World) (h : MsI mb v ps σ w) (s : ByteArray) (t : Rx) (hl : s.size ≤ 200) (ht : Whole s.data.toList (.ok t)) (h60 : ¬ 60 < t.flat.length) (h12 : σ.ms.length = 12) :
    Calls Tryz.prog 8 #[.pointer (some ⟨mb,0,none⟩),.string s] w fun x w' => x = .returned (.tuple #[.int .i64 0,.int .i64 0,errV 3]) ∧ Below w.heap.size w w':=by
  have HP:=hid (parse_own s w hl t ht h60)
  have HB : Hid (∀ w',Below w.heap.size w w' → w'.cell? ⟨mb,0,none⟩ = some v):=fun w' hb => (h.below hb).cells.1
  obtain ⟨a,cap,rfl,-⟩:=MbOwn.at h.row
  have g1 : ((ps.length : Int) == 12) = true:=by rw [beq_iff_eq,h.len]; omega
  rw [show errV 3 = .iface 32 (.int .i64 3) from rfl]
  clear h ht h60
  go_enter Tryz.func8,Tryz.ntmps8
  go_wp2_with fail
  refine Calls.mono HP.out ?_
  rintro x w1 ⟨a,cap,rfl,hb,_⟩
  have c0:=HB.out w1 hb
  go_wp2
  go_ret3
  exact ⟨rfl,hb⟩
theorem ladd_ok (mb : Nat) (v : Value) (ps : List (Mbr × Value)) (σ : SetS) (w : World) (h : MsI mb v ps σ w) (hlast : σ.last ≤ 1000000) (s : ByteArray) (t : Rx) (hl : s.size ≤ 200) (ht : Whole s.data.toList (.ok t)) (h60 : ¬ 60 < t.flat.length) (h12 : σ.ms.length < 12) :
    Calls Tryz.prog 8 #[.pointer (some ⟨mb,0,none⟩),.string s] w fun x w' => x = .returned (.tuple #[.int .i64 ((σ.last + 1 : Nat) : Int),.int .i64 0,.nilIface]) ∧ ∃ v' ps',MsI mb v' ps' ⟨σ.ms ++ [⟨σ.last + 1,s,t⟩],σ.last + 1,σ.on,σ.tried⟩ w' ∧ But (FootL mb v ps) w w' ∧ Onto (FootL mb v ps) (FootL mb v' ps') w:=by
  have HP:=hid (parse_own s w hl t ht h60)
  have H:=hid h
  have hgd:=whole_good _ _ ht
  have hft:=good_fault _ hgd (by omega)
  have hok : ∀ n ∈ t.flat,n.wf:=fun n hn => good_wf (hgd.all n hn)
  have HM : Hid (∀ B a c w',NsOwn w' B (.slice a t.flat.length c) t.flat → _):=fun B a c w' hN => memberOf_any (σ.last + 1) s t hgd.isOk hok hft (by unfold maxLen; omega) B a c w' hN
  have g1 : ((ps.length : Int) == 12) = false:=by have:=h.len; rw [beq_eq_false_iff_ne]; omega
  have hpl : ps.length ≤ 12:=by have:=h.len; omega
  obtain ⟨a,cap,rfl,-⟩:=MbOwn.at h.row
  obtain ⟨L,hL⟩ : ∃ L,L = σ.last + 1:=⟨_,rfl⟩
  have hw1 : IntKind.i64.wrap ((σ.last : Int) + 1) = (L : Int):=by rw [IntKind.wrap_i64] <;> omega
  rw [← hL] at HM ⊢
  clear h ht hgd hft hok h12 hL
  go_enter Tryz.func8,Tryz.ntmps8
  go_wp2_with fail
  refine Calls.mono HP.out ?_
  rintro x w1 ⟨ua,uc,rfl,hb,hN⟩
  have H1:=hid (H.out.below hb)
  obtain ⟨c0,c1,-,-,-⟩:=H1.out.cells
  have HB:=hid hb
  have HN:=hid hN
  have CM:=hid (HM.out _ _ _ w1 hN)
  clear hb hN HP HM
  go_wp2_with fail
  refine Calls.mono CM.out ?_
  rintro x w2 ⟨rfl,hb⟩
  have H2:=hid (H1.out.below hb)
  have HN2 : Hid (NsOwn w2 w.heap.size (.slice ua t.flat.length uc) t.flat):=owns_below HN.out hb
  have HB2:=hid (HB.out.trans (hb.mono HB.out.size))
  clear hb H1 HN HB CM c0 c1
  have hmb:=hp_lt H2.out.box
  obtain ⟨Z,hZ⟩ : ∃ Z,Z = w2.alloc (.cells #[.int .i64 (L : Int),.string s,.slice ua t.flat.length uc,.string ⟨t.ned.toArray⟩] 73):=⟨_,rfl⟩
  have hZb : Below w2.heap.size w2 Z:=by rw [hZ]; exact (Below.refl _ _).alloc (Nat.le_refl _) _
  have hZm : Z.heap[w2.heap.size]? = some (.cells #[.int .i64 (L : Int),.string s,.slice ua t.flat.length uc,.string ⟨t.ned.toArray⟩] 73 (0,0)):=by rw [hZ]; exact World.alloc_heap_new w2 _
  have hZs : Z.heap.size = w2.heap.size + 1:=by rw [hZ]; exact World.size_alloc _ _
  have H3:=hid (H2.out.below hZb)
  obtain ⟨d0,-,-,-,d4⟩:=H3.out.cells
  have m0:=Lib.cell_of_heap hZm 0
  have m1:=Lib.cell_of_heap hZm 1
  have m2:=Lib.cell_of_heap hZm 2
  have m3:=Lib.cell_of_heap hZm 3
  simp only [List.getElem?_toArray,List.getElem?_cons_zero,List.getElem?_cons_succ] at m0 m1 m2 m3
  obtain ⟨M,hM⟩ : ∃ M,M = w2.heap.size:=⟨_,rfl⟩
  rw [← hM] at m0 m1 m2 m3 hZm
  have HZM:=hid hZm
  have HZS:=hid hZs
  have HZB:=hid hZb
  have hmbZ : mb < Z.heap.size:=by omega
  have k0 : ∀ o,(Z.alloc o).cell? ⟨mb,0,none⟩ = some (.slice a ps.length cap):=fun o => (World.cell?_of_block (Below.heap_alloc _ _ _ hmbZ)).trans d0
  have AO : Hid (∀ W : World,W = (Z.alloc (.cells #[.int .i64 (L : Int),.string s,.slice ua t.flat.length uc,.string ⟨t.ned.toArray⟩] 73)).drew → MbOwn W 0 (.slice a ps.length cap) ps ∧ W.cell? ⟨Z.heap.size,0,none⟩ = some (.int .i64 (L : Int)) ∧ W.cell? ⟨Z.heap.size,1,none⟩ = some (.string s) ∧ W.cell? ⟨Z.heap.size,2,none⟩ = some (.slice ua t.flat.length uc) ∧ W.cell? ⟨Z.heap.size,3,none⟩ = some (.string ⟨t.ned.toArray⟩) ∧ Below Z.heap.size Z W):=by
    rintro _ rfl
    have hb2 : Below Z.heap.size Z (Z.alloc (.cells #[.int .i64 (L : Int),.string s,.slice ua t.flat.length uc,.string ⟨t.ned.toArray⟩] 73)).drew:=((Below.refl _ _).alloc (Nat.le_refl _) _).drew
    refine ⟨owns_below H3.out.row hb2,?_,?_,?_,?_,hb2⟩
    · show (Z.alloc _).cell? _ = _
      rw [World.cell?_alloc_at (w:=Z) _ _ Z.heap.size 0 (by simp)]
      rfl
    · show (Z.alloc _).cell? _ = _
      rw [World.cell?_alloc_at (w:=Z) _ _ Z.heap.size 1 (by simp)]
      rfl
    · show (Z.alloc _).cell? _ = _
      rw [World.cell?_alloc_at (w:=Z) _ _ Z.heap.size 2 (by simp)]
      rfl
    · show (Z.alloc _).cell? _ = _
      rw [World.cell?_alloc_at (w:=Z) _ _ Z.heap.size 3 (by simp)]
      rfl
  clear hZb hZm hZs d4 hmb
  have HZ:=hid hZ
  have HM2:=hid hM
  go_wp2_with fail
  rw [← HM2.out,← HZ.out]
  clear hM hZ
  go_region_law (first | (refine step_append_mb (by rfl) _ _ (by rfl) 0 _ (by rfl) ps (AO.out _ rfl).1 Z.heap.size 1 (⟨L,s,t⟩,.slice ua t.flat.length uc) rfl (by rfl) (AO.out _ rfl).2.1 (AO.out _ rfl).2.2.1 (AO.out _ rfl).2.2.2.1 (AO.out _ rfl).2.2.2.2.1 (by omega) (by omega) ?_; intro g3 cap3 w3 ho3 hg3 hb3 hl3; have HO3:=hid ho3; have HZ3:=hid hb3; have HG3:=hid hg3; have hx3 : w3.heap[mb]? = _:=box_row (H3.out.below (AO.out _ rfl).2.2.2.2.2).box (AO.out _ rfl).1 (by decide) hg3; have HX3:=hid hx3; have hy3 : w3.heap[M]? = _:=(hg3.block M (by have:=(AO.out _ rfl).2.2.2.2.2.size; have:=HZS.out; have:=HM2.out; omega) (fun e => by have h7:=(owns_block H2.out.row e.symm).2.1; have:=HM2.out; omega)).trans (((AO.out _ rfl).2.2.2.2.2.block M (by have:=HZS.out; have:=HM2.out; omega)).trans HZM.out); have HY3:=hid hy3; have q0:=Lib.frozen_of_heap hx3 0; have p0:=Lib.cell_of_heap hx3 0; simp only [List.getElem?_toArray,List.getElem?_cons_zero,List.getElem?_cons_succ] at p0; clear ho3 hg3 hb3 hl3 hx3 hy3))
  all_goals
    obtain ⟨w4,hw4⟩ : ∃ w4,w3.setCell ⟨mb,0,none⟩ (.slice (some ⟨g3,0,none⟩) (ps.length + 1) cap3) = w4:=⟨_,rfl⟩
    rw [hw4]
    have hMmb : M ≠ mb:=by have:=hp_lt H2.out.box; have:=HM2.out; omega
    have hg4 : w3.grownBy w4 (some mb):=by rw [← hw4]; exact grown_cellR w3 ⟨mb,0,none⟩ _
    have hx4 : w4.heap[mb]? = some (.cells #[.slice (some ⟨g3,0,none⟩) (ps.length + 1) cap3,.int .i64 (σ.last : Int),.bool σ.on,.int .i64 (σ.tried : Int)] 69 (0,0)):=by
      rw [← hw4]
      simp [World.setCell,Array.getElem?_modify,HX3.out]
    have hy4:=(hg4.block M (hp_lt HY3.out) (by intro e; injection e with e; exact hMmb e)).trans HY3.out
    obtain ⟨w5,hw5⟩ : ∃ w5,w4.setCell ⟨mb,1,none⟩ (.int .i64 (L : Int)) = w5:=⟨_,rfl⟩
    have hg5 : w4.grownBy w5 (some mb):=by rw [← hw5]; exact grown_cellR w4 ⟨mb,1,none⟩ _
    have hx5 : w5.heap[mb]? = some (.cells #[.slice (some ⟨g3,0,none⟩) (ps.length + 1) cap3,.int .i64 (L : Int),.bool σ.on,.int .i64 (σ.tried : Int)] 69 (0,0)):=by
      rw [← hw5]
      simp [World.setCell,Array.getElem?_modify,hx4]
    have hy5:=(hg5.block M (hp_lt hy4) (by intro e; injection e with e; exact hMmb e)).trans hy4
    have r0:=Lib.cell_of_heap hy4 0
    have r1:=Lib.cell_of_heap hx4 1
    have s0:=Lib.cell_of_heap hy5 0
    have r2:=Lib.frozen_of_heap hx4 1
    simp only [List.getElem?_toArray,List.getElem?_cons_zero,List.getElem?_cons_succ] at r0 r1 s0
    have HG:=hid (hg4.trans hg5)
    have HX5:=hid hx5
    rw [← hw5] at s0
    have HW5:=hid hw5
    clear hg4 hx4 hy4 hg5 hx5 hy5 hw5 p0 q0 m0 m1 m2 m3 d0 k0
    go_wp2
    go_ret3
    rw [HW5.out]
    have hba:=(AO.out _ rfl).2.2.2.2.2
    have hns : ∀ B v ns,NsOwn w2 B v ns → NsOwn w5 B v ns:=fun B v ns h => owns_other (owns_row (owns_below (owns_below h HZB.out) hba) (AO.out _ rfl).1 (by decide) HG3.out) HX3.out (by decide) HG.out
    have s2:=HB2.out.size
    have sz:=HZS.out
    have sa:=hba.size
    refine ⟨rfl,.slice (some ⟨g3,0,none⟩) (ps.length + 1) cap3,ps ++ [(⟨L,s,t⟩,.slice ua t.flat.length uc)],⟨HX5.out,?_,?_,?_⟩,?_,?_⟩
    · have:=owns_other HO3.out HX3.out (by decide) HG.out
      unfold MbOwn
      rw [List.length_append]
      rw [List.length_append] at this
      exact this
    · intro x hx
      rcases List.mem_append.1 hx with hx | hx
      · exact hns _ _ _ (H2.out.pats x hx)
      · rw [List.mem_singleton.1 hx]
        exact hns _ _ _ (World.ownsRow.mono HN2.out (Nat.zero_le _))
    · simp only [List.map_append,List.map_cons,List.map_nil]
      rw [← H.out.ms]
    · exact ((((But.below HB2.out).trans (But.below (F:=fun _ => False) HZB.out) (fun k h => h.elim)).trans (But.below (F:=fun _ => False) hba) (fun k h => h.elim)).trans (But.grown (F:=FootL mb (.slice a ps.length cap) ps) HG3.out (fun k e => Or.inr (Or.inl e))) (fun k h => Or.inl h)).trans (But.grown HG.out (fun k e => by injection e with e; exact Or.inl e.symm)) (fun k hk => Or.inl hk)
    · rintro k (rfl | hk | ⟨x,hx,hk⟩)
      · exact Or.inl (Or.inl rfl)
      · injection hk with hk
        simp only at hk
        subst hk
        rcases HZ3.out with h3 | h3
        · exact Or.inl (Or.inr (Or.inl h3))
        · right
          omega
      · rcases List.mem_append.1 hx with hx | hx
        · exact Or.inl (Or.inr (Or.inr ⟨x,hx,hk⟩))
        · rw [List.mem_singleton.1 hx] at hk
          exact Or.inr (owns_block HN2.out hk).1
theorem ladd_any (mb : Nat) (v : Value) (ps : List (Mbr × Value)) (σ σ' : SetS) (w : World) (h : MsI mb v ps σ w) (hσ : σ.Ok) (hlast : σ.last ≤ 1000000) (s : ByteArray) (hs : s.size ≤ maxLen) (n : Nat) (k e : Int) (ha : AddR σ s n k e σ') :
    Calls Tryz.prog 8 #[.pointer (some ⟨mb,0,none⟩),.string s] w fun x w' => x = .returned (.tuple #[.int .i64 (n : Int),.int .i64 k,errV e]) ∧ ∃ v' ps',MsI mb v' ps' σ' w' ∧ But (FootL mb v ps) w w' ∧ Onto (FootL mb v ps) (FootL mb v' ps') w:=by
  cases ha with
  | bad ms k e hp he =>
    refine (ladd_bad mb w s hs ms k e hp he).mono ?_
    rintro x w' ⟨rfl,hb⟩
    exact ⟨rfl,v,ps,h.below hb,But.below hb,fun k hk => Or.inl hk⟩
  | full t h1 h2 h3 h4 =>
    refine (ladd_full mb v ps σ w h s t h1 h2 h3 (by have:=hσ.len; omega)).mono ?_
    rintro x w' ⟨rfl,hb⟩
    exact ⟨rfl,v,ps,h.below hb,But.below hb,fun k hk => Or.inl hk⟩
  | ok t h1 h2 h3 h4 => exact ladd_ok mb v ps σ w h hlast s t h1 h2 h3 h4
theorem mb_zero (w : World) : (zeroValue 73).run Tryz.prog w = .ok (.agg #[.int .i64 0,.string ByteArray.empty,.slice none 0 0,.string ByteArray.empty]) w:=by kernel_rfl
def mbZ : Array Value:=#[.int .i64 0,.string ByteArray.empty,.slice none 0 0,.string ByteArray.empty]
theorem mbZ_one (n : Nat) : ∀ v ∈ (Builtin.zeroCells mbZ n).toList,v.oneCell' = true:=by
  intro v hv
  simp [Builtin.zeroCells] at hv
  obtain ⟨i,_,rfl⟩:=hv
  have h4 : mbZ.size = 4:=rfl
  rw [h4]
  have h : i % 4 = 0 ∨ i % 4 = 1 ∨ i % 4 = 2 ∨ i % 4 = 3:=by omega
  rcases h with h | h | h | h <;> rw [h] <;> rfl
theorem mbZ_len (n : Nat) : (Builtin.zeroCells mbZ n).toList.length = n * 4:=by simp [Builtin.zeroCells,mbZ]
theorem mb_clear (W : World) (b o n c : Nat) (ty : TypeId) (hn : 0 < n) (hc : ∀ j,j < n * 4 → (W.cell? ⟨b,o + j,none⟩).isSome = true) (hf : ∀ j,j < n * 4 → W.frozen? ⟨b,o + j,none⟩ = false) :
    (Builtin.clear_ #[67] ty #[.slice (some ⟨b,o,none⟩) n c]).run Tryz.prog W = .ok (.tuple #[]) (W.setCells b o (Builtin.zeroCells mbZ n).toList):=by
  have hst:=run_storeCells_cells (P:=Tryz.prog) b o (Builtin.zeroCells mbZ n).toList 0 W (by rw [mbZ_len]; simpa using hc) (by rw [mbZ_len]; simpa using hf) (mbZ_one n)
  simp only [Nat.add_zero] at hst
  obtain ⟨m,rfl⟩ : ∃ m,n = m + 1:=⟨n - 1,by omega⟩
  simp [Builtin.clear_,run_underlying Tryz.underlying67,mb_zero]
  rw [show (Value.agg #[.int .i64 0,.string ⟨#[]⟩,.slice none 0 0,.string ⟨#[]⟩]).cells = mbZ from rfl,hst]
  rfl
theorem mbCells_ones : ∀ (l : List (Mbr × Value)),(∀ x ∈ l,x.2.oneCell' = true) → ∀ u ∈ mbCells l,u.oneCell' = true
  | [],_,u,h => by simp [mbCells] at h
  | n :: r,ho,u,h => by
    simp only [mbCells,List.mem_cons] at h
    rcases h with rfl | rfl | rfl | rfl | h
    · rfl
    · rfl
    · exact ho n (by simp)
    · rfl
    · exact mbCells_ones r (fun x hx => ho x (by simp [hx])) u h
theorem erase_split {α : Type} (l : List α) (i : Nat) : l.eraseIdx i = l.take i ++ l.drop (i + 1):=by rw [List.eraseIdx_eq_take_drop_succ]
theorem ldel_any (B g cap N : Nat) (ps : List (Mbr × Value)) (w : World) (hown : MbOwn w B (.slice (some ⟨g,0,none⟩) N cap) ps) (hone : ∀ x ∈ ps,x.2.oneCell' = true) (i j : Nat) (hij : j = i + 1) (hj : j ≤ N) :
    Calls Tryz.prog 28 #[.slice (some ⟨g,0,none⟩) N cap,.int .i64 (i : Int),.int .i64 (j : Int)] w fun e w' => e = .returned (.slice (some ⟨g,0,none⟩) (i + (N - j)) cap) ∧ MbOwn w' B (.slice (some ⟨g,0,none⟩) (i + (N - j)) cap) (ps.eraseIdx i) ∧ w.grownBy w' (some g):=by
  obtain ⟨g',cap',cur,hv,hB,hg,hnc,hcm,hsz,htk⟩ : ∃ g' cap' cur,Value.slice (some ⟨g,0,none⟩) N cap = .slice (some ⟨g',0,none⟩) ps.length cap' ∧ B ≤ g' ∧ w.heap[g']? = some (.cells cur 73 (0,0)) ∧ ps.length ≤ cap' ∧ cap' ≤ maxLen ∧ cur.size = cap' * 4 ∧ cur.toList.take (ps.length * 4) = mbCells ps:=by
    rcases hown.2 with ⟨hv,_⟩ | h
    · cases hv
    · exact h
  injection hv with q1 q2 q3
  injection q1 with q1
  injection q1 with q1 _ _
  subst q1 q3
  have hN : ps.length = N:=q2.symm
  obtain ⟨i0,hi0,hz0,hz1,hz2⟩:=info_parts mb_info
  obtain ⟨news,hnews⟩ : ∃ news,news = mbCells (ps.drop j):=⟨_,rfl⟩
  have hnl : news.length = (N - j) * 4:=by rw [hnews,mbCells_len,List.length_drop,hN]
  have hcell : ∀ k,k < cap * 4 → ∀ W : World,W.heap[g]? = w.heap[g]? → W.cell? ⟨g,k,none⟩ = cur[k]? ∧ W.frozen? ⟨g,k,none⟩ = false:=fun k hk W hW => by
    have h1:=Lib.cell_of_heap (hW.trans hg) k
    exact ⟨h1,Lib.frozen_of_heap (hW.trans hg) k⟩
  have hnc4 : ∀ t u,news[t]? = some u → cur[j * 4 + t]? = some u:=by
    intro t u hu
    rw [hnews,mbCells_drop,← htk,List.getElem?_drop,List.getElem?_take] at hu
    split at hu
    · simpa using hu
    · cases hu
  obtain ⟨A,hA,hsrc⟩ : ∃ A : Addr,(if cap = j then some (⟨g,0,none⟩ : Addr) else some ⟨g,j * 4,none⟩) = some A ∧ Hid (∀ t u,news[t]? = some u → w.drew.cell? (A.add t) = some u):=by
    by_cases h : cap = j
    · refine ⟨⟨g,0,none⟩,by simp [h],fun t u hu => ?_⟩
      have h0 : news.length = 0:=by rw [hnl]; omega
      rw [List.length_eq_zero_iff.1 h0] at hu
      simp at hu
    · refine ⟨⟨g,j * 4,none⟩,by simp [h],fun t u hu => ?_⟩
      have ht : t < news.length:=(List.getElem?_eq_some_iff.1 hu).1
      rw [Addr.add_lit,(hcell (j * 4 + t) (by omega) w.drew rfl).1]
      exact hnc4 t u hu
  have s1 : Hid (news.length = (N - j) * 4):=hnl
  have s2 : Hid (∀ u ∈ news,u.oneCell' = true):=by
    rw [hnews]
    exact mbCells_ones _ (fun x hx => hone x (List.mem_of_mem_drop hx))
  have s3 : Hid (∀ t,t < news.length → (w.drew.cell? ⟨g,0 + i * 4 + t,none⟩).isSome = true ∧ w.drew.frozen? ⟨g,0 + i * 4 + t,none⟩ = false):=by
    intro t ht
    obtain ⟨h1,h2⟩:=hcell (0 + i * 4 + t) (by omega) w.drew rfl
    exact ⟨by rw [h1,Array.getElem?_eq_getElem (by omega)]; rfl,h2⟩
  obtain ⟨W1,hW1⟩ : ∃ W1,W1 = w.drew.setCells g (0 + i * 4) news:=⟨_,rfl⟩
  have hb1 : W1.heap[g]? = some (.cells (over cur (0 + i * 4) news) 73 (0,0)):=by rw [hW1]; exact heap_over g _ _ news _ cur w.drew hg
  have hs1 : (over cur (0 + i * 4) news).size = cap * 4:=by rw [over_size]; exact hsz
  have hcl : ∀ ty,(Builtin.clear_ #[67] ty #[.slice (some ⟨g,(i + (N - j)) * 4,none⟩) (N - (i + (N - j))) (cap - (i + (N - j)))]).run Tryz.prog W1 = .ok (.tuple #[]) (W1.setCells g ((i + (N - j)) * 4) (Builtin.zeroCells mbZ (N - (i + (N - j)))).toList) :=
    fun ty => mb_clear W1 g ((i + (N - j)) * 4) _ _ ty (by omega) (fun t ht => by
      rw [Lib.cell_of_heap hb1 _]
      rw [Array.getElem?_eq_getElem (by rw [hs1]; omega)]
      rfl) (fun t ht => Lib.frozen_of_heap hb1 _)
  have hW : Hid (W1 = w.drew.setCells g (0 + i * 4) news):=hW1
  have HB1:=hid hb1
  have hic : i ≤ cap:=by omega
  have hjc : j ≤ cap:=by omega
  have hcm' : cap ≤ 9223372036854775807:=by unfold maxLen at hcm; omega
  have HT:=hid htk
  have HS:=hid hsz
  have HNW:=hid hnews
  have HNL:=hid hN
  have hNcap : N ≤ cap:=by omega
  have hlt : i < j:=by omega
  have hqq : ¬ ((i : Int) = (j : Int)):=by omega
  have HIJ:=hid hij
  clear q2 hij hW1 hb1 hcell hnc4 hg htk hsz hnews hnl hown hone hs1 hN hnc
  go_enter Tryz.func28,Tryz.ntmps28
  go_wp2_with fail
  go_region_law (refine step_append_room rfl (.tmp 22) (.tmp 25) 67 rfl 73 i0 4 Tryz.underlying67 hi0 hz1 g 0 i cap (by simp [Act.eval,Act.put]) A (N - j) (cap - j) news (by simp [Act.eval,Act.put,hA]) s1.out hsrc.out s2.out (by omega) s3.out ?_; rw [← hW.out])
  all_goals
    go_wp2
    go_ret
    obtain rfl:=HNL.out
    have hij:=HIJ.out
    have el : (ps.eraseIdx i).length = i + (ps.length - j):=by rw [List.length_eraseIdx_of_lt (by omega)]; omega
    have hnl : news.length = (ps.length - j) * 4:=s1.out
    have htk:=HT.out
    have hsz:=HS.out
    have e1:=over_list news (0 + i * 4) cur (by omega)
    have z1 : (over cur (0 + i * 4) news).size = cap * 4:=by rw [over_size]; exact hsz
    have e2:=over_list (Builtin.zeroCells mbZ (ps.length - (i + (ps.length - j)))).toList ((i + (ps.length - j)) * 4) (over cur (0 + i * 4) news) (by rw [mbZ_len,z1]; omega)
    have ecur : cur.toList.take (i * 4) = mbCells (ps.take i):=by
      rw [mbCells_take,← htk,List.take_take,Nat.min_eq_left (by omega)]
    have hcl : (mbCells (ps.take i)).length = i * 4:=by rw [mbCells_len,List.length_take,Nat.min_eq_left (by omega)]
    refine ⟨rfl,⟨mbCells_len _,Or.inr ⟨g,cap,over (over cur (0 + i * 4) news) ((i + (ps.length - j)) * 4) (Builtin.zeroCells mbZ (ps.length - (i + (ps.length - j)))).toList,by rw [el],hB,heap_over g _ _ _ _ _ W1 HB1.out,by rw [el]; omega,hcm,by rw [over_size]; exact z1,?_⟩⟩,?_⟩
    · rw [el,e2,e1,Nat.zero_add,ecur,HNW.out,erase_split,mbCells_append,← hij]
      have hA1 : (mbCells (ps.take i) ++ mbCells (ps.drop j)).length = (i + (ps.length - j)) * 4:=by
        rw [List.length_append,hcl,← HNW.out,hnl]; omega
      have h2 : (mbCells (ps.take i) ++ mbCells (ps.drop j) ++ cur.toList.drop (i * 4 + (mbCells (ps.drop j)).length)).take ((i + (ps.length - j)) * 4) = mbCells (ps.take i) ++ mbCells (ps.drop j):=by
        rw [List.take_append_of_le_length (by omega),List.take_of_length_le (by omega)]
      rw [h2,List.append_assoc,List.take_append_of_le_length (by omega),List.take_of_length_le (by omega)]
    · have m1:=meta_over g news (0 + i * 4) w.drew
      have m2:=meta_over g (Builtin.zeroCells mbZ (ps.length - (i + (ps.length - j)))).toList ((i + (ps.length - j)) * 4) W1
      have hw:=hW.out
      refine ⟨?_,?_,?_,?_,fun k hk hne => ?_⟩
      · rw [m2.1,hw,m1.1]; rfl
      · rw [m2.2.1,hw,m1.2.1]; rfl
      · rw [m2.2.2,hw,m1.2.2]; rfl
      · rw [size_over,hw,size_over]; exact Nat.le_refl _
      · have hk' : k ≠ g:=fun e => hne (by rw [e])
        rw [other_over g _ _ _ k hk',hw,other_over g _ _ _ k hk']
        rfl
theorem del_erase : ∀ (ms : List Mbr) (n : Int) (k : Nat) (m : Mbr),ms.Pairwise (fun a b => a.id < b.id) → ms[k]? = some m → (m.id : Int) = n → ms.filter (fun m => !((m.id : Int) == n)) = ms.eraseIdx k
  | [],n,k,m,_,h,_ => by simp at h
  | a :: r,n,0,m,hp,h,hn => by
    simp at h
    subst h
    rw [List.pairwise_cons] at hp
    have e1 : (!((a.id : Int) == n)) = false:=by simp [hn]
    have e2 : r.filter (fun m => !((m.id : Int) == n)) = r:=by
      rw [List.filter_eq_self]
      intro b hb
      have:=hp.1 b hb
      have h3 : ¬ (b.id : Int) = n:=by omega
      simp [h3]
    rw [List.filter_cons,e1]
    simp [e2]
  | a :: r,n,k + 1,m,hp,h,hn => by
    rw [List.pairwise_cons] at hp
    have hm : m ∈ r:=List.mem_of_getElem? (by simpa using h)
    have:=hp.1 m hm
    have h3 : ¬ (a.id : Int) = n:=by omega
    have e1 : (!((a.id : Int) == n)) = true:=by simp [h3]
    rw [List.filter_cons,e1]
    simp only [if_true,List.eraseIdx_cons_succ]
    rw [del_erase r n k m hp.2 (by simpa using h) hn]
theorem map_erase {α β : Type} (f : α → β) : ∀ (l : List α) (k : Nat),(l.eraseIdx k).map f = (l.map f).eraseIdx k
  | [],k => by simp
  | a :: r,0 => rfl
  | a :: r,k + 1 => by simp [map_erase f r k]
end Go.Proofs.YtcjghhedphmhkaaGreatDoor

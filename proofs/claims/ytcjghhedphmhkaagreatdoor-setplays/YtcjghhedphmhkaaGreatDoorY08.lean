/- Own texts. -/
import Derived.Test.YtcjghhedphmhkaaGreatDoorY07
import Derived.Maps.OwnSet
import Derived.StringKeys
import Derived.Shelf.Strings.Search3
import Derived.Laws.EntriesVeiled
import Derived.Deep.CutRange
set_option linter.unusedSimpArgs false
set_option linter.unusedVariables false
set_option maxRecDepth 100000
set_option maxHeartbeats 8000000
namespace Go.Proofs.YtcjghhedphmhkaaGreatDoor
open Go.RowKit
theorem lpred_any (m k : Int) (s : ByteArray) (a : Option Addr) (n c : Nat) (d : ByteArray) (nb : Nat) (w : World) (hn : w.cell? ⟨nb,0,none⟩ = some (.int .i64 k)) (hb : nb < w.heap.size) :
    Calls Tryz.prog 27 #[.agg #[.int .i64 m,.string s,.slice a n c,.string d],.pointer (some ⟨nb,0,none⟩)] w fun e w' => e = .returned (.bool (m == k)) ∧ Below w.heap.size w w':=by
  have k0 : ∀ o,(w.alloc o).cell? ⟨nb,0,none⟩ = some (.int .i64 k):=fun o => (World.cell?_of_block (Below.heap_alloc _ _ _ hb)).trans hn
  go_enter Tryz.func27,Tryz.ntmps27
  go_wp2
  go_ret
  exact ⟨rfl,(Below.refl _ _).alloc (Nat.le_refl _) _⟩
def PlcL (ms : List Mbr) (n : Int) : Option Nat → Prop
  | none => ∀ (j : Nat) m,ms[j]? = some m → ¬ (m.id : Int) = n
  | some i => ∃ m,ms[i]? = some m ∧ (m.id : Int) = n
def plcL : Option Nat → Int
  | none => -1
  | some i => (i : Int)
theorem lidx_any (ps : List (Mbr × Value)) (v : Value) (B : Nat) (w : World) (hown : MbOwn w B v ps) (hpv : ∀ x ∈ ps,∃ a n c,x.2 = .slice a n c) (hl : ps.length ≤ 12) (k : Int) (nb : Nat) (hn : w.cell? ⟨nb,0,none⟩ = some (.int .i64 k)) (hb : nb < w.heap.size) :
    Calls Tryz.prog 26 #[v,.func (.func 27) #[] #[.pointer (some ⟨nb,0,none⟩)]] w fun e w' => ∃ r,e = .returned (.int .i64 (plcL r)) ∧ PlcL (ps.map (·.1)) k r ∧ Below w.heap.size w w':=by
  obtain ⟨a,cap,rfl,hat⟩:=MbOwn.at hown
  have HAT:=hid hat
  have HO:=hid hown
  have HPV:=hid hpv
  have HP : Hid (∀ (m : Int) s a n c d w',Below w.heap.size w w' → _):=fun m s a n c d w' hb' => lpred_any m k s a n c d nb w' ((hb'.cell (p:=⟨nb,0,none⟩) hb).trans hn) (Nat.lt_of_lt_of_le hb hb'.size)
  have HI0 : Hid (Below w.heap.size w w):=Below.refl _ _
  clear hat hown hpv hn
  go_enter Tryz.func26,Tryz.ntmps26
  go_wp2_with fail
  go_loopw [5,8] (fun _ v wr => ∃ i : Nat,i ≤ ps.length ∧ v = .int .i64 (i : Int) ∧ Hid (Below w.heap.size w wr) ∧ Hid (∀ (j : Nat) x,j < i → ps[j]? = some x → ¬ (x.1.id : Int) = k)) (fun _ v _ => ps.length - (intOf v).toNat)
  case atStart => exact ⟨0,by omega,rfl,HI0,fun j x hj => by omega⟩
  case round =>
    clear HI0
    obtain ⟨i,hi,rfl,HA,HN⟩:=hrel
    by_cases hil : i < ps.length
    · obtain ⟨x,hx⟩ : ∃ x,ps[i]? = some x:=⟨ps[i],List.getElem?_eq_getElem hil⟩
      have i0 : (0 : Int) ≤ (i : Int):=by omega
      have i1 : (i : Int) < (ps.length : Int):=by omega
      obtain ⟨b,hbb⟩ : ∃ b,a = some ⟨b,0,none⟩:=by
        rcases HAT.out with h | ⟨b,h,_⟩
        · rw [h] at hil; simp at hil
        · exact ⟨b,h⟩
      subst hbb
      have hbw : b < w.heap.size:=(owns_block HO.out (g:=b) rfl).2.1
      have hmat : MbAt w b ps:=by
        rcases HAT.out with h | ⟨b',h1,h2⟩
        · rw [h] at hil; simp at hil
        · injection h1 with h1
          injection h1 with h1 _ _
          rw [h1]
          exact h2
      obtain ⟨za,zn,zc,hz⟩:=HPV.out x (List.mem_of_getElem? hx)
      have HX:=hid hx
      obtain ⟨y0,y1,y2,y3⟩:=hmat i x hx
      have x0:=(HA.out.cell (p:=⟨b,i * 4,none⟩) hbw).trans y0
      have x1:=(HA.out.cell (p:=⟨b,i * 4 + 1,none⟩) hbw).trans y1
      have x2:=(HA.out.cell (p:=⟨b,i * 4 + 2,none⟩) hbw).trans y2
      have x3:=(HA.out.cell (p:=⟨b,i * 4 + 3,none⟩) hbw).trans y3
      rw [hz] at x2
      have CP:=hid (HP.out x.1.id x.1.text za zn zc x.1.need wr HA.out)
      clear hx hz hmat y0 y1 y2 y3
      by_cases he : (x.1.id : Int) = k
      · have hq : ((x.1.id : Int) == k) = true:=by rw [beq_iff_eq]; exact he
        rw [hq] at CP
        have HZ : Hid (PlcL (ps.map (·.1)) k (some i)):=⟨x.1,by rw [List.getElem?_map,HX.out]; rfl,he⟩
        clear he hq
        go_wp2_with fail
        refine Calls.mono CP.out ?_
        rintro e w2 ⟨rfl,hb2⟩
        have HB2:=hid (HA.out.trans (hb2.mono HA.out.size))
        clear hb2
        go_wp2
        go_ret
        exact ⟨some i,rfl,HZ.out,HB2.out⟩
      · have hq : ((x.1.id : Int) == k) = false:=by rw [beq_eq_false_iff_ne]; exact he
        rw [hq] at CP
        have HN2 : Hid (∀ (j : Nat) x,j < i + 1 → ps[j]? = some x → ¬ (x.1.id : Int) = k):=fun j x' hj hx' => by
          rcases Nat.lt_or_ge j i with h1 | h1
          · exact HN.out j x' h1 hx'
          · obtain rfl : j = i:=by omega
            rw [HX.out] at hx'
            obtain rfl:=Option.some.inj hx'
            exact he
        clear he hq HN
        go_wp2_with fail
        refine Calls.mono CP.out ?_
        rintro e w2 ⟨rfl,hb2⟩
        have HB2:=hid (HA.out.trans (hb2.mono HA.out.size))
        clear hb2 HA
        go_wp2
        exact ⟨⟨i + 1,by omega,by go_num,HB2,HN2⟩,by simp [intOf]; omega⟩
    · have g1 : ¬ (i : Int) < (ps.length : Int):=by omega
      have HZ : Hid (PlcL (ps.map (·.1)) k none):=fun j m hm => by
        rw [List.getElem?_map] at hm
        cases hx : ps[j]? with
        | none => rw [hx] at hm; cases hm
        | some x =>
          rw [hx] at hm
          obtain rfl:=Option.some.inj hm
          exact HN.out j x (by have:=(List.getElem?_eq_some_iff.1 hx).1; omega) hx
      clear HN
      go_wp2
      go_ret
      exact ⟨none,rfl,HZ.out,HA.out⟩
theorem lremove_no (mb : Nat) (v : Value) (ps : List (Mbr × Value)) (σ : SetS) (w : World) (h : MsI mb v ps σ w) (hσ : σ.Ok) (n : Int) (hno : ∀ (j : Nat) m,σ.ms[j]? = some m → ¬ (m.id : Int) = n) :
    Calls Tryz.prog 11 #[.pointer (some ⟨mb,0,none⟩),.int .i64 n] w fun x w' => x = .returned (.iface 32 (.int .i64 4)) ∧ Below w.heap.size w w':=by
  obtain ⟨c0,-⟩:=h.cells
  have hmb:=hp_lt h.box
  have k0 : ∀ o,(w.alloc o).cell? ⟨mb,0,none⟩ = some v:=fun o => (World.cell?_of_block (Below.heap_alloc _ _ _ hmb)).trans c0
  have HIX : Hid (∀ nb w',Below w.heap.size w w' → w'.cell? ⟨nb,0,none⟩ = some (.int .i64 n) → nb < w'.heap.size → _):=fun nb w' hb hc hlt => lidx_any ps v 0 w' (h.below hb).row (fun x hx => by obtain ⟨a,c,e⟩:=owns_form (h.pats x hx); exact ⟨a,_,c,e⟩) (by rw [h.len]; exact hσ.len) n nb hc hlt
  have CX:=hid (HIX.out w.heap.size (w.alloc (.cells #[.int .i64 n] 3)) ((Below.refl _ _).alloc (Nat.le_refl _) _) (by rw [World.cell?_alloc_at (w:=w) _ _ w.heap.size 0 (by simp)]; rfl) (by simp))
  have HM:=hid h.ms
  have HN:=hid hno
  have hmf : ∀ (fn : Fn) (first cap : Array Value) (w : World),(Instr.makeFunc fn first cap).run Tryz.prog w = .ok (.func fn first cap) w:=fun _ _ _ _ => rfl
  obtain ⟨a,cap,rfl,-⟩:=MbOwn.at h.row
  clear h hno HIX hσ
  go_enter Tryz.func11,Tryz.ntmps11
  go_wp2_with fail
  refine Calls.mono CX.out ?_
  rintro e w1 ⟨r,rfl,hr,hb⟩
  have hb':=hid (((Below.refl w.heap.size w).alloc (Nat.le_refl _) (.cells #[.int .i64 n] 3)).trans (hb.mono (by simp)))
  cases r with
  | some k =>
    exfalso
    obtain ⟨m,h1,h2⟩:=hr
    rw [← HM.out] at h1
    exact HN.out k m h1 h2
  | none =>
    rw [show plcL none = -1 from rfl]
    clear hr hb CX
    go_wp2
    go_ret
    exact ⟨rfl,hb'.out⟩
theorem lremove_yes (mb : Nat) (v : Value) (ps : List (Mbr × Value)) (σ : SetS) (w : World) (h : MsI mb v ps σ w) (hσ : σ.Ok) (n : Int) (i0 : Nat) (m0 : Mbr) (hm0 : σ.ms[i0]? = some m0) (hn : (m0.id : Int) = n) :
    Calls Tryz.prog 11 #[.pointer (some ⟨mb,0,none⟩),.int .i64 n] w fun x w' => x = .returned .nilIface ∧ ∃ v' ps',MsI mb v' ps' (σ.del n) w' ∧ But (FootL mb v ps) w w' ∧ Onto (FootL mb v ps) (FootL mb v' ps') w:=by
  obtain ⟨c0,-⟩:=h.cells
  have hmb:=hp_lt h.box
  have k0 : ∀ o,(w.alloc o).cell? ⟨mb,0,none⟩ = some v:=fun o => (World.cell?_of_block (Below.heap_alloc _ _ _ hmb)).trans c0
  have HIX : Hid (∀ nb w',Below w.heap.size w w' → w'.cell? ⟨nb,0,none⟩ = some (.int .i64 n) → nb < w'.heap.size → _):=fun nb w' hb hc hlt => lidx_any ps v 0 w' (h.below hb).row (fun x hx => by obtain ⟨a,c,e⟩:=owns_form (h.pats x hx); exact ⟨a,_,c,e⟩) (by rw [h.len]; exact hσ.len) n nb hc hlt
  have CX:=hid (HIX.out w.heap.size (w.alloc (.cells #[.int .i64 n] 3)) ((Below.refl _ _).alloc (Nat.le_refl _) _) (by rw [World.cell?_alloc_at (w:=w) _ _ w.heap.size 0 (by simp)]; rfl) (by simp))
  have HM:=hid h.ms
  have H:=hid h
  have Hσ:=hid hσ
  have HM0:=hid hm0
  have HN:=hid hn
  have h12 : ps.length ≤ 12:=by rw [h.len]; exact hσ.len
  have hmf : ∀ (fn : Fn) (first cap : Array Value) (w : World),(Instr.makeFunc fn first cap).run Tryz.prog w = .ok (.func fn first cap) w:=fun _ _ _ _ => rfl
  obtain ⟨a,cap,rfl,-⟩:=MbOwn.at h.row
  clear h hm0 hn HIX hσ
  go_enter Tryz.func11,Tryz.ntmps11
  go_wp2_with fail
  refine Calls.mono CX.out ?_
  rintro e w1 ⟨r,rfl,hr,hb⟩
  have hb1:=((Below.refl w.heap.size w).alloc (Nat.le_refl _) (.cells #[.int .i64 n] 3)).trans (hb.mono (by simp))
  have HB1:=hid hb1
  have H1:=hid (H.out.below hb1)
  cases r with
  | none =>
    exfalso
    rw [← HM.out] at hr
    exact hr i0 m0 HM0.out HN.out
  | some i =>
    rw [show plcL (some i) = (i : Int) from rfl]
    have HR:=hid hr
    obtain ⟨m,hm1,hm2⟩:=hr
    have hil : i < ps.length:=by
      rw [List.getElem?_map] at hm1
      cases hx : ps[i]? with
      | none => rw [hx] at hm1; cases hm1
      | some x => exact (List.getElem?_eq_some_iff.1 hx).1
    obtain ⟨b,hbb⟩ : ∃ b,a = some ⟨b,0,none⟩:=by
      obtain ⟨a',cap',e,hcase⟩:=MbOwn.at H1.out.row
      injection e with e1 _ _
      rcases hcase with h | ⟨b,h,_⟩
      · rw [h] at hil; simp at hil
      · exact ⟨b,by rw [e1]; exact h⟩
    subst hbb
    obtain ⟨d0,-,-,-,d4⟩:=H1.out.cells
    have f0:=d4 0
    have CD:=hid (ldel_any 0 b cap ps.length ps w1 H1.out.row (fun x hx => by obtain ⟨a,c,e⟩:=owns_form (H1.out.pats x hx); rw [e]; rfl) i (i + 1) rfl (by omega))
    have hge : ¬ (i : Int) < 0:=by omega
    have HIL:=hid hil
    obtain ⟨j,hj⟩ : ∃ j,j = i + 1:=⟨_,rfl⟩
    rw [← hj] at CD
    have hwj : IntKind.i64.wrap ((i : Int) + 1) = (j : Int):=by rw [IntKind.wrap_i64] <;> omega
    obtain ⟨L,hL⟩ : ∃ L,L = i + (ps.length - j):=⟨_,rfl⟩
    rw [← hL] at CD
    have HL:=hid hL
    have HJ:=hid hj
    clear hm1 hm2 hb hb1 CX k0 c0 d4 hL hj hil
    go_wp2_with fail
    refine Calls.mono CD.out ?_
    rintro e w2 ⟨rfl,hO,hg⟩
    have hx2:=box_row H1.out.box H1.out.row (by decide) hg
    have p0:=Lib.cell_of_heap hx2 0
    have q0:=Lib.frozen_of_heap hx2 0
    simp only [List.getElem?_toArray,List.getElem?_cons_zero,List.getElem?_cons_succ] at p0
    have HX2:=hid hx2
    have HO:=hid hO
    have HG:=hid hg
    clear hO hg hx2 CD d0 f0
    go_wp2
    have hg3:=grown_cellR w2 ⟨mb,0,none⟩ (.slice (some ⟨b,0,none⟩) L cap)
    have hel : (ps.eraseIdx i).length = L:=by rw [List.length_eraseIdx_of_lt HIL.out,HL.out]; have:=HIL.out; have:=HJ.out; omega
    have hdel : (σ.del n).ms = (ps.eraseIdx i).map (·.1):=by
      obtain ⟨m,h1,h2⟩:=HR.out
      rw [← HM.out] at h1
      rw [map_erase,← HM.out]
      exact del_erase σ.ms n i m Hσ.out.rise h1 h2
    go_ret
    refine ⟨rfl,.slice (some ⟨b,0,none⟩) L cap,ps.eraseIdx i,⟨?_,owns_other HO.out HX2.out (by decide) hg3,fun x hx => ?_,hdel⟩,?_,?_⟩
    · simp [World.setCell,Array.getElem?_modify,HX2.out,SetS.del]
    · exact owns_other (owns_row (H1.out.pats x (List.mem_of_mem_eraseIdx hx)) H1.out.row (by decide) HG.out) HX2.out (by decide) hg3
    · exact ((But.below HB1.out).trans (But.grown (F:=FootL mb (.slice (some ⟨b,0,none⟩) ps.length cap) ps) HG.out (fun k e => Or.inr (Or.inl e))) (fun k hk => Or.inl hk)).trans (But.grown hg3 (fun k e => by injection e with e; exact Or.inl e.symm)) (fun k hk => Or.inl hk)
    · rintro k (rfl | hk | ⟨x,hx,hk⟩)
      · exact Or.inl (Or.inl rfl)
      · exact Or.inl (Or.inr (Or.inl hk))
      · exact Or.inl (Or.inr (Or.inr ⟨x,List.mem_of_mem_eraseIdx hx,hk⟩))
theorem lremove_any (mb : Nat) (v : Value) (ps : List (Mbr × Value)) (σ : SetS) (w : World) (h : MsI mb v ps σ w) (hσ : σ.Ok) (n : Int) :
    Calls Tryz.prog 11 #[.pointer (some ⟨mb,0,none⟩),.int .i64 n] w fun x w' => x = .returned (errV (σ.delE n)) ∧ ∃ v' ps',MsI mb v' ps' (σ.del n) w' ∧ But (FootL mb v ps) w w' ∧ Onto (FootL mb v ps) (FootL mb v' ps') w:=by
  cases hh : σ.has n with
  | false =>
    have hn : ∀ (j : Nat) m,σ.ms[j]? = some m → ¬ (m.id : Int) = n:=fun j m hm e => by
      unfold SetS.has at hh
      rw [List.any_eq_false] at hh
      exact hh m (List.mem_of_getElem? hm) (by rw [beq_iff_eq]; exact e)
    have e : σ.delE n = 4:=by unfold SetS.delE; rw [hh]; rfl
    rw [e,show errV 4 = .iface 32 (.int .i64 4) from rfl]
    refine (lremove_no mb v ps σ w h hσ n hn).mono ?_
    rintro x w' ⟨rfl,hb⟩
    refine ⟨rfl,v,ps,?_,But.below hb,fun k hk => Or.inl hk⟩
    rw [SetS.del_no hh]
    exact h.below hb
  | true =>
    obtain ⟨m,hm,hn⟩ : ∃ m ∈ σ.ms,(m.id : Int) = n:=by
      unfold SetS.has at hh
      obtain ⟨m,hm,hn⟩:=List.any_eq_true.1 hh
      exact ⟨m,hm,by simpa using hn⟩
    obtain ⟨k,hk⟩:=List.getElem?_of_mem hm
    have e : σ.delE n = 0:=by unfold SetS.delE; rw [hh]; rfl
    rw [e,show errV 0 = .nilIface from rfl]
    exact lremove_yes mb v ps σ w h hσ n k m hk hn
theorem str_keyed : Maps.Keyed Tryz.prog 9:=Maps.string_keyed Tryz.underlying9
theorem str_key {s : ByteArray} (hs : s.size ≤ maxLen) : keyOf Tryz.prog 9 (.string s) = some (.string s.data.toList):=WideMaps.keyOf_string_mk Tryz.underlying9 hs
def asS (v : Value) : Option (DataW Value × List MemPlace):=some (.held v,[])
def Pm (w : World) (M n : Nat) (f : List UInt8 → Option Int) : Prop :=
  ∃ D : DataW Value,w.ownsMap Tryz.prog 9 asS M n D ∧ (∀ l,Maps.has D (.string l) = (f l).isSome) ∧ ∀ l z,D.atKey (.string l) z = match f l with
    | some i => .held (.int .i64 i)
    | none => z
theorem Pm.made (w : World) : Pm (w.alloc (.map #[] 0)) w.heap.size 0 (fun _ => none) :=
  ⟨.map [],World.ownsMap_made w _ _ _,fun l => by simp [Maps.has],fun l z => Maps.atKey_of_not_has (D:=.map []) (k:=.string l) rfl z⟩
theorem Pm.heap {w : World} {M n : Nat} {f : List UInt8 → Option Int} (h : Pm w M n f) : ∃ es clock,w.heap[M]? = some (.map es clock):=by
  obtain ⟨D,⟨es,clock,hb,_⟩,_⟩:=h
  exact ⟨es,clock,hb⟩
theorem Pm.lt {w : World} {M n : Nat} {f : List UInt8 → Option Int} (h : Pm w M n f) : M < w.heap.size:=by
  obtain ⟨D,h,_⟩:=h
  exact h.lt
theorem Pm.same {w w' : World} {M n : Nat} {f : List UInt8 → Option Int} (h : Pm w M n f) (e : w'.heap[M]? = w.heap[M]?) : Pm w' M n f:=by
  obtain ⟨D,⟨es,clock,hb,r⟩,hk⟩:=h
  exact ⟨D,⟨es,clock,e.trans hb,r⟩,hk⟩
theorem Pm.below {w w' : World} {M n : Nat} {f : List UInt8 → Option Int} (h : Pm w M n f) (hb : Below w.heap.size w w') : Pm w' M n f:=h.same (hb.block M h.lt)
theorem zero_intS (w : World) : (zeroValue 3).run Tryz.prog w = .ok (.int .i64 0) w:=by kernel_rfl
theorem Pm.look {w : World} {M n : Nat} {f : List UInt8 → Option Int} (h : Pm w M n f) (s : ByteArray) (hs : s.size ≤ maxLen) : (Instr.lookup 110 (.map (some M)) (.string s) false).run Tryz.prog w = .ok (.int .i64 ((f s.data.toList).getD 0)) w:=by
  obtain ⟨D,h,hk,hat⟩:=h
  obtain ⟨v,ps,hrun,hv⟩:=h.lookup str_keyed Tryz.underlying110 (zero_intS w) (zd:=.held _) (zp:=[]) rfl (str_key hs)
  rw [hat] at hv
  cases hf : f s.data.toList with
  | none =>
    rw [hf] at hv
    simp [asS] at hv
    rw [hv.1] at hrun
    exact hrun
  | some b =>
    rw [hf] at hv
    simp [asS] at hv
    rw [hv.1] at hrun
    exact hrun
theorem Pm.ok {w : World} {M n : Nat} {f : List UInt8 → Option Int} (h : Pm w M n f) (s : ByteArray) (hs : s.size ≤ maxLen) : (Instr.lookup 110 (.map (some M)) (.string s) true).run Tryz.prog w = .ok (.tuple #[.int .i64 ((f s.data.toList).getD 0),.bool (f s.data.toList).isSome]) w:=by
  obtain ⟨D,h,hk,hat⟩:=h
  obtain ⟨v,ps,hrun,hv⟩:=h.look_ok str_keyed Tryz.underlying110 (zero_intS w) (zd:=.held _) (zp:=[]) rfl (str_key hs)
  rw [hk] at hrun
  rw [hat] at hv
  cases hf : f s.data.toList with
  | none =>
    rw [hf] at hv hrun
    simp [asS] at hv
    rw [hv.1] at hrun
    exact hrun
  | some b =>
    rw [hf] at hv hrun
    simp [asS] at hv
    rw [hv.1] at hrun
    exact hrun
theorem Pm.put {w : World} {M n : Nat} {f : List UInt8 → Option Int} (h : Pm w M n f) (hn : n ≤ 1000000) (s : ByteArray) (hs : s.size ≤ maxLen) (i : Int) : ∃ w',(Instr.mapUpdate 110 (.map (some M)) (.string s) (.int .i64 i)).run Tryz.prog w = .ok () w' ∧ Pm w' M (n + 1) (fun l => if l = s.data.toList then some i else f l) ∧ w.grownBy w' (some M):=by
  obtain ⟨D,h,hk,hat⟩:=h
  obtain ⟨w',hrun,hown',hg⟩:=h.store str_keyed Tryz.underlying110 (by unfold maxLen; omega) (str_key hs) (val:=.int .i64 i) (d:=.held (.int .i64 i)) (ps:=[]) rfl
  have hkl:=str_keyed.key (str_key hs)
  refine ⟨w',hrun,⟨_,hown',fun l => ?_,fun l z => ?_⟩,hg.grown⟩
  · by_cases e : l = s.data.toList
    · subst e
      rw [Maps.has_put_same h.isMap hkl]
      simp
    · rw [Maps.has_put_other (fun he => e (by injection he)),hk]
      simp [e]
  · by_cases e : l = s.data.toList
    · subst e
      simp only [if_pos rfl]
      exact Maps.atKey_put_same h.isMap hkl _ _
    · simp only [if_neg e]
      rw [Maps.atKey_put_other (fun he => e (by injection he))]
      exact hat l z
end Go.Proofs.YtcjghhedphmhkaaGreatDoor
namespace Go.Proofs.YtcjghhedphmhkaaGreatDoor
open Go.Shelf
def lays143_ren : Go.Shelf.Ren:=⟨fun | 143 => 66 | 219 => 90 | 217 => 113 | 225 => 114 | 224 => 115 | 267 => 116 | 266 => 129 | 314 => 130 | n => n,fun | 9 => 9 | 3 => 3 | 4 => 4 | 5 => 5 | 46 => 220 | 146 => 231 | 51 => 230 | n => n,fun | 1 => 1 | n => n⟩
theorem lays143 : Go.Proofs.Lays.n143 Tryz.prog lays143_ren:={
  mixed:=by kernel_rfl
  f143:=Tryz.func66.trans (congrArg some (by kernel_rfl))
  f217:=Tryz.func113.trans (congrArg some (by kernel_rfl))
  f219:=Tryz.func90.trans (congrArg some (by kernel_rfl))
  f224:=Tryz.func115.trans (congrArg some (by kernel_rfl))
  f225:=Tryz.func114.trans (congrArg some (by kernel_rfl))
  f266:=Tryz.func129.trans (congrArg some (by kernel_rfl))
  f267:=Tryz.func116.trans (congrArg some (by kernel_rfl))
  f314:=Tryz.func130.trans (congrArg some (by kernel_rfl))
  t3:=Tryz.underlying3
  a3:=Tryz.isAgg3
  z3:=Tryz.sizeOf3
  v3:=Tryz.zeroValue3
  t4:=Tryz.underlying4
  a4:=Tryz.isAgg4
  z4:=Tryz.sizeOf4
  v4:=Tryz.zeroValue4
  t5:=Tryz.underlying5
  a5:=Tryz.isAgg5
  z5:=Tryz.sizeOf5
  v5:=Tryz.zeroValue5
  t9:=Tryz.underlying9
  a9:=Tryz.isAgg9
  z9:=Tryz.sizeOf9
  v9:=Tryz.zeroValue9
  t46:=Tryz.underlying220
  a46:=Tryz.isAgg220
  z46:=Tryz.sizeOf220
  v46:=Tryz.zeroValue220
  t51:=Tryz.underlying230
  a51:=Tryz.isAgg230
  z51:=Tryz.sizeOf230
  v51:=Tryz.zeroValue230
  t146:=Tryz.underlying231
  a146:=Tryz.isAgg231
  z146:=Tryz.sizeOf231
  v146:=Tryz.zeroValue231
  g1:=by kernel_rfl }
open Go.RowKit Go.Lib in
theorem strings_Index (s sub : ByteArray) (m : Int) (w : World) (hs : s.size < 4294967281) (hm : w.cell? ⟨1,0,none⟩ = some (.int .i64 m)) :
    Calls Tryz.prog 66 #[.string s,.string sub] w fun e w' => e = .returned (.int .i64 (Lib.index s.data.toList sub.data.toList)) ∧ w' = w:=Any.strings_Index lays143 s sub m w hs hm
end Go.Proofs.YtcjghhedphmhkaaGreatDoor
namespace Go.Proofs.YtcjghhedphmhkaaGreatDoor
open Go.RowKit
def Mxl (w : World) : Prop:=∃ m,w.cell? ⟨1,0,none⟩ = some (.int .i64 m)
theorem Mxl.lt {w : World} (h : Mxl w) : 1 < w.heap.size:=by
  obtain ⟨m,h⟩:=h
  exact World.block_lt_of_cell? _ _ h
theorem Mxl.below {w w' : World} {B : Nat} (h : Mxl w) (hb : Below B w w') (hB : w.heap.size ≤ B) : Mxl w':=by
  obtain ⟨m,hm⟩:=h
  exact ⟨m,(hb.cell (p:=⟨1,0,none⟩) (Nat.lt_of_lt_of_le (World.block_lt_of_cell? _ _ hm) hB)).trans hm⟩
structure PlI (s : ByteArray) (ps : List (Mbr × Value)) (w : World) (M i : Nat) (f : List UInt8 → Option Int) (wr : World) : Prop where
  map : Pm wr M i f
  lo : w.heap.size ≤ M
  b : Below w.heap.size w wr
  val : ∀ l v,f l = some v → v = Lib.index s.data.toList l
  all : ∀ (j : Nat) x,j < i → ps[j]? = some x → (f x.1.pat.ned).isSome = true
theorem need_list (m : Mbr) : m.need.data.toList = m.pat.ned:=by unfold Mbr.need; simp
theorem lplaces_any (ps : List (Mbr × Value)) (v : Value) (B : Nat) (w : World) (hown : MbOwn w B v ps) (hpv : ∀ x ∈ ps,∃ a n c,x.2 = .slice a n c) (hns : ∀ x ∈ ps,x.1.need.size ≤ 1000000) (hl : ps.length ≤ 12) (s : ByteArray) (hs : s.size ≤ 400) (hX : Mxl w) :
    Calls Tryz.prog 44 #[v,.string s] w fun e w' => ∃ M f,e = .returned (.map (some M)) ∧ PlI s ps w M ps.length f w':=by
  obtain ⟨a,cap,rfl,hat⟩:=MbOwn.at hown
  have HAT:=hid hat
  have HO:=hid hown
  have HPV:=hid hpv
  have HNS:=hid hns
  have HX:=hid hX
  have HI0 : Hid (PlI s ps w w.heap.size 0 (fun _ => none) (w.alloc (.map #[] 0))):=⟨Pm.made w,Nat.le_refl _,(Below.refl _ _).alloc (Nat.le_refl _) _,fun l v h => by (cases h),fun j x hj => by omega⟩
  have hmm:=@run_makeMap Tryz.prog
  clear hat hown hpv hns hX
  go_enter Tryz.func44,Tryz.ntmps44
  go_wp2_with fail
  go_loopw [13] (fun v wr => ∃ (i : Nat) (f : List UInt8 → Option Int),i ≤ ps.length ∧ v = .int .i64 (i : Int) ∧ Hid (PlI s ps w w.heap.size i f wr)) (fun v _ => ps.length - (intOf v).toNat)
  case atStart => exact ⟨0,_,by omega,rfl,HI0⟩
  case round =>
    clear HI0
    obtain ⟨i,f,hi,rfl,HA⟩:=hrel
    by_cases hil : i < ps.length
    · obtain ⟨x,hx⟩ : ∃ x,ps[i]? = some x:=⟨ps[i],List.getElem?_eq_getElem hil⟩
      have i0 : (0 : Int) ≤ (i : Int):=by omega
      have i1 : (i : Int) < (ps.length : Int):=by omega
      obtain ⟨b,hbb⟩ : ∃ b,a = some ⟨b,0,none⟩:=by
        rcases HAT.out with h | ⟨b,h,_⟩
        · rw [h] at hil; simp at hil
        · exact ⟨b,h⟩
      subst hbb
      have hbw : b < w.heap.size:=(owns_block HO.out (g:=b) rfl).2.1
      have hmat : MbAt w b ps:=by
        rcases HAT.out with h | ⟨b',h1,h2⟩
        · rw [h] at hil; simp at hil
        · injection h1 with h1
          injection h1 with h1 _ _
          rw [h1]
          exact h2
      obtain ⟨za,zn,zc,hz⟩:=HPV.out x (List.mem_of_getElem? hx)
      have hnd:=HNS.out x (List.mem_of_getElem? hx)
      have HXX:=hid hx
      obtain ⟨y0,y1,y2,y3⟩:=hmat i x hx
      have hbl:=HA.out.b
      have x0:=(hbl.cell (p:=⟨b,i * 4,none⟩) hbw).trans y0
      have x1:=(hbl.cell (p:=⟨b,i * 4 + 1,none⟩) hbw).trans y1
      have x2:=(hbl.cell (p:=⟨b,i * 4 + 2,none⟩) hbw).trans y2
      have x3:=(hbl.cell (p:=⟨b,i * 4 + 3,none⟩) hbw).trans y3
      rw [hz] at x2
      obtain ⟨nd,hnd2⟩ : ∃ nd,nd = x.1.need:=⟨_,rfl⟩
      have HND : Hid (nd.data.toList = x.1.pat.ned):=by rw [hnd2]; exact need_list x.1
      obtain ⟨mid,hmid⟩ : ∃ k : Nat,k = x.1.id:=⟨_,rfl⟩
      obtain ⟨mtx,hmtx⟩ : ∃ k : ByteArray,k = x.1.text:=⟨_,rfl⟩
      rw [← hmid] at x0
      rw [← hmtx] at x1
      rw [← hnd2] at x3 hnd
      have hndm : nd.size ≤ maxLen:=by unfold maxLen; omega
      have HMA:=hid HA.out.map
      have HLK : Hid (∀ w',Below wr.heap.size wr w' → (Instr.lookup 110 (.map (some w.heap.size)) (.string nd) true).run Tryz.prog w' = .ok (.tuple #[.int .i64 ((f nd.data.toList).getD 0),.bool (f nd.data.toList).isSome]) w'):=fun w' hb => (HMA.out.below hb).ok nd hndm
      clear hx hz hmat y0 y1 y2 y3 hmid hmtx hnd2 hbl
      have hlk:=HLK.out (wr.alloc (.cells #[.int .i64 (mid : Int),.string mtx,.slice za zn zc,.string nd] 73)) ((Below.refl _ _).alloc (Nat.le_refl _) _)
      cases hf : f nd.data.toList with
      | some i9 =>
        rw [hf] at hlk
        have HI2 : Hid (PlI s ps w w.heap.size (i + 1) f (wr.alloc (.cells #[.int .i64 (mid : Int),.string mtx,.slice za zn zc,.string nd] 73))):=by
          have h:=HA.out
          have hb:=(Below.refl wr.heap.size wr).alloc (Nat.le_refl _) (.cells #[.int .i64 (mid : Int),.string mtx,.slice za zn zc,.string nd] 73)
          obtain ⟨D,h1,h2⟩:=h.map.below hb
          refine ⟨⟨D,h1.mono (Nat.le_succ _),h2⟩,h.lo,h.b.trans (hb.mono h.b.size),h.val,fun j y hj hy => ?_⟩
          rcases Nat.lt_or_ge j i with hj2 | hj2
          · exact h.all j y hj2 hy
          · obtain rfl : j = i:=by omega
            rw [HXX.out] at hy
            obtain rfl:=Option.some.inj hy
            rw [← HND.out,hf]
            rfl
        clear hf HA HMA HLK
        go_wp2_with fail
        exact ⟨⟨i + 1,f,by omega,by go_num,HI2⟩,by simp [intOf]; omega⟩
      | none =>
        rw [hf] at hlk
        have HF:=hid hf
        clear hf
        have HIX : Hid (∀ w',Below wr.heap.size wr w' → _):=fun w' hb => by
          obtain ⟨m,hm⟩:=(HX.out.below HA.out.b (Nat.le_refl _)).below hb (Nat.le_refl _)
          exact strings_Index s nd m w' (by omega) hm
        have hb5 : Below wr.heap.size wr (wr.alloc (.cells #[.int .i64 (mid : Int),.string mtx,.slice za zn zc,.string nd] 73)).drew:=((Below.refl _ _).alloc (Nat.le_refl _) _).drew
        obtain ⟨w9,hup,hpm,hg9⟩:=(HMA.out.below hb5).put (by omega) nd hndm (Lib.index s.data.toList nd.data.toList)
        have HB5:=hid hb5
        have HPM:=hid hpm
        have HG9:=hid hg9
        clear hb5 hpm hg9
        go_wp2_with fail
        go_region_with (go_at_call 66; refine Calls.mono (HIX.out _ HB5.out) ?_; rintro e w5 ⟨rfl,rfl⟩)
        all_goals
          have HI2 : Hid (PlI s ps w w.heap.size (i + 1) (fun l => if l = nd.data.toList then some (Lib.index s.data.toList nd.data.toList) else f l) w9):=by
            have h:=HA.out
            refine ⟨HPM.out,h.lo,?_,fun l v hv => ?_,fun j y hj hy => ?_⟩
            · have hb:=h.b.trans (HB5.out.mono h.b.size)
              exact ⟨HG9.out.os.trans hb.os,HG9.out.tape.trans hb.tape,HG9.out.output.trans hb.output,Nat.le_trans hb.size HG9.out.size,fun k hk => (HG9.out.block k (Nat.lt_of_lt_of_le hk hb.size) (by intro e; injection e with e; omega)).trans (hb.block k hk)⟩
            · split at hv
              · rename_i e
                rw [e]
                exact (Option.some.inj hv).symm
              · exact h.val l v hv
            · by_cases e : y.1.pat.ned = nd.data.toList
              · rw [if_pos e]; rfl
              · rw [if_neg e]
                rcases Nat.lt_or_ge j i with hj2 | hj2
                · exact h.all j y hj2 hy
                · obtain rfl : j = i:=by omega
                  rw [HXX.out] at hy
                  obtain rfl:=Option.some.inj hy
                  exact absurd HND.out.symm e
          clear hup HB5 HPM HG9 HA HMA HLK HIX
          go_wp2
          exact ⟨⟨i + 1,_,by omega,by go_num,HI2⟩,by simp [intOf]; omega⟩
    · have g1 : ¬ (i : Int) < (ps.length : Int):=by omega
      obtain rfl : i = ps.length:=by omega
      go_wp2
      go_ret
      exact ⟨_,rfl,f,HA.out⟩
theorem whl_lenT : ∀ (t : Rx) (x : List UInt8),t.whl = some x → x.length ≤ t.flat.length
  | .leaf n,x,h => by
    simp only [Rx.whl] at h
    split at h
    · cases hc : n.c.only with
      | none => rw [hc] at h; cases h
      | some c => rw [hc] at h; simp at h; subst h; simp [Rx.flat]
    · split at h
      · simp at h; subst h; simp
      · cases h
  | .one n a,x,h => by simp [Rx.whl] at h
  | .two n a b,x,h => by
    simp only [Rx.whl] at h
    split at h
    · cases ha : a.whl with
      | none => rw [ha] at h; cases h
      | some p =>
        cases hb : b.whl with
        | none => rw [ha,hb] at h; cases h
        | some q =>
          rw [ha,hb] at h
          simp at h
          subst h
          have:=whl_lenT a p ha
          have:=whl_lenT b q hb
          simp [Rx.flat]
          omega
    · cases h
theorem ned_lenT : ∀ (t : Rx),t.ned.length ≤ t.flat.length
  | .leaf n => by
    simp only [Rx.ned]
    cases h : (Rx.leaf n).whl with
    | none => simp
    | some x => exact whl_lenT _ x h
  | .one n a => by
    simp only [Rx.ned]
    split
    · have:=ned_lenT a; simp [Rx.flat]; omega
    · simp
  | .two n a b => by
    simp only [Rx.ned]
    split
    · rename_i x h
      exact whl_lenT _ x h
    · split
      · have:=ned_lenT a
        have:=ned_lenT b
        unfold longer
        split <;> (simp [Rx.flat]; omega)
      · simp
def trs (s : List UInt8) (ps : List (Mbr × Value)) : List (Mbr × Value):=ps.filter (fun x => decide (0 ≤ Lib.index s x.1.pat.ned))
theorem trs_step (s : List UInt8) (ps : List (Mbr × Value)) (i : Nat) (x : Mbr × Value) (hx : ps[i]? = some x) : trs s (ps.take (i + 1)) = trs s (ps.take i) ++ (if 0 ≤ Lib.index s x.1.pat.ned then [x] else []):=by
  unfold trs
  rw [List.take_add_one,hx,List.filter_append]
  congr 1
  by_cases h : 0 ≤ Lib.index s x.1.pat.ned
  · simp [h]
  · simp [h]
theorem ltry_off (mb : Nat) (v : Value) (ps : List (Mbr × Value)) (σ : SetS) (w : World) (h : MsI mb v ps σ w) (hon : σ.on = false) (s : ByteArray) :
    Calls Tryz.prog 32 #[.pointer (some ⟨mb,0,none⟩),.string s] w fun e w' => e = .returned v ∧ w' = w:=by
  obtain ⟨c0,-,c2,-,-⟩:=h.cells
  rw [hon] at c2
  obtain ⟨a,cap,rfl,-⟩:=MbOwn.at h.row
  clear h hon
  go_enter Tryz.func32,Tryz.ntmps32
  go_wp2
  go_ret
  exact ⟨rfl,rfl⟩
theorem ltry_on (mb : Nat) (v : Value) (ps : List (Mbr × Value)) (σ : SetS) (w : World) (h : MsI mb v ps σ w) (hσ : σ.Ok) (hon : σ.on = true) (s : ByteArray) (hs : s.size ≤ 400) (hX : Mxl w) :
    Calls Tryz.prog 32 #[.pointer (some ⟨mb,0,none⟩),.string s] w fun e w' => ∃ u,e = .returned u ∧ MbOwn w' w.heap.size u (trs s.data.toList ps) ∧ Below w.heap.size w w':=by
  obtain ⟨c0,-,c2,-,-⟩:=h.cells
  rw [hon] at c2
  have hl : ps.length ≤ 12:=by rw [h.len]; exact hσ.len
  have HPV : Hid (∀ x ∈ ps,∃ a n c,x.2 = .slice a n c):=fun x hx => by obtain ⟨a,c,e⟩:=owns_form (h.pats x hx); exact ⟨a,_,c,e⟩
  have HNS : Hid (∀ x ∈ ps,x.1.need.size ≤ 1000000):=fun x hx => by
    have hm : x.1 ∈ σ.ms:=by rw [h.ms]; exact List.mem_map.2 ⟨x,hx,rfl⟩
    have h1:=(hσ.each _ hm).1.2.2.2
    have h2:=ned_lenT x.1.pat
    have e : x.1.need.size = x.1.pat.ned.length:=by simp [Mbr.need,ByteArray.size]
    omega
  have CP:=hid (lplaces_any ps v 0 w h.row HPV.out HNS.out hl s hs hX)
  obtain ⟨a,cap,rfl,-⟩:=MbOwn.at h.row
  have H:=hid h
  clear h hon hX hσ
  go_enter Tryz.func32,Tryz.ntmps32
  go_wp2_with fail
  refine Calls.mono CP.out ?_
  rintro e w1 ⟨M,f,rfl,hP⟩
  have HP:=hid hP
  obtain ⟨d0,-,-,-,-⟩:=(H.out.below hP.b).cells
  have HI0 : Hid (MbOwn w1 w1.heap.size (.slice none 0 0) (trs s.data.toList (ps.take 0)) ∧ Below w1.heap.size w1 w1):=⟨MbOwn.nil _ _,Below.refl _ _⟩
  clear hP CP c0 c2
  go_wp2_with fail
  go_loopw [5,29] (fun o v wr => ∃ k : Nat,k ≤ ps.length ∧ v = .int .i64 (k : Int) ∧ Hid (MbOwn wr w1.heap.size o (trs s.data.toList (ps.take k)) ∧ Below w1.heap.size w1 wr)) (fun _ v _ => ps.length - (intOf v).toNat)
  case atStart => exact ⟨0,by omega,rfl,HI0⟩
  case round =>
    clear HI0
    obtain ⟨i,hi,rfl,HQ⟩:=hrel
    by_cases hil : i < ps.length
    · obtain ⟨x,hx⟩ : ∃ x,ps[i]? = some x:=⟨ps[i],List.getElem?_eq_getElem hil⟩
      have i0 : (0 : Int) ≤ (i : Int):=by omega
      have i1 : (i : Int) < (ps.length : Int):=by omega
      have hbw:=HP.out.b.trans (HQ.out.2.mono HP.out.b.size)
      obtain ⟨b,hbb,hmat⟩ : ∃ b,a = some ⟨b,0,none⟩ ∧ MbAt wr b ps:=by
        obtain ⟨a',c',e,h⟩:=MbOwn.at (H.out.below hbw).row
        injection e with e _ _
        rcases h with h | ⟨b',h1,h2⟩
        · rw [h] at hil; simp at hil
        · exact ⟨b',e.trans h1,h2⟩
      subst hbb
      obtain ⟨za,zn,zc,hz⟩:=HPV.out x (List.mem_of_getElem? hx)
      have hnd:=HNS.out x (List.mem_of_getElem? hx)
      obtain ⟨x0,x1,x2,x3⟩:=hmat i x hx
      have HST:=hid (trs_step s.data.toList ps i x hx)
      have HFF : Hid (f x.1.pat.ned = some (Lib.index s.data.toList x.1.pat.ned)):=by
        have h1:=HP.out.all i x hil hx
        show f x.1.pat.ned = _
        cases h2 : f x.1.pat.ned with
        | none => rw [h2] at h1; cases h1
        | some v => rw [HP.out.val _ _ h2]
      obtain ⟨m,z⟩:=x
      simp only at hz
      subst hz
      simp only at x0 x1 x2 x3 hnd HFF HST
      obtain ⟨K,hK⟩ : ∃ K,K = Lib.index s.data.toList m.pat.ned:=⟨_,rfl⟩
      obtain ⟨nd,hnd2⟩ : ∃ nd,nd = m.need:=⟨_,rfl⟩
      rw [← hK] at HFF HST
      rw [← need_list m,← hnd2] at HFF
      rw [← hnd2] at x3 hnd
      have HND:=hid hnd2
      obtain ⟨T,hT⟩ : ∃ T,T = trs s.data.toList (ps.take i):=⟨_,rfl⟩
      have hTl : T.length ≤ 12:=by
        rw [hT]
        have h1 : (trs s.data.toList (ps.take i)).length ≤ (ps.take i).length:=List.length_filter_le _ _
        rw [List.length_take] at h1
        omega
      rw [← hT] at HQ HST
      obtain ⟨ua,uc,rfl⟩:=owns_form HQ.out.1
      obtain ⟨Z,hZ⟩ : ∃ Z,Z = wr.alloc (.cells #[.int .i64 (m.id : Int),.string m.text,.slice za zn zc,.string nd] 73):=⟨_,rfl⟩
      have hZb : Below wr.heap.size wr Z:=by rw [hZ]; exact (Below.refl _ _).alloc (Nat.le_refl _) _
      have hPz:=(HP.out.map.below HQ.out.2).below hZb
      have hlk:=hPz.look nd (by unfold maxLen; omega)
      rw [HFF.out] at hlk
      have hZm : Z.heap[wr.heap.size]? = some (.cells #[.int .i64 (m.id : Int),.string m.text,.slice za zn zc,.string nd] 73 (0,0)):=by rw [hZ]; exact World.alloc_heap_new wr _
      have m0:=Lib.cell_of_heap hZm 0
      have m1:=Lib.cell_of_heap hZm 1
      have m2:=Lib.cell_of_heap hZm 2
      have m3:=Lib.cell_of_heap hZm 3
      simp only [List.getElem?_toArray,List.getElem?_cons_zero,List.getElem?_cons_succ] at m0 m1 m2 m3
      have hbA : Below wr.heap.size wr ((wr.alloc (.cells #[.int .i64 (m.id : Int),.string m.text,.slice za zn zc,.string nd] 73)).alloc (.cells #[.int .i64 (m.id : Int),.string m.text,.slice za zn zc,.string nd] 73)):=by rw [← hZ]; exact hZb.alloc hZb.size _
      have HO:=hid (owns_below HQ.out.1 hbA)
      have HBA:=hid hbA
      have HZB:=hid hZb
      have HZ1 : Hid (Z = wr.alloc _):=hZ
      rw [hZ] at hlk m0 m1 m2 m3
      simp only [Option.getD_some] at hlk
      have hsz : wr.heap.size < Z.heap.size:=by rw [hZ]; simp
      clear hx hT hmat hZm hZb hZ hPz hbA hbw HP HPV HNS HFF hK hnd2 d0
      by_cases hk : 0 ≤ K
      · have hkg : K ≥ 0:=hk
        rw [if_pos hk] at HST
        go_wp2_with (at_builtin; refine wpList_append_mb rfl _ _ rfl w1.heap.size _ rfl T HO.out (wr.heap.size + 1) 1 (m,.slice za zn zc) rfl rfl (by rw [World.cell?_alloc_at (w:=wr.alloc _) _ _ (wr.heap.size + 1) 0 (by simp)]; rfl) (by rw [World.cell?_alloc_at (w:=wr.alloc _) _ _ (wr.heap.size + 1) 1 (by simp)]; rfl) (by rw [World.cell?_alloc_at (w:=wr.alloc _) _ _ (wr.heap.size + 1) 2 (by simp)]; rfl) (by rw [← HND.out,World.cell?_alloc_at (w:=wr.alloc _) _ _ (wr.heap.size + 1) 3 (by simp)]; rfl) (by omega) (by have:=HQ.out.2.size; simp; omega) ?_; intro g2 cap2 w2 ho2 hg2)
        have HQ2 : Hid (MbOwn w2 w1.heap.size (.slice (some ⟨g2,0,none⟩) (T.length + 1) cap2) (trs s.data.toList (ps.take (i + 1))) ∧ Below w1.heap.size w1 w2):=⟨by rw [HST.out]; exact ho2,(HQ.out.2.trans (HBA.out.mono HQ.out.2.size)).trans (owns_grown HO.out (by have:=HQ.out.2.size; simp; omega) hg2)⟩
        exact ⟨⟨i + 1,by omega,by go_num,HQ2⟩,by simp [intOf]; omega⟩
      · have hkg : ¬ K ≥ 0:=hk
        rw [if_neg hk,List.append_nil] at HST
        have HQ2 : Hid (MbOwn (wr.alloc (.cells #[.int .i64 (m.id : Int),.string m.text,.slice za zn zc,.string nd] 73)) w1.heap.size (.slice ua T.length uc) (trs s.data.toList (ps.take (i + 1))) ∧ Below w1.heap.size w1 (wr.alloc (.cells #[.int .i64 (m.id : Int),.string m.text,.slice za zn zc,.string nd] 73))):=by
          rw [HST.out,← HZ1.out]
          exact ⟨owns_below HQ.out.1 HZB.out,HQ.out.2.trans (HZB.out.mono HQ.out.2.size)⟩
        clear HQ HBA HO
        go_wp2_with fail
        exact ⟨⟨i + 1,by omega,by go_num,HQ2⟩,by simp [intOf]; omega⟩
    · have g1 : ¬ (i : Int) < (ps.length : Int):=by omega
      have HZ : Hid (MbOwn wr w.heap.size u5 (trs s.data.toList ps) ∧ Below w.heap.size w wr):=by
        have h:=HQ.out
        rw [List.take_of_length_le (by omega)] at h
        exact ⟨World.ownsRow.mono h.1 HP.out.b.size,HP.out.b.trans (h.2.mono HP.out.b.size)⟩
      clear HQ
      go_wp2
      go_ret
      exact ⟨_,rfl,HZ.out.1,HZ.out.2⟩
theorem list2sp {α : Type} (l : List α) (h : l.length = 2) : ∃ a b,l = [a,b]:=by
  match l,h with
  | [a,b],_ => exact ⟨a,b,rfl⟩
theorem eqSpd (d : Nat) (a b c e : Int) (w : World) : (Op.equalIn (d + 1 + 1) 54 (.agg #[.int .i64 a,.int .i64 b]) (.agg #[.int .i64 c,.int .i64 e])).run Tryz.prog w = .ok (a == c && b == e) w:=by
  have hs : Tryz.prog.underlying 54 = some (.struct (Tryz.prog.fieldsOf 54)):=by kernel_rfl
  have hp : Tryz.prog.stoodInHeld 54 = false:=by kernel_rfl
  rw [run_equalIn_struct w (d + 1) _ _ _ hs hp]
  have hf : (Tryz.prog.fieldsOf 54).toList.map (fun f => (f.type, f.offset, f.name == "_")) = [(3, 0, false), (3, 1, false)] := by kernel_rfl
  generalize (Tryz.prog.fieldsOf 54).toList = fs at hf
  obtain ⟨f0,f1,rfl⟩:=list2sp fs (by have:=congrArg List.length hf; simpa using this)
  · simp only [List.map_cons,List.map_nil,List.cons.injEq,Prod.mk.injEq,and_true] at hf
    obtain ⟨⟨t0,o0,n0⟩,⟨t1,o1,n1⟩⟩:=hf
    have n0' : f0.name ≠ "_" := by simpa using n0
    have n1' : f1.name ≠ "_" := by simpa using n1
    have hi : ∀ (a b : Int) (w : World),(Op.equalIn (d + 1) 3 (.int .i64 a) (.int .i64 b)).run Tryz.prog w = .ok (a == b) w:=fun a b w => run_equalIn_int w d 3 .i64 .i64 a b Tryz.underlying3
    have q0 : ∀ (x y : Int) (w : World),(part 3 #[.int .i64 x,.int .i64 y] 0).run Tryz.prog w = .ok (.int .i64 x) w:=fun _ _ _ => by kernel_rfl
    have q1 : ∀ (x y : Int) (w : World),(part 3 #[.int .i64 x,.int .i64 y] 1).run Tryz.prog w = .ok (.int .i64 y) w:=fun _ _ _ => by kernel_rfl
    simp only [Op.eqFields,t0,o0,t1,o1,ne_eq,n0',n1',not_false_eq_true,if_true,Sem.run_bind,q0,q1,Result.andThen_ok,hi,Sem.run_ite,Sem.run_pure]
    cases h1 : a == c <;> cases h2 : b == e <;> simp [q1,hi,h2]
abbrev spV (x : Nat × Nat) : Value:=.agg #[.int .i64 (x.1 : Int),.int .i64 (x.2 : Int)]
def SpAt (w : World) (b off : Nat) (l : List (Nat × Nat)) : Prop:=∀ (i : Nat) (x : Nat × Nat),l[i]? = some x → w.cell? ⟨b,off + i * 2,none⟩ = some (.int .i64 (x.1 : Int)) ∧ w.cell? ⟨b,off + i * 2 + 1,none⟩ = some (.int .i64 (x.2 : Int))
def SpIn (w : World) (v : Value) (l : List (Nat × Nat)) : Prop:=∃ a cap,v = .slice a l.length cap ∧ l.length ≤ maxLen ∧ (l = [] ∨ ∃ b off,a = some ⟨b,off,none⟩ ∧ b < w.heap.size ∧ SpAt w b off l)
theorem SpAt.below {w w' : World} {B b off : Nat} {l : List (Nat × Nat)} (h : SpAt w b off l) (hb : Below B w w') (hlt : b < B) : SpAt w' b off l:=fun i n hn =>
  ⟨(hb.cell (p:=⟨b,_,none⟩) hlt).trans (h i n hn).1,(hb.cell (p:=⟨b,_,none⟩) hlt).trans (h i n hn).2⟩
theorem SpIn.below {w w' : World} {v : Value} {l : List (Nat × Nat)} (h : SpIn w v l) (hb : Below w.heap.size w w') : SpIn w' v l:=by
  obtain ⟨a,cap,rfl,hm,h | ⟨b,off,rfl,hlt,hn⟩⟩:=h
  · exact ⟨a,cap,rfl,hm,Or.inl h⟩
  · exact ⟨_,cap,rfl,hm,Or.inr ⟨b,off,rfl,Nat.lt_of_lt_of_le hlt hb.size,hn.below hb hlt⟩⟩
theorem spIn_nil (w : World) : SpIn w (.slice none 0 0) []:=⟨none,0,rfl,by simp,Or.inl rfl⟩
theorem spIn_form {w : World} {v : Value} {l : List (Nat × Nat)} (h : SpIn w v l) : ∃ a cap,v = .slice a l.length cap ∧ l.length ≤ maxLen:=by
  obtain ⟨a,cap,h1,h2,_⟩:=h
  exact ⟨a,cap,h1,h2⟩
def spCells : List (Nat × Nat) → List Value
  | [] => []
  | x :: r => .int .i64 (x.1 : Int) :: .int .i64 (x.2 : Int) :: spCells r
theorem spCells_append : ∀ (x y : List (Nat × Nat)),spCells (x ++ y) = spCells x ++ spCells y
  | [],y => rfl
  | n :: r,y => by simp [spCells,spCells_append r y]
theorem spCells_one : ∀ (x : List (Nat × Nat)),∀ u ∈ spCells x,u.oneCell' = true
  | [],u,h => by simp [spCells] at h
  | n :: r,u,h => by
    simp [spCells] at h
    rcases h with rfl | rfl | h
    · rfl
    · rfl
    · exact spCells_one r u h
theorem spCells_at : ∀ (l : List (Nat × Nat)) (i : Nat) (x : Nat × Nat),l[i]? = some x → (spCells l)[i * 2]? = some (.int .i64 (x.1 : Int)) ∧ (spCells l)[i * 2 + 1]? = some (.int .i64 (x.2 : Int))
  | [],i,n,h => by simp at h
  | m :: r,0,n,h => by
    simp at h
    subst h
    exact ⟨rfl,rfl⟩
  | m :: r,i + 1,n,h => by
    have:=spCells_at r i n (by simpa using h)
    rw [show (i + 1) * 2 = i * 2 + 1 + 1 by omega]
    simpa [spCells] using this
def SpOwn (w : World) (B : Nat) (v : Value) (l : List (Nat × Nat)) : Prop:=w.ownsRow B 54 2 v l.length (spCells l)
theorem SpOwn.nil (w : World) (B : Nat) : SpOwn w B (.slice none 0 0) []:=⟨rfl,Or.inl ⟨rfl,rfl⟩⟩
theorem SpOwn.isIn {w : World} {B : Nat} {v : Value} {l : List (Nat × Nat)} (h : SpOwn w B v l) (hm : l.length ≤ maxLen) : SpIn w v l:=by
  rcases h.2 with ⟨hv,h0⟩ | ⟨g,cap,cur,hv,hb,hg,hc,_⟩
  · have e : l = []:=List.eq_nil_of_length_eq_zero h0
    subst e
    rw [hv]
    exact spIn_nil w
  · refine ⟨_,_,hv,hm,Or.inr ⟨g,0,rfl,?_,?_⟩⟩
    · rcases Nat.lt_or_ge g w.heap.size with h' | h'
      · exact h'
      · rw [Array.getElem?_eq_none h'] at hg; cases hg
    · intro i x hx
      have hc:=spCells_at l i x hx
      have h1:=h.cells (g:=g) (by rw [hv]; rfl) (i * 2) _ hc.1
      have h2:=h.cells (g:=g) (by rw [hv]; rfl) (i * 2 + 1) _ hc.2
      rw [Addr.add_lit] at h1 h2
      exact ⟨h1,h2⟩
theorem SpOwn.kept {w w' : World} {B : Nat} {v : Value} {l : List (Nat × Nat)} (h : SpOwn w B v l) (hb : Below w.heap.size w w') : SpOwn w' B v l:=by
  refine World.ownsRow.kept (row:=none) h ⟨hb.os,hb.tape,hb.output,hb.size,fun k hk _ => hb.block k hk⟩ ?_
  cases hv : v.ownBlock with
  | none => exact Or.inl rfl
  | some x => exact Or.inr (by simp)
theorem SpOwn.form {w : World} {B : Nat} {v : Value} {l : List (Nat × Nat)} (h : SpOwn w B v l) : ∃ a cap,v = .slice a l.length cap:=by
  rcases h.2 with ⟨hv,h0⟩ | ⟨g,cap,cur,hv,_⟩
  · exact ⟨none,0,by rw [hv,h0]⟩
  · exact ⟨_,_,hv⟩
theorem SpOwn.grown {w w' : World} {B : Nat} {v : Value} {l : List (Nat × Nat)} (h : SpOwn w B v l) (hB : B ≤ w.heap.size) (hg : w.grownBy w' v.ownBlock) : Below B w w':=by
  refine ⟨hg.os,hg.tape,hg.output,hg.size,fun k hk => hg.block k (by omega) ?_⟩
  intro e
  rcases h.2 with ⟨hv,_⟩ | ⟨b,cap,cur,hv,hb,_⟩
  · rw [hv] at e; cases e
  · rw [hv] at e
    injection e with e
    simp only at e
    omega
theorem wpList_append_sp {ops : Array Oper} {rest : List Oper} {o : Oper} {a : Act} {Q : Exit → Act → World → Prop} {w : World} (hgd : o.guard = none) (s x : Operand)
    (ho : o.op = .call { callee:=.builtin .append,args:=#[s,x],argTypes:=#[63,63] })
    (B : Nat) (v : Value) (hs : a.eval s = v) (l : List (Nat × Nat)) (hown : SpOwn w B v l) (g2 c2 : Nat) (y : Nat × Nat) (hx : a.eval x = .slice (some ⟨g2,0,none⟩) 1 c2)
    (hnew : w.cell? ⟨g2,0,none⟩ = some (.int .i64 (y.1 : Int))) (hnew2 : w.cell? ⟨g2,1,none⟩ = some (.int .i64 (y.2 : Int))) (hlen : l.length ≤ 1000000000) (hbase : B ≤ w.heap.size)
    (h : ∀ g cap w',SpOwn w' B (.slice (some ⟨g,0,none⟩) (l.length + 1) cap) (l ++ [y]) → w.grownBy w' v.ownBlock → B ≤ g → g < w'.heap.size → wpList Tryz.prog ops Q rest (a.put o.dst (.slice (some ⟨g,0,none⟩) (l.length + 1) cap)) w') : wpList Tryz.prog ops Q (o :: rest) a w:=by
  have hinfo : (Tryz.prog.info? 54).map (fun i => (i.zero,i.size,i.bytes)) = some (some (.agg #[.int .i64 0,.int .i64 0]),2,16):=by kernel_rfl
  obtain ⟨i0,hi,hz0,hz1,hz2⟩:=info_parts hinfo
  refine wpList_append_lies w hgd s x 63 ho B 54 i0 _ 2 16 Tryz.underlying63 hi hz0 hz1 hz2 rfl (by decide) v l.length (spCells l) hs hown ⟨g2,0,none⟩ 1 c2 (spCells [y]) hx rfl ?_ (spCells_one [y]) (by omega) (by unfold maxLen; omega) (by omega) hbase _ rfl ?_
  · intro j u hj
    match j,hj with
    | 0,hj =>
      simp [spCells] at hj
      subst hj
      rw [Addr.add_lit]
      exact hnew
    | 1,hj =>
      simp [spCells] at hj
      subst hj
      rw [Addr.add_lit]
      exact hnew2
    | j + 2,hj => simp [spCells] at hj
  · intro g cap w' h1 h2 h3 h4
    have e : SpOwn w' B (.slice (some ⟨g,0,none⟩) (l.length + 1) cap) (l ++ [y]):=by
      unfold SpOwn
      rw [spCells_append]
      simpa using h1
    have hg : B ≤ g:=by
      rcases h3 with h3 | h3
      · rcases hown.2 with ⟨hv,_⟩ | ⟨g',cap',cur,hv,hb,_⟩
        · rw [hv] at h3; cases h3
        · rw [hv] at h3
          injection h3 with h3
          simp at h3
          omega
      · omega
    exact h g cap w' e h2 hg h4
def meanF (ns : List Nd) (n : Nat) : Int:=if faultL ns = 0 then (if 400 < n then 3 else 0) else faultL ns
theorem meanF_zero (ns : List Nd) (n : Nat) : meanF ns n = 0 ↔ faultL ns = 0 ∧ n ≤ 400:=by
  unfold meanF
  by_cases h : faultL ns = 0
  · rw [if_pos h]
    by_cases h4 : 400 < n
    · rw [if_pos h4]; simp; omega
    · rw [if_neg h4]; simp [h]; omega
  · rw [if_neg h]; simp [h]
def fndE : Option (Nat × Nat) → Int
  | none => 4
  | some _ => 0
def fndX : Option (Nat × Nat) → Nat × Nat
  | none => (0,0)
  | some x => x
structure FindL (X : World → Prop) : Prop where
  bad : ∀ ns v (s : ByteArray) w,NsIn w v ns → (∀ n ∈ ns,n.wf) → s.size ≤ maxLen → ¬ meanF ns s.size = 0 → Calls Tryz.prog 21 #[v,.string s] w fun e w' => ∃ u,e = .returned (.tuple #[u,errV (meanF ns s.size)]) ∧ Below w.heap.size w w' ∧ SpIn w' u []
  all : ∀ (t : Rx) v (s : ByteArray) l w,X w → t.Ok → NsIn w v t.flat → (∀ n ∈ t.flat,n.wf) → meanF t.flat s.size = 0 → AllR s.data.toList t 0 l → Calls Tryz.prog 21 #[v,.string s] w fun e w' => ∃ u,e = .returned (.tuple #[u,.nilIface]) ∧ Below w.heap.size w w' ∧ SpIn w' u l
def IsAt (w : World) (b off : Nat) (l : List Nat) : Prop:=∀ (i x : Nat),l[i]? = some x → w.cell? ⟨b,off + i,none⟩ = some (.int .i64 (x : Int))
def IsIn (w : World) (v : Value) (l : List Nat) : Prop:=∃ a cap,v = .slice a l.length cap ∧ l.length ≤ maxLen ∧ (l = [] ∨ ∃ b off,a = some ⟨b,off,none⟩ ∧ b < w.heap.size ∧ IsAt w b off l)
theorem IsAt.below {w w' : World} {B b off : Nat} {l : List Nat} (h : IsAt w b off l) (hb : Below B w w') (hlt : b < B) : IsAt w' b off l :=
  fun i n hn => (hb.cell (p:=⟨b,_,none⟩) hlt).trans (h i n hn)
theorem IsIn.below {w w' : World} {v : Value} {l : List Nat} (h : IsIn w v l) (hb : Below w.heap.size w w') : IsIn w' v l:=by
  obtain ⟨a,cap,rfl,hm,h | ⟨b,off,rfl,hlt,hn⟩⟩:=h
  · exact ⟨a,cap,rfl,hm,Or.inl h⟩
  · exact ⟨_,cap,rfl,hm,Or.inr ⟨b,off,rfl,Nat.lt_of_lt_of_le hlt hb.size,hn.below hb hlt⟩⟩
theorem isIn_nil (w : World) : IsIn w (.slice none 0 0) []:=⟨none,0,rfl,by simp,Or.inl rfl⟩
theorem isIn_form {w : World} {v : Value} {l : List Nat} (h : IsIn w v l) : ∃ a cap,v = .slice a l.length cap ∧ l.length ≤ maxLen:=by
  obtain ⟨a,cap,h1,h2,_⟩:=h
  exact ⟨a,cap,h1,h2⟩
theorem nsIn_form {w : World} {v : Value} {ns : List Nd} (h : NsIn w v ns) : ∃ a cap,v = .slice a ns.length cap ∧ ns.length ≤ maxLen:=by
  obtain ⟨a,cap,h1,h2,_⟩:=h
  exact ⟨a,cap,h1,h2⟩
structure St where
  op : Int
  c : C4
  x : Int
  y : Int
def SsAt (w : World) (b off : Nat) (ss : List St) : Prop:=∀ i n,ss[i]? = some n →
  w.cell? ⟨b,off + i * 7,none⟩ = some (.int .i64 n.op) ∧ w.cell? ⟨b,off + i * 7 + 1,none⟩ = some (.int .u64 n.c.a) ∧ w.cell? ⟨b,off + i * 7 + 2,none⟩ = some (.int .u64 n.c.b) ∧ w.cell? ⟨b,off + i * 7 + 3,none⟩ = some (.int .u64 n.c.c) ∧ w.cell? ⟨b,off + i * 7 + 4,none⟩ = some (.int .u64 n.c.d) ∧ w.cell? ⟨b,off + i * 7 + 5,none⟩ = some (.int .i64 n.x) ∧ w.cell? ⟨b,off + i * 7 + 6,none⟩ = some (.int .i64 n.y)
def SsIn (w : World) (v : Value) (ss : List St) : Prop:=∃ a cap,v = .slice a ss.length cap ∧ ss.length ≤ maxLen ∧ (ss = [] ∨ ∃ b off,a = some ⟨b,off,none⟩ ∧ b < w.heap.size ∧ SsAt w b off ss)
theorem SsAt.below {w w' : World} {B b off : Nat} {ss : List St} (h : SsAt w b off ss) (hb : Below B w w') (hlt : b < B) : SsAt w' b off ss:=by
  intro i n hn
  obtain ⟨h0,h1,h2,h3,h4,h5,h6⟩:=h i n hn
  exact ⟨(hb.cell (p:=⟨b,_,none⟩) hlt).trans h0,(hb.cell (p:=⟨b,_,none⟩) hlt).trans h1,(hb.cell (p:=⟨b,_,none⟩) hlt).trans h2,(hb.cell (p:=⟨b,_,none⟩) hlt).trans h3,(hb.cell (p:=⟨b,_,none⟩) hlt).trans h4,(hb.cell (p:=⟨b,_,none⟩) hlt).trans h5,(hb.cell (p:=⟨b,_,none⟩) hlt).trans h6⟩
theorem SsIn.below {w w' : World} {v : Value} {ss : List St} (h : SsIn w v ss) (hb : Below w.heap.size w w') : SsIn w' v ss:=by
  obtain ⟨a,cap,rfl,hm,h | ⟨b,off,rfl,hlt,hn⟩⟩:=h
  · exact ⟨a,cap,rfl,hm,Or.inl h⟩
  · exact ⟨_,cap,rfl,hm,Or.inr ⟨b,off,rfl,Nat.lt_of_lt_of_le hlt hb.size,hn.below hb hlt⟩⟩
theorem ssIn_form {w : World} {v : Value} {ss : List St} (h : SsIn w v ss) : ∃ a cap,v = .slice a ss.length cap ∧ ss.length ≤ maxLen:=by
  obtain ⟨a,cap,h1,h2,_⟩:=h
  exact ⟨a,cap,h1,h2⟩
abbrev stRange (N : Nat) (s : St) : Prop:=s.op < 1 ∨ 5 < s.op ∨ (s.op ≠ 5 ∧ (s.x < 0 ∨ (N : Int) ≤ s.x)) ∨ (s.op = 2 ∧ (s.y < 0 ∨ (N : Int) ≤ s.y))
abbrev stShape (s : St) : Prop:=(s.op ≠ 1 ∧ ¬ s.c.eqb z4 = true) ∨ (s.op ≠ 2 ∧ s.y ≠ 0) ∨ (s.op = 5 ∧ s.x ≠ 0)
def stBad (N : Nat) (s : St) : Int:=if stRange N s then 1 else if stShape s then 2 else 0
def stScan (N : Nat) : List St → Int
  | [] => 0
  | s :: r => if stBad N s = 0 then stScan N r else stBad N s
def stepsF (ss : List St) : Int:=if 200 < ss.length then 3 else if ss.length = 0 then 4 else stScan ss.length ss
theorem stBad_range {N : Nat} {s : St} (h : stRange N s) : stBad N s = 1:=by unfold stBad; rw [if_pos h]
theorem stBad_shape {N : Nat} {s : St} (h : ¬ stRange N s) (h2 : stShape s) : stBad N s = 2:=by unfold stBad; rw [if_neg h,if_pos h2]
theorem stBad_ok {N : Nat} {s : St} (h : ¬ stRange N s) (h2 : ¬ stShape s) : stBad N s = 0:=by unfold stBad; rw [if_neg h,if_neg h2]
theorem stBad_zero {N : Nat} {s : St} (h : stBad N s = 0) : ¬ stRange N s ∧ ¬ stShape s:=by
  unfold stBad at h
  by_cases h1 : stRange N s
  · rw [if_pos h1] at h; cases h
  · rw [if_neg h1] at h
    by_cases h2 : stShape s
    · rw [if_pos h2] at h; cases h
    · exact ⟨h1,h2⟩
theorem stScan_drop (N : Nat) : ∀ (ss : List St) (i : Nat) (n : St),ss[i]? = some n → stScan N (ss.drop i) = if stBad N n = 0 then stScan N (ss.drop (i + 1)) else stBad N n
  | [],i,n,h => by simp at h
  | s :: r,0,n,h => by
    simp at h
    subst h
    rfl
  | s :: r,i + 1,n,h => by
    rw [List.drop_succ_cons,List.drop_succ_cons]
    exact stScan_drop N r i n (by simpa using h)
theorem stScan_all (N : Nat) : ∀ (ss : List St),stScan N ss = 0 → ∀ s ∈ ss,stBad N s = 0
  | [],_,s,hs => by cases hs
  | a :: r,h,s,hs => by
    unfold stScan at h
    by_cases h0 : stBad N a = 0
    · rw [if_pos h0] at h
      rcases List.mem_cons.1 hs with rfl | hs
      · exact h0
      · exact stScan_all N r h s hs
    · rw [if_neg h0] at h
      exact absurd h h0
theorem stepsF_zero {ss : List St} (h : stepsF ss = 0) : ss.length ≤ 200 ∧ 0 < ss.length ∧ ∀ s ∈ ss,¬ stRange ss.length s ∧ ¬ stShape s:=by
  unfold stepsF at h
  by_cases h1 : 200 < ss.length
  · rw [if_pos h1] at h; cases h
  · rw [if_neg h1] at h
    by_cases h2 : ss.length = 0
    · rw [if_pos h2] at h; cases h
    · rw [if_neg h2] at h
      exact ⟨by omega,by omega,fun s hs => stBad_zero (stScan_all _ _ h s hs)⟩
def SsOk (ss : List St) : Prop:=∀ s ∈ ss,s.c.ok
abbrev stZ : St:=⟨0,z4,0,0⟩
abbrev stF (x y : Nat) : St:=⟨2,z4,x,y⟩
abbrev stD : St:=⟨5,z4,0,0⟩
def Rx.cod : Rx → Nat → List St
  | .leaf n,p => if n.op = 1 then [⟨1,n.c,((p + 1 : Nat) : Int),0⟩] else if n.op = 8 then [⟨3,z4,((p + 1 : Nat) : Int),0⟩] else if n.op = 9 then [⟨4,z4,((p + 1 : Nat) : Int),0⟩] else []
  | .one n a,p =>
    if n.op = 5 then stF (p + 1) (p + 1 + (a.cod (p + 1)).length + 1) :: (a.cod (p + 1) ++ [stF (p + 1) (p + 1 + (a.cod (p + 1)).length + 1)])
    else if n.op = 6 then a.cod p ++ [stF p (p + (a.cod p).length + 1)]
    else stF (p + 1) (p + 1 + (a.cod (p + 1)).length) :: a.cod (p + 1)
  | .two n a b,p =>
    if n.op = 3 then a.cod p ++ b.cod (p + (a.cod p).length)
    else stF (p + 1) (p + 1 + (a.cod (p + 1)).length + 1) :: (a.cod (p + 1) ++ (stF (p + 1 + (a.cod (p + 1)).length + 1 + (b.cod (p + 1 + (a.cod (p + 1)).length + 1)).length) (p + 1 + (a.cod (p + 1)).length + 1 + (b.cod (p + 1 + (a.cod (p + 1)).length + 1)).length) :: b.cod (p + 1 + (a.cod (p + 1)).length + 1)))
theorem Rx.cod_len : ∀ (t : Rx) (p : Nat),(t.cod p).length ≤ 2 * t.flat.length
  | .leaf n,p => by
    simp only [Rx.cod,Rx.flat]
    repeat' split
    all_goals simp
  | .one n a,p => by
    have h1:=a.cod_len p
    have h2:=a.cod_len (p + 1)
    simp only [Rx.cod,Rx.flat]
    repeat' split
    all_goals simp
    all_goals omega
  | .two n a b,p => by
    have h1:=a.cod_len p
    have h2:=a.cod_len (p + 1)
    have h3:=b.cod_len (p + (a.cod p).length)
    have h4:=b.cod_len (p + 1 + (a.cod (p + 1)).length + 1)
    simp only [Rx.cod,Rx.flat]
    repeat' split
    all_goals simp
    all_goals omega
def Rx.prog (t : Rx) : List St:=t.cod 0 ++ [stD]
def nx (ss : List St) (s : List UInt8) (q : Nat) : List Nat :=
  match ss[q / (s.length + 1)]? with
  | none => []
  | some n =>
    if n.op = 1 then
      (match s[q % (s.length + 1)]? with
       | some c => if n.c.has c.toNat = true then [n.x.toNat * (s.length + 1) + q % (s.length + 1) + 1] else []
       | none => [])
    else if n.op = 2 then [n.x.toNat * (s.length + 1) + q % (s.length + 1),n.y.toNat * (s.length + 1) + q % (s.length + 1)]
    else if n.op = 3 then (if q % (s.length + 1) = 0 then [n.x.toNat * (s.length + 1) + q % (s.length + 1)] else [])
    else if n.op = 4 then (if q % (s.length + 1) = s.length then [n.x.toNat * (s.length + 1) + q % (s.length + 1)] else [])
    else []
def dn (ss : List St) (s : List UInt8) (q : Nat) : Bool :=
  match ss[q / (s.length + 1)]? with
  | none => false
  | some n => decide (n.op = 5)
inductive Rch (ss : List St) (s : List UInt8) (q0 : Nat) : Nat → Prop
  | base : Rch ss s q0 q0
  | step (q q' : Nat) : Rch ss s q0 q → q' ∈ nx ss s q → Rch ss s q0 q'
def RunR (ss : List St) (s : List UInt8) (i : Nat) (l : List Nat) : Prop:=l.Pairwise (· < ·) ∧ ∀ j,j ∈ l ↔ ∃ q,Rch ss s i q ∧ dn ss s q = true ∧ q % (s.length + 1) = j
structure Bfs (ss : List St) (s : List UInt8) (q0 : Nat) (seen : Nat → Bool) (Q : List Nat) (en : Nat → Bool) : Prop where
  start : seen q0 = true
  rch : ∀ q,seen q = true → Rch ss s q0 q
  que : ∀ q ∈ Q,seen q = true
  done : ∀ q,seen q = true → q ∈ Q ∨ ((∀ q' ∈ nx ss s q,seen q' = true) ∧ (dn ss s q = true → en (q % (s.length + 1)) = true))
  sound : ∀ a,en a = true → ∃ q,Rch ss s q0 q ∧ dn ss s q = true ∧ q % (s.length + 1) = a
structure BfsM (ss : List St) (s : List UInt8) (q0 : Nat) (seen : Nat → Bool) (Q : List Nat) (en : Nat → Bool) (q : Nat) (rest : List Nat) : Prop where
  start : seen q0 = true
  rch : ∀ q,seen q = true → Rch ss s q0 q
  que : ∀ q ∈ Q,seen q = true
  mine : Rch ss s q0 q
  sub : ∀ q' ∈ rest,q' ∈ nx ss s q
  left : ∀ q' ∈ nx ss s q,seen q' = true ∨ q' ∈ rest
  tell : dn ss s q = true → en (q % (s.length + 1)) = true
  done : ∀ p,seen p = true → p = q ∨ p ∈ Q ∨ ((∀ q' ∈ nx ss s p,seen q' = true) ∧ (dn ss s p = true → en (p % (s.length + 1)) = true))
  sound : ∀ a,en a = true → ∃ q,Rch ss s q0 q ∧ dn ss s q = true ∧ q % (s.length + 1) = a
def setB (p : Nat → Bool) (a : Nat) : Nat → Bool:=fun j => if j = a then true else p j
theorem setB_same (p : Nat → Bool) (a : Nat) : setB p a a = true:=by simp [setB]
theorem setB_old {p : Nat → Bool} {a j : Nat} (h : p j = true) : setB p a j = true:=by unfold setB; split <;> simp_all
theorem setB_or {p : Nat → Bool} {a j : Nat} (h : setB p a j = true) : j = a ∨ p j = true:=by
  unfold setB at h
  split at h
  · exact Or.inl ‹_›
  · exact Or.inr h
theorem BfsM.add {ss : List St} {s : List UInt8} {q0 : Nat} {seen : Nat → Bool} {q x : Nat} {Q rest : List Nat} {en : Nat → Bool} (h : BfsM ss s q0 seen Q en q (x :: rest)) : BfsM ss s q0 (setB seen x) (Q ++ [x]) en q rest where
  start:=setB_old h.start
  rch:=fun p hp => by
    rcases setB_or hp with rfl | hp
    · exact .step q p h.mine (h.sub p (by simp))
    · exact h.rch p hp
  que:=fun p hp => by
    rcases List.mem_append.1 hp with hp | hp
    · exact setB_old (h.que p hp)
    · rw [List.mem_singleton.1 hp]; exact setB_same _ _
  mine:=h.mine
  sub:=fun p hp => h.sub p (by simp [hp])
  left:=fun p hp => by
    rcases h.left p hp with h1 | h1
    · exact Or.inl (setB_old h1)
    · rcases List.mem_cons.1 h1 with rfl | h1
      · exact Or.inl (setB_same _ _)
      · exact Or.inr h1
  tell:=h.tell
  done:=fun p hp => by
    rcases setB_or hp with rfl | hp
    · exact Or.inr (Or.inl (by simp))
    · rcases h.done p hp with h1 | h1 | ⟨h1,h2⟩
      · exact Or.inl h1
      · exact Or.inr (Or.inl (by simp [h1]))
      · exact Or.inr (Or.inr ⟨fun r hr => setB_old (h1 r hr),h2⟩)
  sound:=h.sound
theorem BfsM.fin {ss : List St} {s : List UInt8} {q0 : Nat} {seen : Nat → Bool} {q : Nat} {Q : List Nat} {en : Nat → Bool} (h : BfsM ss s q0 seen Q en q []) : Bfs ss s q0 seen Q en :=
  ⟨h.start,h.rch,h.que,fun p hp => by
    rcases h.done p hp with rfl | h1 | h1
    · refine Or.inr ⟨fun r hr => ?_,h.tell⟩
      rcases h.left r hr with h2 | h2
      · exact h2
      · cases h2
    · exact Or.inl h1
    · exact Or.inr h1,h.sound⟩
theorem Bfs.all {ss : List St} {s : List UInt8} {q0 : Nat} {seen : Nat → Bool} {en : Nat → Bool} (h : Bfs ss s q0 seen [] en) (j : Nat) : en j = true ↔ ∃ q,Rch ss s q0 q ∧ dn ss s q = true ∧ q % (s.length + 1) = j:=by
  have hs : ∀ q,Rch ss s q0 q → seen q = true:=fun q hq => by
    induction hq with
    | base => exact h.start
    | step q q' _ hn ih =>
      rcases h.done q ih with h1 | ⟨h1,_⟩
      · cases h1
      · exact h1 q' hn
  constructor
  · exact h.sound j
  · rintro ⟨q,hq,hd,rfl⟩
    rcases h.done q (hs q hq) with h1 | ⟨_,h1⟩
    · cases h1
    · exact h1 hd
theorem Bfs.list {ss : List St} {s : List UInt8} {i : Nat} {seen : Nat → Bool} {en : Nat → Bool} (h : Bfs ss s i seen [] en) : RunR ss s i ((List.range (s.length + 1)).filter en):=by
  refine ⟨List.Pairwise.filter _ List.pairwise_lt_range,fun j => ?_⟩
  rw [List.mem_filter,List.mem_range,← h.all j]
  refine ⟨fun h' => h'.2,fun h' => ⟨?_,h'⟩⟩
  obtain ⟨q,_,_,rfl⟩:=h.sound j h'
  exact Nat.mod_lt _ (by omega)
def Stp (P : List St) (s : List UInt8) (k a k' a' : Nat) : Prop:=∃ n,P[k]? = some n ∧
  ((n.op = 1 ∧ k' = n.x.toNat ∧ a' = a + 1 ∧ ∃ c,s[a]? = some c ∧ n.c.has c.toNat = true) ∨ (n.op = 2 ∧ (k' = n.x.toNat ∨ k' = n.y.toNat) ∧ a' = a) ∨ (n.op = 3 ∧ k' = n.x.toNat ∧ a' = a ∧ a = 0) ∨ (n.op = 4 ∧ k' = n.x.toNat ∧ a' = a ∧ a = s.length))
inductive Pth (P : List St) (s : List UInt8) : Nat → Nat → Nat → Nat → Nat → Prop
  | nil (k a : Nat) : Pth P s 0 k a k a
  | cons (m k a k1 a1 k' a' : Nat) : Stp P s k a k1 a1 → Pth P s m k1 a1 k' a' → Pth P s (m + 1) k a k' a'
theorem Pth.trans {P : List St} {s : List UInt8} {m n k a k1 a1 k2 a2 : Nat} (h1 : Pth P s m k a k1 a1) (h2 : Pth P s n k1 a1 k2 a2) : Pth P s (m + n) k a k2 a2:=by
  induction h1 with
  | nil k a => rw [Nat.zero_add]; exact h2
  | cons m k a k3 a3 k' a' h _ ih =>
    rw [show m + 1 + n = m + n + 1 from by omega]
    exact .cons _ _ _ _ _ _ _ h (ih h2)
theorem Pth.one {P : List St} {s : List UInt8} {k a k1 a1 : Nat} (h : Stp P s k a k1 a1) : Pth P s 1 k a k1 a1:=.cons _ _ _ _ _ _ _ h (.nil _ _)
def Seg (P : List St) (p : Nat) (L : List St) : Prop:=∀ i n,L[i]? = some n → P[p + i]? = some n
theorem Seg.left {P : List St} {p : Nat} {A B : List St} (h : Seg P p (A ++ B)) : Seg P p A:=fun i n hi => by
  refine h i n ?_
  have : i < A.length:=by
    rcases Nat.lt_or_ge i A.length with h' | h'
    · exact h'
    · rw [List.getElem?_eq_none h'] at hi; cases hi
  rw [List.getElem?_append_left this]
  exact hi
theorem Seg.right {P : List St} {p : Nat} {A B : List St} (h : Seg P p (A ++ B)) : Seg P (p + A.length) B:=fun i n hi => by
  have:=h (A.length + i) n (by rw [List.getElem?_append_right (by omega)]; simpa using hi)
  rw [← this]
  congr 1
  omega
theorem Seg.head {P : List St} {p : Nat} {n : St} {B : List St} (h : Seg P p (n :: B)) : P[p]? = some n:=h 0 n rfl
theorem Seg.tail {P : List St} {p : Nat} {n : St} {B : List St} (h : Seg P p (n :: B)) : Seg P (p + 1) B:=Seg.right (A:=[n]) h
theorem stp_fork {P : List St} {s : List UInt8} {k x y a : Nat} (h : P[k]? = some (stF x y)) : Stp P s k a x a ∧ Stp P s k a y a :=
  ⟨⟨_,h,Or.inr (Or.inl ⟨rfl,Or.inl (by simp),rfl⟩)⟩,⟨_,h,Or.inr (Or.inl ⟨rfl,Or.inr (by simp),rfl⟩)⟩⟩
theorem fork_stp {P : List St} {s : List UInt8} {k x y a k' a' : Nat} (h : P[k]? = some (stF x y)) (hs : Stp P s k a k' a') : (k' = x ∨ k' = y) ∧ a' = a:=by
  obtain ⟨n,hn,hc⟩:=hs
  rw [h] at hn
  obtain rfl:=Option.some.inj hn
  rcases hc with ⟨h1,_⟩ | ⟨_,h2,h3⟩ | ⟨h1,_⟩ | ⟨h1,_⟩
  · simp at h1
  · exact ⟨by simpa using h2,h3⟩
  · simp at h1
  · simp at h1
theorem fit_path (P : List St) (s : List UInt8) : ∀ (t : Rx),t.Ok → (∀ n ∈ t.flat,1 ≤ n.op ∧ n.op ≤ 9) → ∀ (p i j : Nat),Seg P p (t.cod p) → Fit s t i j → ∃ m,Pth P s m p i (p + (t.cod p).length) j
  | .leaf n,hk,ho,p,i,j,hS,hF => by
    have hop:=ho n (by simp [Rx.flat])
    have h0 : prt n.op = 0:=hk
    have h2 : ¬ prt n.op = 2:=by omega
    have h3 : ¬ prt n.op = 1:=by omega
    rw [prt_two] at h2
    rw [prt_one] at h3
    simp only [Rx.cod] at hS ⊢
    simp only [Fit] at hF
    by_cases h1 : n.op = 1
    · rw [if_pos h1] at hF
      simp only [if_pos h1] at hS ⊢
      obtain ⟨c,hc,hh,rfl⟩:=hF
      exact ⟨1,.one ⟨_,hS.head,Or.inl ⟨rfl,by simp,rfl,c,hc,hh⟩⟩⟩
    · rw [if_neg h1] at hF
      simp only [if_neg h1] at hS ⊢
      by_cases h8 : n.op = 8
      · rw [if_pos h8] at hF
        simp only [if_pos h8] at hS ⊢
        obtain ⟨rfl,rfl⟩:=hF
        exact ⟨1,.one ⟨_,hS.head,Or.inr (Or.inr (Or.inl ⟨rfl,by simp,rfl,rfl⟩))⟩⟩
      · rw [if_neg h8] at hF
        simp only [if_neg h8] at hS ⊢
        by_cases h9 : n.op = 9
        · rw [if_pos h9] at hF
          simp only [if_pos h9] at hS ⊢
          obtain ⟨rfl,rfl⟩:=hF
          exact ⟨1,.one ⟨_,hS.head,Or.inr (Or.inr (Or.inr ⟨rfl,by simp,rfl,rfl⟩))⟩⟩
        · rw [if_neg h9] at hF
          simp only [if_neg h9] at hS ⊢
          obtain ⟨rfl,_⟩:=hF
          exact ⟨0,.nil _ _⟩
  | .one n a,hk,ho,p,i,j,hS,hF => by
    have ih:=fit_path P s a hk.2 (fun m hm => ho m (by simp [Rx.flat,hm]))
    simp only [Rx.cod] at hS ⊢
    simp only [Fit] at hF
    by_cases h5 : n.op = 5
    · rw [if_pos h5] at hF
      simp only [if_pos h5] at hS ⊢
      have hA:=hS.tail.left
      have hE:=hS.tail.right.head
      have hf1:=hS.head
      have loop : ∀ {i j : Nat},Str s.length (Fit s a) i j → ∃ m,Pth P s m (p + 1 + (a.cod (p + 1)).length) i (p + 1 + (a.cod (p + 1)).length + 1) j:=by
        intro i j hs
        induction hs with
        | nil i _ => exact ⟨1,.one (stp_fork hE).2⟩
        | cons i k j h1 _ ih2 =>
          obtain ⟨m1,p1⟩:=ih (p + 1) i k hA h1
          obtain ⟨m2,p2⟩:=ih2
          exact ⟨1 + m1 + m2,((Pth.one (stp_fork hE).1).trans p1).trans p2⟩
      have e : p + (stF (p + 1) (p + 1 + (a.cod (p + 1)).length + 1) :: (a.cod (p + 1) ++ [stF (p + 1) (p + 1 + (a.cod (p + 1)).length + 1)])).length = p + 1 + (a.cod (p + 1)).length + 1:=by simp; omega
      rw [e]
      cases hF with
      | nil _ _ => exact ⟨1,.one (stp_fork hf1).2⟩
      | cons _ k _ h1 h2 =>
        obtain ⟨m1,p1⟩:=ih (p + 1) i k hA h1
        obtain ⟨m2,p2⟩:=loop h2
        exact ⟨1 + m1 + m2,((Pth.one (stp_fork hf1).1).trans p1).trans p2⟩
    · rw [if_neg h5] at hF
      simp only [if_neg h5] at hS ⊢
      by_cases h6 : n.op = 6
      · rw [if_pos h6] at hF
        simp only [if_pos h6] at hS ⊢
        have hA:=hS.left
        have hE:=hS.right.head
        have loop : ∀ {i j : Nat},Str s.length (Fit s a) i j → ∃ m,Pth P s m (p + (a.cod p).length) i (p + (a.cod p).length + 1) j:=by
          intro i j hs
          induction hs with
          | nil i _ => exact ⟨1,.one (stp_fork hE).2⟩
          | cons i k j h1 _ ih2 =>
            obtain ⟨m1,p1⟩:=ih p i k hA h1
            obtain ⟨m2,p2⟩:=ih2
            exact ⟨1 + m1 + m2,((Pth.one (stp_fork hE).1).trans p1).trans p2⟩
        obtain ⟨k,h1,h2⟩:=hF
        obtain ⟨m1,p1⟩:=ih p i k hA h1
        obtain ⟨m2,p2⟩:=loop h2
        rw [show p + (a.cod p ++ [stF p (p + (a.cod p).length + 1)]).length = p + (a.cod p).length + 1 from by simp; omega]
        exact ⟨m1 + m2,p1.trans p2⟩
      · rw [if_neg h6] at hF
        simp only [if_neg h6] at hS ⊢
        have hA:=hS.tail
        have hf1:=hS.head
        rw [show p + (stF (p + 1) (p + 1 + (a.cod (p + 1)).length) :: a.cod (p + 1)).length = p + 1 + (a.cod (p + 1)).length from by simp; omega]
        rcases hF with ⟨rfl,_⟩ | h1
        · exact ⟨1,.one (stp_fork hf1).2⟩
        · obtain ⟨m1,p1⟩:=ih (p + 1) i j hA h1
          exact ⟨1 + m1,(Pth.one (stp_fork hf1).1).trans p1⟩
  | .two n a b,hk,ho,p,i,j,hS,hF => by
    have iha:=fit_path P s a hk.2.1 (fun m hm => ho m (by simp [Rx.flat,hm]))
    have ihb:=fit_path P s b hk.2.2 (fun m hm => ho m (by simp [Rx.flat,hm]))
    simp only [Rx.cod] at hS ⊢
    simp only [Fit] at hF
    by_cases h3 : n.op = 3
    · rw [if_pos h3] at hF
      simp only [if_pos h3] at hS ⊢
      obtain ⟨k,h1,h2⟩:=hF
      obtain ⟨m1,p1⟩:=iha p i k hS.left h1
      obtain ⟨m2,p2⟩:=ihb _ k j hS.right h2
      rw [List.length_append,← Nat.add_assoc]
      exact ⟨m1 + m2,p1.trans p2⟩
    · rw [if_neg h3] at hF
      simp only [if_neg h3] at hS ⊢
      have hf1:=hS.head
      have hA:=hS.tail.left
      have hf2:=hS.tail.right.head
      have hB:=hS.tail.right.tail
      generalize hq : p + 1 + (a.cod (p + 1)).length + 1 = q at *
      rw [show p + (stF (p + 1) q :: (a.cod (p + 1) ++ stF (q + (b.cod q).length) (q + (b.cod q).length) :: b.cod q)).length = q + (b.cod q).length from by simp; omega]
      rcases hF with h1 | h1
      · obtain ⟨m1,p1⟩:=iha (p + 1) i j hA h1
        exact ⟨1 + m1 + 1,((Pth.one (stp_fork hf1).1).trans p1).trans (.one (stp_fork hf2).1)⟩
      · obtain ⟨m1,p1⟩:=ihb q i j hB h1
        exact ⟨1 + m1,(Pth.one (stp_fork hf1).2).trans p1⟩
def Out (P : List St) (s : List UInt8) (t : Rx) (p : Nat) : Prop:=∀ (n i k a : Nat),i ≤ s.length → Pth P s n p i k a → (k < p ∨ p + (t.cod p).length ≤ k) → ∃ j m,m ≤ n ∧ Fit s t i j ∧ Pth P s m (p + (t.cod p).length) j k a
theorem out_loop {P : List St} {s : List UInt8} {t : Rx} {p : Nat} (h : Out P s t p) (hF : P[p + (t.cod p).length]? = some (stF p (p + (t.cod p).length + 1))) : ∀ (N n i k a : Nat),n ≤ N → i ≤ s.length → Pth P s n p i k a → (k < p ∨ p + (t.cod p).length + 1 ≤ k) → ∃ j m,m ≤ n ∧ (∃ q,Fit s t i q ∧ Str s.length (Fit s t) q j) ∧ Pth P s m (p + (t.cod p).length + 1) j k a:=by
  intro N
  induction N with
  | zero =>
    intro n i k a hn hi hp hout
    obtain ⟨j,m,hm,hf,hq⟩:=h n i k a hi hp (by omega)
    have : m = 0:=by omega
    subst this
    cases hq
    omega
  | succ N ih =>
    intro n i k a hn hi hp hout
    obtain ⟨j,m,hm,hf,hq⟩:=h n i k a hi hp (by omega)
    have hj:=(fit_le s t i j hf).2
    cases hq with
    | nil => omega
    | cons m _ _ k1 a1 _ _ hs hr =>
      obtain ⟨hk,ha1⟩:=fork_stp hF hs
      rw [ha1] at hr
      rcases hk with rfl | rfl
      · obtain ⟨j2,m2,hm2,⟨q,hq1,hq2⟩,hq3⟩:=ih m j k a (by omega) hj hr hout
        exact ⟨j2,m2,by omega,⟨j,hf,.cons _ _ _ hq1 hq2⟩,hq3⟩
      · exact ⟨j,m,by omega,⟨j,hf,.nil _ hj⟩,hr⟩
theorem path_fit (P : List St) (s : List UInt8) : ∀ (t : Rx),t.Ok → (∀ n ∈ t.flat,1 ≤ n.op ∧ n.op ≤ 9) → ∀ (p : Nat),Seg P p (t.cod p) → Out P s t p
  | .leaf n,hk,ho,p,hS => by
    intro m i k a hi hp hout
    simp only [Rx.cod] at hS hout ⊢
    simp only [Fit]
    by_cases h1 : n.op = 1
    · simp only [if_pos h1] at hS hout ⊢
      cases hp with
      | nil => simp at hout; omega
      | cons m _ _ k1 a1 _ _ hs hr =>
        obtain ⟨x,hx,hc⟩:=hs
        rw [hS.head] at hx
        obtain rfl:=Option.some.inj hx
        rcases hc with ⟨_,h2,h3,h4⟩ | ⟨h2,_⟩ | ⟨h2,_⟩ | ⟨h2,_⟩
        · subst h3
          obtain ⟨c,hc,hh⟩:=h4
          refine ⟨i + 1,m,by omega,⟨c,hc,hh,rfl⟩,?_⟩
          rw [show (k1 : Nat) = p + 1 from by simpa using h2] at hr
          simpa using hr
        · simp at h2
        · simp at h2
        · simp at h2
    · simp only [if_neg h1] at hS hout ⊢
      by_cases h8 : n.op = 8
      · simp only [if_pos h8] at hS hout ⊢
        cases hp with
        | nil => simp at hout; omega
        | cons m _ _ k1 a1 _ _ hs hr =>
          obtain ⟨x,hx,hc⟩:=hs
          rw [hS.head] at hx
          obtain rfl:=Option.some.inj hx
          rcases hc with ⟨h2,_⟩ | ⟨h2,_⟩ | ⟨_,h2,h3,h4⟩ | ⟨h2,_⟩
          · simp at h2
          · simp at h2
          · subst h3
            refine ⟨a1,m,by omega,⟨h4,h4⟩,?_⟩
            rw [show (k1 : Nat) = p + 1 from by simpa using h2] at hr
            simpa using hr
          · simp at h2
      · simp only [if_neg h8] at hS hout ⊢
        by_cases h9 : n.op = 9
        · simp only [if_pos h9] at hS hout ⊢
          cases hp with
          | nil => simp at hout; omega
          | cons m _ _ k1 a1 _ _ hs hr =>
            obtain ⟨x,hx,hc⟩:=hs
            rw [hS.head] at hx
            obtain rfl:=Option.some.inj hx
            rcases hc with ⟨h2,_⟩ | ⟨h2,_⟩ | ⟨h2,_⟩ | ⟨_,h2,h3,h4⟩
            · simp at h2
            · simp at h2
            · simp at h2
            · subst h3
              refine ⟨a1,m,by omega,⟨h4,h4⟩,?_⟩
              rw [show (k1 : Nat) = p + 1 from by simpa using h2] at hr
              simpa using hr
        · simp only [if_neg h9] at hS hout ⊢
          exact ⟨i,m,Nat.le_refl _,⟨rfl,hi⟩,by simpa using hp⟩
  | .one n t,hk,ho,p,hS => by
    have ih:=path_fit P s t hk.2 (fun m hm => ho m (by simp [Rx.flat,hm]))
    intro m i k a hi hp hout
    simp only [Rx.cod] at hS hout ⊢
    simp only [Fit]
    by_cases h5 : n.op = 5
    · simp only [if_pos h5] at hS hout ⊢
      have hA:=hS.tail.left
      have hE:=hS.tail.right.head
      have hf1:=hS.head
      have e : p + (stF (p + 1) (p + 1 + (t.cod (p + 1)).length + 1) :: (t.cod (p + 1) ++ [stF (p + 1) (p + 1 + (t.cod (p + 1)).length + 1)])).length = p + 1 + (t.cod (p + 1)).length + 1:=by simp; omega
      rw [e] at hout ⊢
      cases hp with
      | nil => omega
      | cons m _ _ k1 a1 _ _ hs hr =>
        obtain ⟨hk1,ha1⟩:=fork_stp hf1 hs
        rw [ha1] at hr
        rcases hk1 with rfl | rfl
        · obtain ⟨j,m2,hm2,⟨q,h1,h2⟩,h3⟩:=out_loop (ih (p + 1) hA) hE m m i k a (Nat.le_refl _) hi hr (by omega)
          exact ⟨j,m2,by omega,.cons _ _ _ h1 h2,h3⟩
        · exact ⟨i,m,by omega,.nil _ hi,hr⟩
    · simp only [if_neg h5] at hS hout ⊢
      by_cases h6 : n.op = 6
      · simp only [if_pos h6] at hS hout ⊢
        have hA:=hS.left
        have hE:=hS.right.head
        have e : p + (t.cod p ++ [stF p (p + (t.cod p).length + 1)]).length = p + (t.cod p).length + 1:=by simp; omega
        rw [e] at hout ⊢
        obtain ⟨j,m2,hm2,h1,h3⟩:=out_loop (ih p hA) hE m m i k a (Nat.le_refl _) hi hp hout
        exact ⟨j,m2,hm2,h1,h3⟩
      · simp only [if_neg h6] at hS hout ⊢
        have hA:=hS.tail
        have hf1:=hS.head
        have e : p + (stF (p + 1) (p + 1 + (t.cod (p + 1)).length) :: t.cod (p + 1)).length = p + 1 + (t.cod (p + 1)).length:=by simp; omega
        rw [e] at hout ⊢
        cases hp with
        | nil => omega
        | cons m _ _ k1 a1 _ _ hs hr =>
          obtain ⟨hk1,ha1⟩:=fork_stp hf1 hs
          rw [ha1] at hr
          rcases hk1 with rfl | rfl
          · obtain ⟨j,m2,hm2,h1,h3⟩:=ih (p + 1) hA m i k a hi hr (by omega)
            exact ⟨j,m2,by omega,Or.inr h1,h3⟩
          · exact ⟨i,m,by omega,Or.inl ⟨rfl,hi⟩,hr⟩
  | .two n t u,hk,ho,p,hS => by
    have iha:=path_fit P s t hk.2.1 (fun m hm => ho m (by simp [Rx.flat,hm]))
    have ihb:=path_fit P s u hk.2.2 (fun m hm => ho m (by simp [Rx.flat,hm]))
    intro m i k a hi hp hout
    simp only [Rx.cod] at hS hout ⊢
    simp only [Fit]
    by_cases h3 : n.op = 3
    · simp only [if_pos h3] at hS hout ⊢
      rw [List.length_append,← Nat.add_assoc] at hout ⊢
      obtain ⟨j1,m1,hm1,hf1,hp1⟩:=iha p hS.left m i k a hi hp (by omega)
      obtain ⟨j2,m2,hm2,hf2,hp2⟩:=ihb _ hS.right m1 j1 k a (fit_le s t i j1 hf1).2 hp1 (by omega)
      exact ⟨j2,m2,by omega,⟨j1,hf1,hf2⟩,hp2⟩
    · simp only [if_neg h3] at hS hout ⊢
      have hf1:=hS.head
      have hA:=hS.tail.left
      have hf2:=hS.tail.right.head
      have hB:=hS.tail.right.tail
      generalize hq : p + 1 + (t.cod (p + 1)).length + 1 = q at *
      rw [show p + (stF (p + 1) q :: (t.cod (p + 1) ++ stF (q + (u.cod q).length) (q + (u.cod q).length) :: u.cod q)).length = q + (u.cod q).length from by simp; omega] at hout ⊢
      cases hp with
      | nil => omega
      | cons m _ _ k1 a1 _ _ hs hr =>
        obtain ⟨hk1,ha1⟩:=fork_stp hf1 hs
        rw [ha1] at hr
        rcases hk1 with rfl | rfl
        · obtain ⟨j1,m1,hm1,hfa,hp1⟩:=iha (p + 1) hA m i k a hi hr (by omega)
          cases hp1 with
          | nil => omega
          | cons m1 _ _ k2 a2 _ _ hs2 hr2 =>
            obtain ⟨hk2,ha1⟩:=fork_stp hf2 hs2
            rw [ha1] at hr2
            rcases hk2 with rfl | rfl <;> exact ⟨j1,m1,by omega,Or.inl hfa,hr2⟩
        · obtain ⟨j1,m1,hm1,hfb,hp1⟩:=ihb _ hB m i k a hi hr (by omega)
          exact ⟨j1,m1,by omega,Or.inr hfb,hp1⟩
def StOk (e : Nat) (n : St) : Prop:=(1 ≤ n.op ∧ n.op ≤ 4) ∧ (0 ≤ n.x ∧ n.x ≤ (e : Int)) ∧ (0 ≤ n.y ∧ n.y ≤ (e : Int)) ∧ (n.op ≠ 2 → n.y = 0) ∧ (n.op ≠ 1 → n.c = z4)
theorem StOk.mono {e f : Nat} {n : St} (h : StOk e n) (hf : e ≤ f) : StOk f n:=by
  obtain ⟨h1,h2,h3,h4,h5⟩:=h
  exact ⟨h1,⟨h2.1,by omega⟩,⟨h3.1,by omega⟩,h4,h5⟩
theorem stF_ok {e x y : Nat} (hx : x ≤ e) (hy : y ≤ e) : StOk e (stF x y):=⟨by simp,by simp; omega,by simp; omega,by simp,by simp⟩
theorem cod_ok : ∀ (t : Rx) (p : Nat),∀ n ∈ t.cod p,StOk (p + (t.cod p).length) n
  | .leaf m,p => by
    intro n hn
    simp only [Rx.cod] at hn ⊢
    split at hn
    · simp at hn; subst hn; rename_i h; simp [h]; exact ⟨by simp,by simp; omega,by simp; omega,by simp,by simp⟩
    · rename_i h1
      split at hn
      · simp at hn; subst hn; rename_i h; simp [h]; exact ⟨by simp,by simp; omega,by simp; omega,by simp,by simp⟩
      · rename_i h8
        split at hn
        · simp at hn; subst hn; rename_i h; simp [h]; exact ⟨by simp,by simp; omega,by simp; omega,by simp,by simp⟩
        · cases hn
  | .one m a,p => by
    intro n hn
    have h1:=cod_ok a p
    have h2:=cod_ok a (p + 1)
    simp only [Rx.cod] at hn ⊢
    split at hn
    · rename_i h
      rw [if_pos h]
      simp only [List.length_cons,List.length_append,List.length_nil]
      simp only [List.mem_cons,List.mem_append,List.not_mem_nil,or_false] at hn
      rcases hn with rfl | hn | rfl
      · exact stF_ok (by omega) (by omega)
      · exact (h2 n hn).mono (by omega)
      · exact stF_ok (by omega) (by omega)
    · rename_i h
      rw [if_neg h]
      split at hn
      · rename_i h6
        rw [if_pos h6]
        simp only [List.length_cons,List.length_append,List.length_nil]
        simp only [List.mem_cons,List.mem_append,List.not_mem_nil,or_false] at hn
        rcases hn with hn | rfl
        · exact (h1 n hn).mono (by omega)
        · exact stF_ok (by omega) (by omega)
      · rename_i h6
        rw [if_neg h6]
        simp only [List.length_cons]
        simp only [List.mem_cons] at hn
        rcases hn with rfl | hn
        · exact stF_ok (by omega) (by omega)
        · exact (h2 n hn).mono (by omega)
  | .two m a b,p => by
    intro n hn
    have h1:=cod_ok a p
    have h2:=cod_ok a (p + 1)
    have h3:=cod_ok b (p + (a.cod p).length)
    have h4:=cod_ok b (p + 1 + (a.cod (p + 1)).length + 1)
    simp only [Rx.cod] at hn ⊢
    split at hn
    · rename_i h
      rw [if_pos h,List.length_append]
      rcases List.mem_append.1 hn with hn | hn
      · exact (h1 n hn).mono (by omega)
      · exact (h3 n hn).mono (by omega)
    · rename_i h
      rw [if_neg h]
      simp only [List.length_cons,List.length_append]
      simp only [List.mem_cons,List.mem_append] at hn
      rcases hn with rfl | hn | rfl | hn
      · exact stF_ok (by omega) (by omega)
      · exact (h2 n hn).mono (by omega)
      · exact stF_ok (by omega) (by omega)
      · exact (h4 n hn).mono (by omega)
theorem prog_len (t : Rx) : t.prog.length = (t.cod 0).length + 1:=by simp [Rx.prog]
theorem stScan_of (N : Nat) : ∀ (l : List St),(∀ n ∈ l,stBad N n = 0) → stScan N l = 0
  | [],_ => rfl
  | a :: r,h => by rw [stScan,if_pos (h a (by simp))]; exact stScan_of N r (fun n hn => h n (by simp [hn]))
theorem z4_eqb : z4.eqb z4 = true:=by decide
theorem prog_fault (t : Rx) (hl : t.flat.length ≤ 60) : stepsF t.prog = 0:=by
  have hc:=t.cod_len 0
  have hp:=prog_len t
  unfold stepsF
  rw [if_neg (by omega),if_neg (by omega)]
  refine stScan_of _ _ fun n hn => ?_
  unfold Rx.prog at hn
  rcases List.mem_append.1 hn with hn | hn
  · obtain ⟨h1,h2,h3,h4,h5⟩:=cod_ok t 0 n hn
    refine stBad_ok ?_ ?_
    · unfold stRange
      omega
    · rintro (⟨ha,hb⟩ | ⟨ha,hb⟩ | ⟨ha,hb⟩)
      · rw [h5 ha] at hb
        exact hb z4_eqb
      · exact hb (h4 ha)
      · omega
  · rw [List.mem_singleton] at hn
    subst hn
    refine stBad_ok ?_ ?_
    · unfold stRange
      simp
    · rintro (⟨ha,hb⟩ | ⟨ha,hb⟩ | ⟨ha,hb⟩)
      · exact hb z4_eqb
      · exact hb rfl
      · exact hb rfl
theorem prog_seg (t : Rx) : Seg t.prog 0 (t.cod 0):=by
  have : Seg t.prog 0 t.prog:=fun i n hi => by rw [Nat.zero_add]; exact hi
  exact this.left
theorem prog_done (t : Rx) : t.prog[(t.cod 0).length]? = some stD:=by simp [Rx.prog]
theorem prog_five (t : Rx) {k : Nat} {n : St} (h : t.prog[k]? = some n) (h5 : n.op = 5) : k = (t.cod 0).length:=by
  rcases Nat.lt_trichotomy k (t.cod 0).length with hk | hk | hk
  · unfold Rx.prog at h
    rw [List.getElem?_append_left hk] at h
    have:=(cod_ok t 0 n (List.mem_of_getElem? h)).1
    omega
  · exact hk
  · rw [List.getElem?_eq_none (by rw [prog_len]; omega)] at h
    cases h
theorem spot_div {N k a : Nat} (ha : a < N) : (k * N + a) / N = k ∧ (k * N + a) % N = a:=by
  have hN : 0 < N:=by omega
  refine ⟨?_,?_⟩
  · rw [Nat.mul_comm,Nat.mul_add_div hN,Nat.div_eq_of_lt ha,Nat.add_zero]
  · rw [Nat.mul_comm,Nat.mul_add_mod,Nat.mod_eq_of_lt ha]
theorem nx_stp (ss : List St) (s : List UInt8) {k a q' : Nat} (ha : a ≤ s.length) : q' ∈ nx ss s (k * (s.length + 1) + a) ↔ ∃ k' a',Stp ss s k a k' a' ∧ a' ≤ s.length ∧ q' = k' * (s.length + 1) + a':=by
  obtain ⟨hd,hm⟩:=spot_div (N:=s.length + 1) (k:=k) (a:=a) (by omega)
  unfold nx Stp
  rw [hd,hm]
  cases hn : ss[k]? with
  | none => simp
  | some n =>
    simp only [Option.some.injEq,exists_eq_left']
    by_cases h1 : n.op = 1
    · rw [if_pos h1]
      have e : ∀ k' a',((n.op = 1 ∧ k' = n.x.toNat ∧ a' = a + 1 ∧ ∃ c,s[a]? = some c ∧ n.c.has c.toNat = true) ∨ (n.op = 2 ∧ (k' = n.x.toNat ∨ k' = n.y.toNat) ∧ a' = a) ∨ (n.op = 3 ∧ k' = n.x.toNat ∧ a' = a ∧ a = 0) ∨ (n.op = 4 ∧ k' = n.x.toNat ∧ a' = a ∧ a = s.length)) ↔ (k' = n.x.toNat ∧ a' = a + 1 ∧ ∃ c,s[a]? = some c ∧ n.c.has c.toNat = true):=by
        intro k' a'
        constructor
        · rintro (⟨_,h⟩ | ⟨h,_⟩ | ⟨h,_⟩ | ⟨h,_⟩)
          · exact h
          · omega
          · omega
          · omega
        · intro h
          exact Or.inl ⟨h1,h⟩
      simp only [e]
      cases hc : s[a]? with
      | none => simp
      | some c =>
        have hlt : a < s.length:=by
          rcases Nat.lt_or_ge a s.length with h' | h'
          · exact h'
          · rw [List.getElem?_eq_none h'] at hc; cases hc
        simp only [Option.some.injEq,exists_eq_left']
        by_cases hh : n.c.has c.toNat = true
        · rw [if_pos hh,List.mem_singleton]
          constructor
          · rintro rfl
            exact ⟨_,_,⟨rfl,rfl,hh⟩,by omega,by omega⟩
          · rintro ⟨k',a',⟨rfl,rfl,_⟩,_,rfl⟩
            omega
        · rw [if_neg hh]
          constructor
          · intro h; cases h
          · rintro ⟨k',a',⟨_,_,h⟩,_⟩
            exact absurd h hh
    · rw [if_neg h1]
      by_cases h2 : n.op = 2
      · rw [if_pos h2,List.mem_cons,List.mem_singleton]
        constructor
        · rintro (rfl | rfl)
          · exact ⟨_,_,Or.inr (Or.inl ⟨h2,Or.inl rfl,rfl⟩),ha,rfl⟩
          · exact ⟨_,_,Or.inr (Or.inl ⟨h2,Or.inr rfl,rfl⟩),ha,rfl⟩
        · rintro ⟨k',a',h | ⟨_,h,rfl⟩ | h | h,_,rfl⟩
          · exact absurd h.1 h1
          · rcases h with rfl | rfl
            · exact Or.inl rfl
            · exact Or.inr rfl
          · have:=h.1; omega
          · have:=h.1; omega
      · rw [if_neg h2]
        by_cases h3 : n.op = 3
        · rw [if_pos h3]
          by_cases h0 : a = 0
          · rw [if_pos h0,List.mem_singleton]
            constructor
            · rintro rfl
              exact ⟨_,_,Or.inr (Or.inr (Or.inl ⟨h3,rfl,rfl,h0⟩)),ha,rfl⟩
            · rintro ⟨k',a',h | h | ⟨_,rfl,rfl,_⟩ | h,_,rfl⟩
              · exact absurd h.1 h1
              · exact absurd h.1 h2
              · rfl
              · have:=h.1; omega
          · rw [if_neg h0]
            constructor
            · intro h; cases h
            · rintro ⟨k',a',h | h | ⟨_,_,_,h⟩ | h,_⟩
              · exact absurd h.1 h1
              · exact absurd h.1 h2
              · exact absurd h h0
              · have:=h.1; omega
        · rw [if_neg h3]
          by_cases h4 : n.op = 4
          · rw [if_pos h4]
            by_cases h0 : a = s.length
            · rw [if_pos h0,List.mem_singleton]
              constructor
              · rintro rfl
                exact ⟨_,_,Or.inr (Or.inr (Or.inr ⟨h4,rfl,rfl,h0⟩)),ha,rfl⟩
              · rintro ⟨k',a',h | h | h | ⟨_,rfl,rfl,_⟩,_,rfl⟩
                · exact absurd h.1 h1
                · exact absurd h.1 h2
                · exact absurd h.1 h3
                · rfl
            · rw [if_neg h0]
              constructor
              · intro h; cases h
              · rintro ⟨k',a',h | h | h | ⟨_,_,_,h⟩,_⟩
                · exact absurd h.1 h1
                · exact absurd h.1 h2
                · exact absurd h.1 h3
                · exact absurd h h0
          · rw [if_neg h4]
            constructor
            · intro h; cases h
            · rintro ⟨k',a',h | h | h | h,_⟩
              · exact absurd h.1 h1
              · exact absurd h.1 h2
              · exact absurd h.1 h3
              · exact absurd h.1 h4
theorem rch_pth (ss : List St) (s : List UInt8) {i q : Nat} (hi : i ≤ s.length) (h : Rch ss s i q) : ∃ n k a,a ≤ s.length ∧ q = k * (s.length + 1) + a ∧ Pth ss s n 0 i k a:=by
  induction h with
  | base => exact ⟨0,0,i,hi,by simp,.nil _ _⟩
  | step q q' _ hn ih =>
    obtain ⟨n,k,a,ha,rfl,hp⟩:=ih
    obtain ⟨k',a',hs,ha',rfl⟩:=(nx_stp ss s ha).1 hn
    exact ⟨n + 1,k',a',ha',rfl,hp.trans (.one hs)⟩
theorem stp_le {ss : List St} {s : List UInt8} {k a k' a' : Nat} (ha : a ≤ s.length) (h : Stp ss s k a k' a') : a' ≤ s.length:=by
  obtain ⟨n,_,⟨_,_,h2,c,hc,_⟩ | ⟨_,_,h2⟩ | ⟨_,_,h2,_⟩ | ⟨_,_,h2,_⟩⟩:=h
  · have hlt : a < s.length:=by
      rcases Nat.lt_or_ge a s.length with h' | h'
      · exact h'
      · rw [List.getElem?_eq_none h'] at hc; cases hc
    omega
  · omega
  · omega
  · omega
theorem pth_rch {ss : List St} {s : List UInt8} {q0 n k a k' a' : Nat} (h : Pth ss s n k a k' a') : a ≤ s.length → Rch ss s q0 (k * (s.length + 1) + a) → a' ≤ s.length ∧ Rch ss s q0 (k' * (s.length + 1) + a'):=by
  induction h with
  | nil k a => exact fun h1 h2 => ⟨h1,h2⟩
  | cons m k a k1 a1 k' a' hs _ ih =>
    intro h1 h2
    have h3:=stp_le h1 hs
    exact ih h3 (.step _ _ h2 ((nx_stp ss s h1).2 ⟨k1,a1,hs,h3,rfl⟩))
theorem run_fit (t : Rx) (ht : t.Ok) (ho : ∀ n ∈ t.flat,1 ≤ n.op ∧ n.op ≤ 9) (s : List UInt8) (i j : Nat) (hi : i ≤ s.length) : (∃ q,Rch t.prog s i q ∧ dn t.prog s q = true ∧ q % (s.length + 1) = j) ↔ Fit s t i j:=by
  constructor
  · rintro ⟨q,hq,hd,rfl⟩
    obtain ⟨n,k,a,ha,rfl,hp⟩:=rch_pth t.prog s hi hq
    obtain ⟨h1,h2⟩:=spot_div (N:=s.length + 1) (k:=k) (a:=a) (by omega)
    unfold dn at hd
    rw [h1] at hd
    rw [h2]
    cases hn : t.prog[k]? with
    | none => rw [hn] at hd; cases hd
    | some x =>
      rw [hn] at hd
      have hk:=prog_five t hn (by simpa using hd)
      subst hk
      obtain ⟨j,m,_,hf,hr⟩:=path_fit t.prog s t ht ho 0 (prog_seg t) n i _ a hi hp (by omega)
      rw [Nat.zero_add] at hr
      cases hr with
      | nil => exact hf
      | cons m _ _ k1 a1 _ _ hs _ =>
        obtain ⟨y,hy,hc⟩:=hs
        rw [prog_done] at hy
        obtain rfl:=Option.some.inj hy
        rcases hc with ⟨h,_⟩ | ⟨h,_⟩ | ⟨h,_⟩ | ⟨h,_⟩ <;> simp at h
  · intro hf
    have hj:=(fit_le s t i j hf).2
    obtain ⟨m,hp⟩:=fit_path t.prog s t ht ho 0 i j (prog_seg t) hf
    rw [Nat.zero_add] at hp
    obtain ⟨_,hr⟩:=pth_rch (q0:=i) hp hi (by rw [Nat.zero_mul,Nat.zero_add]; exact .base)
    obtain ⟨h1,h2⟩:=spot_div (N:=s.length + 1) (k:=(t.cod 0).length) (a:=j) (by omega)
    refine ⟨_,hr,?_,h2⟩
    unfold dn
    rw [h1,prog_done]
    rfl
theorem run_ends (t : Rx) (ht : t.Ok) (ho : ∀ n ∈ t.flat,1 ≤ n.op ∧ n.op ≤ 9) (s : List UInt8) (i : Nat) (hi : i ≤ s.length) (l : List Nat) : RunR t.prog s i l ↔ EndsR s t i l:=by
  unfold RunR EndsR
  simp only [run_fit t ht ho s i _ hi]
end Go.Proofs.YtcjghhedphmhkaaGreatDoor

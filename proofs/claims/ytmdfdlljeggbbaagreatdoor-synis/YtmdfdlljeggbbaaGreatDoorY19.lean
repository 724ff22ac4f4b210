/- The landed writer: part at a tree; Print. Print, of the landed package syn: what is asked of it. The landed reader: more, misfitAt, sees, skip, take, close. The landed reader: digit. The text of a class of one byte; how a byte is held against its text. No function of the program. -/
import Derived.Test.YtmdfdlljeggbbaaGreatDoorY17
import Derived.Test.YtmdfdlljeggbbaaGreatDoorY18
import Derived.Test.YtmdfdlljeggbbaaGreatDoorY04
import Derived.Test.YtmdfdlljeggbbaaGreatDoorY14
import Derived.Defers
import Derived.Recover
import Derived.Test.YtmdfdlljeggbbaaGreatDoorY08
namespace Go.Proofs.YtmdfdlljeggbbaaGreatDoor
set_option linter.unusedSimpArgs false
set_option linter.unusedVariables false
set_option maxRecDepth 100000
open Go.RowKit
theorem textL_ne {k : C4} (hk : k.ok) : textL k ≠ [] := by
  obtain ⟨c, l, e, _⟩ := textL_head k hk []
  rw [List.append_nil] at e
  rw [e]
  simp
theorem top_pos : ∀ (t : Rx) (p q : List Nd), (p ++ t.flat ++ q)[p.length]? = some t.top
  | .leaf n, p, q => by simp [Rx.flat, Rx.top]
  | .one n a, p, q => by simp [Rx.flat, Rx.top]
  | .two n a b, p, q => by simp [Rx.flat, Rx.top]
theorem leaf_op {n : Nd} (h : prt n.op = 0) (hr : 1 ≤ n.op ∧ n.op ≤ 9) : n.op = 1 ∨ n.op = 2 ∨ n.op = 8 ∨ n.op = 9 := by
  have e3 : n.op ≠ 3 := by intro e; rw [e] at h; simp [prt] at h
  have e4 : n.op ≠ 4 := by intro e; rw [e] at h; simp [prt] at h
  have e5 : n.op ≠ 5 := by intro e; rw [e] at h; simp [prt] at h
  have e6 : n.op ≠ 6 := by intro e; rw [e] at h; simp [prt] at h
  have e7 : n.op ≠ 7 := by intro e; rw [e] at h; simp [prt] at h
  omega
/-- The first part of two that stand behind one another is not nothing. -/
theorem first_ne (t : Rx) (ht : t.Ok) (hr : ∀ n ∈ t.flat, (1 ≤ n.op ∧ n.op ≤ 9) ∧ n.c.ok) : brT (brk 3 t.top.op false) t.txt ≠ [] := by
  have br : ∀ s : List UInt8, brT true s ≠ [] := fun s => by simp [brT]
  have bn : ∀ (x : Bool) (s : List UInt8), s ≠ [] → brT x s ≠ [] := fun x s hs => by cases x <;> simp [brT, hs]
  cases t with
  | leaf n =>
    have hg := hr n (by simp [Rx.flat])
    rcases leaf_op ht hg.1 with h | h | h | h
    · apply bn; simp [Rx.txt, h, textL_ne hg.2]
    · rw [show (Rx.leaf n).top.op = 2 from h]; exact br _
    · apply bn; simp [Rx.txt, h]
    · apply bn; simp [Rx.txt, h]
  | one n a => apply bn; simp [Rx.txt]
  | two n a b =>
    rcases (prt_two n.op).1 ht.1 with h | h
    · rw [show (Rx.two n a b).top.op = 3 from h]; exact br _
    · rw [show (Rx.two n a b).top.op = 4 from h]; exact br _
theorem wpart_tree (b off cap : Nat) : ∀ (t : Rx), t.Ok → ∀ (p q : List Nd), (∀ n ∈ t.flat, (1 ≤ n.op ∧ n.op ≤ 9) ∧ n.c.ok) → (p ++ t.flat ++ q).length ≤ 60 → ∀ x, PartOk (p ++ t.flat ++ q) b off cap p.length (p.length + t.flat.length) x (brT x t.txt)
  | .leaf n, h, p, q, hr, hl => by
    intro x
    have hg := hr n (by simp [Rx.flat])
    have hat := top_pos (.leaf n) p q
    rw [show p.length + (Rx.leaf n).flat.length = p.length + 1 from rfl]
    rcases leaf_op h hg.1 with e | e | e | e
    · rw [show (Rx.leaf n).txt = textL n.c by simp [Rx.txt, e]]
      cases x
      · exact part_byte_no _ b off cap _ hl n hat e (textL_ne hg.2)
      · exact part_byte_yes _ b off cap _ hl n hat e (textL_ne hg.2)
    · rw [show (Rx.leaf n).txt = [] by simp [Rx.txt, e]]
      cases x
      · exact part_empty_no _ b off cap _ hl n hat e
      · exact part_empty_yes _ b off cap _ hl n hat e
    · rw [show (Rx.leaf n).txt = [94] by simp [Rx.txt, e]]
      cases x
      · exact part_begin_no _ b off cap _ hl n hat e
      · exact part_begin_yes _ b off cap _ hl n hat e
    · rw [show (Rx.leaf n).txt = [36] by simp [Rx.txt, e]]
      cases x
      · exact part_end_no _ b off cap _ hl n hat e
      · exact part_end_yes _ b off cap _ hl n hat e
  | .one n a, h, p, q, hr, hl => by
    intro x
    have hpos := top_pos (.one n a) p q
    have hap := top_pos a (p ++ [n]) q
    have ih := wpart_tree b off cap a h.2 (p ++ [n]) q (fun m hm => hr m (by simp [Rx.flat, hm])) (by simpa [Rx.flat] using hl) (brk n.op a.top.op false)
    have e : p ++ [n] ++ a.flat ++ q = p ++ (Rx.one n a).flat ++ q := by simp [Rx.flat]
    have ep : (p ++ [n]).length = p.length + 1 := by simp
    rw [e, ep] at ih hap
    have ek : p.length + 1 + a.flat.length = p.length + (Rx.one n a).flat.length := by simp [Rx.flat]; omega
    rw [ek] at ih
    have hop := (prt_one n.op).1 h.1
    have key : ∀ c, OneOk (p ++ (Rx.one n a).flat ++ q) b off cap p.length (p.length + (Rx.one n a).flat.length) c (brT (brk n.op a.top.op false) a.txt ++ [c]) := fun c => one_any' _ b off cap _ _ hl n a.top hpos hap hop c _ ih
    rcases hop with e | e | e
    · rw [show (Rx.one n a).txt = brT (brk n.op a.top.op false) a.txt ++ [42] by simp [Rx.txt, e, signT]]
      cases x
      · exact part_star_no _ b off cap _ _ hl n hpos e _ (key 42)
      · exact part_star_yes _ b off cap _ _ hl n hpos e _ (key 42)
    · rw [show (Rx.one n a).txt = brT (brk n.op a.top.op false) a.txt ++ [43] by simp [Rx.txt, e, signT]]
      cases x
      · exact part_plus_no _ b off cap _ _ hl n hpos e _ (key 43)
      · exact part_plus_yes _ b off cap _ _ hl n hpos e _ (key 43)
    · rw [show (Rx.one n a).txt = brT (brk n.op a.top.op false) a.txt ++ [63] by simp [Rx.txt, e, signT]]
      cases x
      · exact part_opt_no _ b off cap _ _ hl n hpos e _ (key 63)
      · exact part_opt_yes _ b off cap _ _ hl n hpos e _ (key 63)
  | .two n a b', h, p, q, hr, hl => by
    intro x
    have hpos := top_pos (.two n a b') p q
    have hap := top_pos a (p ++ [n]) (b'.flat ++ q)
    have hbp := top_pos b' (p ++ [n] ++ a.flat) q
    have ih := wpart_tree b off cap a h.2.1 (p ++ [n]) (b'.flat ++ q) (fun m hm => hr m (by simp [Rx.flat, hm])) (by simpa [Rx.flat] using hl) (brk n.op a.top.op false)
    have e : p ++ [n] ++ a.flat ++ (b'.flat ++ q) = p ++ (Rx.two n a b').flat ++ q := by simp [Rx.flat]
    have ep : (p ++ [n]).length = p.length + 1 := by simp
    rw [e, ep] at ih hap
    have ih2 := wpart_tree b off cap b' h.2.2 (p ++ [n] ++ a.flat) q (fun m hm => hr m (by simp [Rx.flat, hm])) (by simpa [Rx.flat] using hl) (brk n.op b'.top.op true)
    have e2 : p ++ [n] ++ a.flat ++ b'.flat ++ q = p ++ (Rx.two n a b').flat ++ q := by simp [Rx.flat]
    have ep2 : (p ++ [n] ++ a.flat).length = p.length + 1 + a.flat.length := by simp; omega
    rw [e2, ep2] at ih2 hbp
    have ek : p.length + 1 + a.flat.length + b'.flat.length = p.length + (Rx.two n a b').flat.length := by simp [Rx.flat]; omega
    rw [ek] at ih2
    have hpa := a.flat_pos
    have hop := (prt_two n.op).1 h.1
    have key : ∀ t, brT (brk n.op a.top.op false) a.txt ++ t ≠ [] → TwoOk (p ++ (Rx.two n a b').flat ++ q) b off cap p.length (p.length + (Rx.two n a b').flat.length) t (brT (brk n.op a.top.op false) a.txt ++ (t ++ brT (brk n.op b'.top.op true) b'.txt)) := fun t hne => two_any _ b off cap _ _ _ hl n a.top b'.top hpos hap hbp (by omega) hop _ t _ hne ih ih2
    rcases hop with e | e
    · have hne := first_ne a h.2.1 (fun m hm => hr m (by simp [Rx.flat, hm]))
      have k0 := key [] (by rw [e, List.append_nil]; exact hne)
      rw [show (Rx.two n a b').txt = brT (brk n.op a.top.op false) a.txt ++ ([] ++ brT (brk n.op b'.top.op true) b'.txt) by simp [Rx.txt, e]]
      cases x
      · exact part_cat_no _ b off cap _ _ hl n hpos e _ k0
      · exact part_cat_yes _ b off cap _ _ hl n hpos e _ k0
    · have k0 := key [124] (by simp)
      rw [show (Rx.two n a b').txt = brT (brk n.op a.top.op false) a.txt ++ ([124] ++ brT (brk n.op b'.top.op true) b'.txt) by simp [Rx.txt, e]]
      cases x
      · exact part_or_no _ b off cap _ _ hl n hpos e _ k0
      · exact part_or_yes _ b off cap _ _ hl n hpos e _ k0
end Go.Proofs.YtmdfdlljeggbbaaGreatDoor
namespace Go.Proofs.YtmdfdlljeggbbaaGreatDoor
set_option linter.unusedSimpArgs false
set_option linter.unusedVariables false
set_option maxRecDepth 100000
open Go.RowKit
theorem wrt_new (w : World) (nv : Value) (o : Obj) (ho : o = .cells #[.pointer none, .slice none 0 0, nv] 52 (0, 0)) : Wrt (w.alloc o) (w.heap.size + 1) w.heap.size nv [] := by
  refine ⟨.pointer none, .slice none 0 0, ?_, Or.inl rfl, ⟨rfl, Or.inl ⟨rfl, rfl⟩⟩, Nat.lt_succ_self _, fun _ => rfl⟩
  rw [ho]
  show (w.heap.push _)[w.heap.size]? = _
  simp
set_option maxHeartbeats 4000000 in
theorem print_bad (ns : List Nd) (v : Value) (w : World) (hN : NsIn w v ns) (hf : ¬ faultL ns = 0) : Calls Tryz.prog 6 #[v] w fun e w' => e = .returned (.tuple #[.string ⟨[].toArray⟩, errV (faultL ns)]) ∧ Below w.heap.size w w' := by
  have CC : Hid _ := rcheck_any ns v w hN
  obtain ⟨a, cap, rfl, hm, _⟩ := hN
  have he : errV (faultL ns) = .iface 23 (.int .i64 (faultL ns)) := by unfold errV; rw [if_neg hf]
  rw [he] at CC ⊢
  clear he hf
  go_enter Tryz.func6, Tryz.ntmps6
  go_wp2_with fail
  refine Calls.mono CC.out ?_
  rintro e w1 ⟨rfl, hb⟩
  have B1 : Hid _ := hb
  clear hb
  go_wp2
  go_ret2
  exact ⟨rfl, B1.out⟩
set_option maxHeartbeats 4000000 in
theorem print_ok (t : Rx) (v : Value) (w : World) (ht : t.Ok) (hN : NsIn w v t.flat) (hw : ∀ n ∈ t.flat, n.wf) (hf : faultL t.flat = 0) : Calls Tryz.prog 6 #[v] w fun e w' => e = .returned (.tuple #[.string ⟨(prtL t).toArray⟩, errV (prtE t)]) ∧ Below w.heap.size w w' := by
  have CC : Hid _ := rcheck_any t.flat v w hN
  obtain ⟨hl, hr, hv⟩ := (faultL_zero t.flat).1 hf
  obtain ⟨a, cap, rfl, hm, h | ⟨b, off, rfl, hlt, hn⟩⟩ := hN
  · have := t.flat_pos; rw [h] at this; simp at this
  have hP := wpart_tree b off cap t ht [] [] (fun n hn => ⟨(hr n hn).1, C4.wf_ok (hw n hn).2⟩) (by simpa using hl) false
  simp only [List.nil_append, List.append_nil, List.length_nil, Nat.zero_add, br_no] at hP
  have htl := Rx.txt_len t
  rw [hf, show errV 0 = .nilIface from rfl] at CC
  have HP : Hid (∀ w1 o, o = .cells #[.pointer none, .slice none 0 0, .slice (some ⟨b, off, none⟩) t.flat.length cap] 52 (0, 0) → Below w.heap.size w w1 → Calls Tryz.prog 16 #[.pointer (some ⟨w1.heap.size, 0, none⟩), .int .i64 0, .bool false] (w1.alloc o) fun e w' => e = .returned (.int .i64 (t.flat.length : Int)) ∧ Wrt w' (w1.heap.size + 1) w1.heap.size (.slice (some ⟨b, off, none⟩) t.flat.length cap) t.txt ∧ Below w1.heap.size (w1.alloc o) w') := by
    intro w1 o ho hb
    refine hP (w1.heap.size + 1) w1.heap.size [] (w1.alloc o) (wrt_new w1 _ o ho) (Nat.lt_of_lt_of_le hlt hb.size) ((hn.below hb hlt).below ((Below.refl _ _).alloc (Nat.le_refl _) o) (Nat.lt_of_lt_of_le hlt hb.size)) (by simp) (by simp; omega)
  clear hP hv hr hf hn hlt hw ht
  go_enter Tryz.func6, Tryz.ntmps6
  go_wp2_with fail
  refine Calls.mono CC.out ?_
  rintro e w1 ⟨rfl, hb⟩
  have B1 : Hid _ := hb
  clear hb
  go_wp2_with fail
  refine Calls.mono (HP.out _ _ rfl B1.out) ?_
  rintro e w2 ⟨rfl, hp, hb⟩
  have HP2 := hid hp
  have HB2 := hid (B1.out.trans (((Below.refl w1.heap.size w1).alloc (Nat.le_refl _) _).trans hb |>.mono B1.out.size))
  clear hp hb HP
  by_cases h200 : 200 < t.txt.length
  · have g200 : (200 : Int) < (t.txt.length : Int) := by omega
    have e1 : prtL t = [] := if_pos h200
    have e2 : prtE t = 3 := if_pos h200
    have E1 := hid e1
    have E2 := hid e2
    clear e1 e2 h200
    go_wp2_with fail
    refine Calls.mono (wLen _ _ _ _ _ HP2.out) ?_
    rintro e w3 ⟨rfl, rfl⟩
    go_wp2
    go_ret2
    exact ⟨by rw [E1.out, E2.out]; rfl, HB2.out⟩
  · have g200 : ¬ (200 : Int) < (t.txt.length : Int) := by omega
    have e1 : prtL t = t.txt := if_neg h200
    have e2 : prtE t = 0 := if_neg h200
    have E1 := hid e1
    have E2 := hid e2
    clear e1 e2 h200
    go_wp2_with fail
    refine Calls.mono (wLen _ _ _ _ _ HP2.out) ?_
    rintro e w3 ⟨rfl, rfl⟩
    go_wp2_with fail
    refine Calls.mono (wString _ _ _ _ _ HP2.out) ?_
    rintro e w4 ⟨rfl, hb4⟩
    have HB4 := hid (HB2.out.trans (hb4.mono (Nat.le_succ_of_le B1.out.size)))
    clear hb4
    go_wp2
    go_ret2
    exact ⟨by rw [E1.out, E2.out]; rfl, HB4.out⟩
/-- What is asked of Print. -/
theorem synP : SynP := ⟨fun ns v w hN _ hf => print_bad ns v w hN hf, fun t v w ht hN hw hf => print_ok t v w ht hN hw hf⟩
end Go.Proofs.YtmdfdlljeggbbaaGreatDoor
namespace Go.Proofs.YtmdfdlljeggbbaaGreatDoor
set_option linter.unusedSimpArgs false
set_option linter.unusedVariables false
set_option maxRecDepth 100000
open Go.RowKit
theorem ret_bool {a b : Bool} (h : a = b) : Ending.returned (.bool a) = .returned (.bool b) := by rw [h]
set_option maxHeartbeats 1000000 in
theorem more_any (g : Nat) (s : ByteArray) (a : Nat) (v : Value) (l : List UInt8) (w : World) (h : PA w g s a v l) :
    Calls Tryz.prog 39 #[.pointer (some ⟨g, 0, none⟩)] w fun e w' => e = .returned (.bool (decide (l ≠ []))) ∧ Below w.heap.size w w' := by
  obtain ⟨c0, c1, c2, c3, f1, f2, f3⟩ := h.rd.all
  have H : Hid (decide (a < s.size) = decide (l ≠ [])) := by
    show _ = _
    have := h.le
    cases l with
    | nil => simp at this ⊢; omega
    | cons c r => simp at this ⊢; omega
  clear h
  go_enter Tryz.func39, Tryz.ntmps39
  go_wp2_with fail
  go_quiet (fail)
  go_wp2
  go_ret
  exact ⟨ret_bool H.out, below_drewN' w nq⟩
set_option maxHeartbeats 1000000 in
theorem misfitAt_any (g : Nat) (s : ByteArray) (a : Int) (v : Value) (st : Bool) (z : Int) (w : World) (h : Rdr w g s a v st) :
    Calls Tryz.prog 40 #[.pointer (some ⟨g, 0, none⟩), .int .i64 z] w fun e w' => e = .returned (.agg #[.int .i64 z]) ∧ Stk w' g ∧ w.grownBy w' (some g) := by
  obtain ⟨c0, c1, c2, c3, f1, f2, f3⟩ := h.ca
  have hg := h.lt
  have H := hid h
  clear h
  have hne : ¬ g = w.heap.size := by omega
  have hne2 : ¬ w.heap.size = g := by omega
  go_enter Tryz.func40, Tryz.ntmps40
  go_wp2
  refine bodyPost_ret (v := .agg #[.int .i64 z]) (by simp [results, Tryz.results40, go_sem]) rfl ⟨rfl, ?_⟩
  exact ⟨⟨s, a, v, (H.out.setStuck true).alloc _⟩, grown_trans (grown_cell _ _ _ _) (grown_of_below ((Below.refl _ _).alloc (Nat.le_refl _) _) _)⟩
theorem more_nil (g : Nat) (s : ByteArray) (a : Nat) (v : Value) (w : World) (h : PA w g s a v []) :
    Calls Tryz.prog 39 #[.pointer (some ⟨g, 0, none⟩)] w fun e w' => e = .returned (.bool false) ∧ Below w.heap.size w w' := (more_any g s a v _ w h).mono fun _ _ x => ⟨x.1.trans (ret_bool (by simp)), x.2⟩
theorem more_cons (g : Nat) (s : ByteArray) (a : Nat) (v : Value) (c : UInt8) (r : List UInt8) (w : World) (h : PA w g s a v (c :: r)) :
    Calls Tryz.prog 39 #[.pointer (some ⟨g, 0, none⟩)] w fun e w' => e = .returned (.bool true) ∧ Below w.heap.size w w' := (more_any g s a v _ w h).mono fun _ _ x => ⟨x.1.trans (ret_bool (by simp)), x.2⟩
set_option maxHeartbeats 1000000 in
theorem rsees_any (g : Nat) (s : ByteArray) (a : Nat) (v : Value) (l : List UInt8) (b : UInt8) (z : Int) (hz : z = (b.toNat : Int)) (w : World) (h : PA w g s a v l) :
    Calls Tryz.prog 74 #[.pointer (some ⟨g, 0, none⟩), .int .u8 z] w fun e w' => e = .returned (.bool (decide (l.head? = some b))) ∧ Below w.heap.size w w' := by
  subst hz
  obtain ⟨c0, c1, c2, c3, f1, f2, f3⟩ := h.rd.all
  have d0 := cell_regrown c0
  have d1 := cell_regrown c1
  clear c0 c1 c2 c3 f1 f2 f3
  cases l with
  | nil =>
    have HM := hid fun d os => more_nil g s a v _ (h.below (below_regrown w d os))
    clear h
    go_enter Tryz.func74, Tryz.ntmps74
    go_wp2_with fail
    refine wp_region_quiet_below (by kernel_rfl) (by kernel_rfl) ?_
    repeat (go_big_quiet_step (first
      | (go_at_call 39; refine Calls.regrown_of (v := .bool false) ?_; exact HM.out _ _)))
    refine wpQuiet_nil ?_
    intro _ hw'
    obtain ⟨⟨dq, osq⟩, hw''⟩ := hw'
    have hb := below_regrown w dq osq
    subst hw''
    go_wp2
    go_ret
    exact ⟨rfl, hb⟩
  | cons c r =>
    obtain ⟨h1, _, h3⟩ := dropc _ _ _ _ h.at'
    have hi := str_idx s a c h1
    have HM := hid fun d os => more_cons g s a v c r _ (h.below (below_regrown w d os))
    clear h h1 h3
    by_cases hc : c = b
    · subst hc
      have e : ((c.toNat : Int) == (c.toNat : Int)) = true := by simp
      have HX : Hid (decide ((c :: r).head? = some c) = true) := by show _ = _; simp
      rw [HX.out]
      go_enter Tryz.func74, Tryz.ntmps74
      go_wp2_with fail
      refine wp_region_quiet_below (by kernel_rfl) (by kernel_rfl) ?_
      repeat (go_big_quiet_step (first
        | (go_at_call 39; refine Calls.regrown_of (v := .bool true) ?_; exact HM.out _ _)))
      refine wpQuiet_nil ?_
      intro _ hw'
      obtain ⟨⟨dq, osq⟩, hw''⟩ := hw'
      have hb := below_regrown w dq osq
      subst hw''
      go_wp2
      go_ret
      exact ⟨rfl, hb⟩
    · have e : ((c.toNat : Int) == (b.toNat : Int)) = false := by
        simp
        intro h
        exact hc (UInt8.toNat_inj.1 (by omega))
      have HX : Hid (decide ((c :: r).head? = some b) = false) := by show _ = _; simp [hc]
      rw [HX.out]
      go_enter Tryz.func74, Tryz.ntmps74
      go_wp2_with fail
      refine wp_region_quiet_below (by kernel_rfl) (by kernel_rfl) ?_
      repeat (go_big_quiet_step (first
        | (go_at_call 39; refine Calls.regrown_of (v := .bool true) ?_; exact HM.out _ _)))
      refine wpQuiet_nil ?_
      intro _ hw'
      obtain ⟨⟨dq, osq⟩, hw''⟩ := hw'
      have hb := below_regrown w dq osq
      subst hw''
      go_wp2
      go_ret
      exact ⟨rfl, hb⟩
set_option maxHeartbeats 1000000 in
theorem skip_no (g : Nat) (s : ByteArray) (a : Nat) (v : Value) (l : List UInt8) (b : UInt8) (z : Int) (hz : z = (b.toNat : Int)) (w : World) (h : PA w g s a v l) (hl : l.head? ≠ some b) :
    Calls Tryz.prog 58 #[.pointer (some ⟨g, 0, none⟩), .int .u8 z] w fun e w' => e = .returned (.bool false) ∧ Below w.heap.size w w' := by
  subst hz
  have HM := hid (rsees_any g s a v l b _ rfl w h)
  have HX : Hid (decide (l.head? = some b) = false) := by show _ = _; simp [hl]
  clear h hl
  go_enter Tryz.func58, Tryz.ntmps58
  go_wp2_with fail
  refine Calls.mono HM.out ?_
  rintro e w1 ⟨rfl, hb⟩
  rw [HX.out]
  go_wp2
  go_ret
  exact ⟨rfl, hb⟩
set_option maxHeartbeats 1000000 in
theorem skip_yes (g : Nat) (s : ByteArray) (a : Nat) (v : Value) (r : List UInt8) (b : UInt8) (z : Int) (hz : z = (b.toNat : Int)) (w : World) (h : PA w g s a v (b :: r)) :
    Calls Tryz.prog 58 #[.pointer (some ⟨g, 0, none⟩), .int .u8 z] w fun e w' => e = .returned (.bool true) ∧ PA w' g s (a + 1) v r ∧ w.grownBy w' (some g) := by
  subst hz
  have HM := hid (rsees_any g s a v _ b _ rfl w h)
  have HX : Hid (decide ((b :: r).head? = some b) = true) := by show _ = _; simp
  have HP := hid h
  clear h
  go_enter Tryz.func58, Tryz.ntmps58
  go_wp2_with fail
  refine Calls.mono HM.out ?_
  rintro e w1 ⟨rfl, hb⟩
  rw [HX.out]
  have hp := HP.out.below hb
  obtain ⟨c0, c1, c2, c3, f1, f2, f3⟩ := hp.rd.all
  have HP1 := hid hp
  clear hp
  have hadd : IntKind.i64.wrap ((a : Int) + 1) = ((a + 1 : Nat) : Int) := by
    have := HP.out.le
    have := HP.out.small
    rw [IntKind.wrap_i64]
    omega
  go_wp2
  go_ret
  exact ⟨rfl, HP1.out.next _ (by omega), grown_trans (grown_of_below hb _) (grown_cell _ _ _ _)⟩
set_option maxHeartbeats 1000000 in
theorem take_some (g : Nat) (s : ByteArray) (a : Nat) (v : Value) (c : UInt8) (r : List UInt8) (w : World) (h : PA w g s a v (c :: r)) :
    Calls Tryz.prog 91 #[.pointer (some ⟨g, 0, none⟩)] w fun e w' => e = .returned (.int .u8 (c.toNat : Int)) ∧ PA w' g s (a + 1) v r ∧ w.grownBy w' (some g) := by
  have HM := hid (more_cons g s a v c r w h)
  have HP := hid h
  have hi := str_idx s a c (dropc _ _ _ _ h.at').1
  clear h
  go_enter Tryz.func91, Tryz.ntmps91
  go_wp2_with fail
  refine Calls.mono HM.out ?_
  rintro e w1 ⟨rfl, hb⟩
  have hp := HP.out.below hb
  obtain ⟨c0, c1, c2, c3, f1, f2, f3⟩ := hp.rd.all
  have HP1 := hid hp
  have hadd : IntKind.i64.wrap ((a : Int) + 1) = ((a + 1 : Nat) : Int) := by
    have := HP.out.le
    have := HP.out.small
    rw [IntKind.wrap_i64]
    omega
  clear hp
  go_wp2
  have hp2 := HP1.out.next ((a : Int) + 1) (by omega)
  have hg2 := grown_cell w1 g 1 (.int .i64 ((a : Int) + 1))
  generalize w1.setCell ⟨g, 1, none⟩ (.int .i64 ((a : Int) + 1)) = w2 at *
  clear c0 c1 c2 c3 f1 f2 f3
  obtain ⟨c0, c1, c2, c3, f1, f2, f3⟩ := hp2.rd.all
  rw [show ((a + 1 : Nat) : Int) = (a : Int) + 1 from by omega] at c1
  have HP2 := hid hp2
  have hsub : IntKind.i64.wrap (a : Int) = (a : Int) := by
    have := HP.out.le
    have := HP.out.small
    rw [IntKind.wrap_i64]
    omega
  have hsub2 : (a : Int) + 1 - 1 = (a : Int) := by omega
  clear hp2
  go_quiet (fail)
  go_wp2
  go_ret
  exact ⟨rfl, HP2.out.below (below_drewN' w2 nq), grown_trans (grown_of_below hb _) (grown_trans hg2 (grown_of_below (below_drewN' w2 nq) _))⟩
set_option maxHeartbeats 1000000 in
theorem take_none (g : Nat) (s : ByteArray) (a : Nat) (v : Value) (w : World) (h : PA w g s a v []) :
    Calls Tryz.prog 91 #[.pointer (some ⟨g, 0, none⟩)] w fun e w' => e = .panicked (mis s.size) ∧ Stk w' g ∧ w.grownBy w' (some g) := by
  have HM := hid (more_nil g s a v w h)
  have HP := hid h
  have HA : Hid ((a : Int) = s.size) := by
    have := h.le
    simp at this
    show _ = _
    omega
  clear h
  go_enter Tryz.func91, Tryz.ntmps91
  go_wp2_with fail
  refine Calls.mono HM.out ?_
  rintro e w1 ⟨rfl, hb⟩
  have hp := HP.out.below hb
  obtain ⟨c0, c1, c2, c3, f1, f2, f3⟩ := hp.rd.all
  have HQ := hid (misfitAt_any g s a v false a w1 hp.rd)
  clear hp
  go_wp2_with fail
  refine Calls.mono HQ.out ?_
  rintro e w2 ⟨rfl, hs, hg⟩
  go_wp2
  refine ⟨rfl, ?_, hs, grown_trans (grown_of_below hb _) hg⟩
  rw [HA.out]
  rfl
set_option maxHeartbeats 1000000 in
theorem close_stuck (g : Nat) (z : Int) (u : FrameMode) (w : World) (h : Stk w g) :
    CallsD Tryz.prog 88 #[.pointer (some ⟨g, 0, none⟩), .int .u8 z] u w fun e u' w' => u' = u ∧ (e = .returned (.tuple #[]) ∧ Below w.heap.size w w') := by
  obtain ⟨s, a, v, hr⟩ := h
  obtain ⟨c0, c1, c2, c3, f1, f2, f3⟩ := hr.all
  clear hr
  go_enter_d Tryz.func88, Tryz.ntmps88
  go_wp2_with fail
  go_end0
  exact ⟨rfl, Below.refl _ _⟩
set_option maxHeartbeats 1000000 in
theorem close_yes (g : Nat) (s : ByteArray) (a : Nat) (v : Value) (r : List UInt8) (b : UInt8) (u : FrameMode) (w : World) (h : PA w g s a v (b :: r)) :
    CallsD Tryz.prog 88 #[.pointer (some ⟨g, 0, none⟩), .int .u8 (b.toNat : Int)] u w fun e u' w' => u' = u ∧ (e = .returned (.tuple #[]) ∧ PA w' g s (a + 1) v r ∧ w.grownBy w' (some g)) := by
  obtain ⟨c0, c1, c2, c3, f1, f2, f3⟩ := h.rd.all
  have HS := hid (skip_yes g s a v r b _ rfl w h)
  clear h
  go_enter_d Tryz.func88, Tryz.ntmps88
  go_wp2_with fail
  refine Calls.mono HS.out ?_
  rintro e w1 ⟨rfl, hp, hg⟩
  go_wp2
  go_end0
  exact ⟨rfl, hp, hg⟩
set_option maxHeartbeats 1000000 in
theorem close_no (g : Nat) (s : ByteArray) (a : Nat) (v : Value) (l : List UInt8) (b : UInt8) (u : FrameMode) (w : World) (h : PA w g s a v l) (hl : l.head? ≠ some b) :
    CallsD Tryz.prog 88 #[.pointer (some ⟨g, 0, none⟩), .int .u8 (b.toNat : Int)] u w fun e u' w' => u' = u ∧ (e = .panicked (mis ((s.size : Int) - (l.length : Int))) ∧ Stk w' g ∧ w.grownBy w' (some g)) := by
  obtain ⟨c0, c1, c2, c3, f1, f2, f3⟩ := h.rd.all
  have HS := hid (skip_no g s a v l b _ rfl w h hl)
  have HP := hid h
  have HA : Hid ((a : Int) = (s.size : Int) - (l.length : Int)) := by
    have := h.le
    show _ = _
    omega
  clear h hl
  go_enter_d Tryz.func88, Tryz.ntmps88
  go_wp2_with fail
  refine Calls.mono HS.out ?_
  rintro e w1 ⟨rfl, hb⟩
  have hp := HP.out.below hb
  clear c0 c1 c2 c3 f1 f2 f3
  obtain ⟨c0, c1, c2, c3, f1, f2, f3⟩ := hp.rd.all
  have HQ := hid (misfitAt_any g s a v false a w1 hp.rd)
  clear hp
  go_wp2_with fail
  refine Calls.mono HQ.out ?_
  rintro e w2 ⟨rfl, hs, hg⟩
  go_wp2
  refine ⟨rfl, ?_, hs, grown_trans (grown_of_below hb _) hg⟩
  rw [HA.out]
  rfl
end Go.Proofs.YtmdfdlljeggbbaaGreatDoor
namespace Go.Proofs.YtmdfdlljeggbbaaGreatDoor
set_option linter.unusedSimpArgs false
set_option linter.unusedVariables false
set_option maxRecDepth 100000
open Go.RowKit
def hexS : ByteArray := ⟨#[48, 49, 50, 51, 52, 53, 54, 55, 56, 57, 97, 98, 99, 100, 101, 102]⟩
def hxI (c : UInt8) : Int := match hx c with | some k => (k : Int) | none => -1
theorem hxI_idx_n : ∀ n : Nat, n < 256 → Lib.indexByte hexS.data.toList n.toUInt8 = hxI n.toUInt8 := by decide
theorem hxI_idx (c : UInt8) : Lib.indexByte hexS.data.toList (c.toNat : Int).toNat.toUInt8 = hxI c := by
  have h := hxI_idx_n c.toNat c.toNat_lt
  simpa using h
set_option maxHeartbeats 1000000 in
theorem digit_end (g : Nat) (s : ByteArray) (a : Nat) (v : Value) (f : Int) (w : World) (h : PA w g s a v []) :
    Calls Tryz.prog 92 #[.pointer (some ⟨g, 0, none⟩), .int .i64 f] w fun e w' => e = .panicked (mis s.size) ∧ Stk w' g ∧ w.grownBy w' (some g) := by
  have HM := hid (take_none g s a v w h)
  clear h
  go_enter Tryz.func92, Tryz.ntmps92
  go_wp2_with fail
  refine Calls.mono HM.out ?_
  rintro e w1 ⟨rfl, hs, hg⟩
  exact ⟨rfl, rfl, hs, hg⟩
set_option maxHeartbeats 1000000 in
theorem digit_ok (g : Nat) (s : ByteArray) (a : Nat) (v : Value) (c : UInt8) (r : List UInt8) (f : Int) (k : Nat) (hk : hx c = some k) (w : World) (h : PA w g s a v (c :: r)) :
    Calls Tryz.prog 92 #[.pointer (some ⟨g, 0, none⟩), .int .i64 f] w fun e w' => e = .returned (.int .u8 (k : Int)) ∧ PA w' g s (a + 1) v r ∧ w.grownBy w' (some g) := by
  have HM := hid (take_some g s a v c r w h)
  have hI : Hid (Lib.indexByte hexS.data.toList (c.toNat : Int).toNat.toUInt8 = (k : Int)) := by
    show _ = _
    rw [hxI_idx, hxI, hk]
  have hlt := hx_lt _ _ hk
  clear h hk
  go_enter Tryz.func92, Tryz.ntmps92
  go_wp2_with fail
  refine Calls.mono HM.out ?_
  rintro e w1 ⟨rfl, hp, hg⟩
  go_wp2_with fail
  refine Calls.mono (indexByte_any hexS _ _) ?_
  rintro e w2 ⟨rfl, rfl⟩
  rw [hI.out]
  have hn : ¬ (k : Int) < 0 := by omega
  have hw : IntKind.u8.wrap (k : Int) = (k : Int) := by rw [IntKind.wrap_u8]; omega
  go_wp2
  go_ret
  exact ⟨rfl, hp, hg⟩
set_option maxHeartbeats 1000000 in
theorem digit_bad (g : Nat) (s : ByteArray) (a : Nat) (v : Value) (c : UInt8) (r : List UInt8) (f : Int) (hk : hx c = none) (w : World) (h : PA w g s a v (c :: r)) :
    Calls Tryz.prog 92 #[.pointer (some ⟨g, 0, none⟩), .int .i64 f] w fun e w' => e = .panicked (mis f) ∧ Stk w' g ∧ w.grownBy w' (some g) := by
  have HM := hid (take_some g s a v c r w h)
  have hI : Hid (Lib.indexByte hexS.data.toList (c.toNat : Int).toNat.toUInt8 = -1) := by
    show _ = _
    rw [hxI_idx, hxI, hk]
  clear h hk
  go_enter Tryz.func92, Tryz.ntmps92
  go_wp2_with fail
  refine Calls.mono HM.out ?_
  rintro e w1 ⟨rfl, hp, hg⟩
  go_wp2_with fail
  refine Calls.mono (indexByte_any hexS _ _) ?_
  rintro e w2 ⟨rfl, rfl⟩
  rw [hI.out]
  go_wp2_with fail
  refine Calls.mono (misfitAt_any g s _ v false f _ hp.rd) ?_
  rintro e w2 ⟨rfl, hs, hg2⟩
  go_wp2
  exact ⟨rfl, rfl, hs, grown_trans hg hg2⟩
end Go.Proofs.YtmdfdlljeggbbaaGreatDoor
namespace Go.Proofs.YtmdfdlljeggbbaaGreatDoor
set_option linter.unusedSimpArgs false
set_option linter.unusedVariables false
set_option maxRecDepth 100000
open Go.RowKit
theorem cnt_at (i : Nat) : ∀ n, cnt (fun j => decide (j = i)) n = if i < n then 1 else 0
  | 0 => by simp [cnt]
  | n + 1 => by
    rw [cnt, cnt_at i n]
    by_cases h : n = i
    · subst h; simp
    · have : i < n + 1 ↔ i < n := by omega
      simp [h, this]
theorem single_has (i j : Nat) (hi : i < 256) (hj : j < 256) : (z4.add (i : Int)).has j = decide (j = i) := by
  rw [C4.has_add z4_ok i j hi hj, z4_has, Bool.false_or]
  exact decide_eq_decide.2 eq_comm
theorem text_single (c : UInt8) : textL (C4.ofL [c]) = bt c.toNat := by
  have hc : c.toNat < 256 := c.toNat_lt
  have e : C4.ofL [c] = z4.add (c.toNat : Int) := rfl
  rw [e]
  have hk : (z4.add (c.toNat : Int)).ok := C4.add_ok z4_ok _
  have hm : ((z4.add (c.toNat : Int)).many 4 == 1) = true := by
    rw [many_cnt hk, cnt_congr _ (fun j => decide (j = c.toNat)) 256 (fun j hj => single_has _ _ hc hj), cnt_at, if_pos hc]
    rfl
  have hd : (z4.add (c.toNat : Int)).eqb dotC = false := by
    cases h : (z4.add (c.toNat : Int)).eqb dotC
    · rfl
    · have h2 := (C4.eqb_iff _ _).1 h
      have h0 := single_has c.toNat 0 hc (by omega)
      have h1 := single_has c.toNat 1 hc (by omega)
      rw [h2] at h0 h1
      have d0 : dotC.has 0 = true := by decide
      have d1 : dotC.has 1 = true := by decide
      rw [d0] at h0
      rw [d1] at h1
      have a0 := of_decide_eq_true h0.symm
      have a1 := of_decide_eq_true h1.symm
      omega
  rw [textL_one _ hd hm]
  obtain ⟨b, hb, hr, hu⟩ := single_class hk hm
  rw [hr]
  have h1 := single_has c.toNat c.toNat hc hc
  rw [hu, single_has b c.toNat hb hc] at h1
  have : c.toNat = b := by simpa using h1
  rw [this]
/-- A byte is written as itself. -/
theorem bt_bare (c : UInt8) : (bt c.toNat = [c]) ↔ ¬ (c.toNat < 32 ∨ 126 < c.toNat ∨ c ∈ signL) := by
  have e : c.toNat.toUInt8 = c := by simp
  unfold bt
  rw [e]
  by_cases h : c.toNat < 32 ∨ 126 < c.toNat
  · rw [if_pos h]
    constructor
    · intro h2; simp at h2
    · intro h2; omega
  · rw [if_neg h]
    by_cases h2 : c ∈ signL
    · rw [if_pos h2]; simp [h2]
    · rw [if_neg h2]; simp only [true_iff]; rintro (h3 | h3 | h3) <;> first | omega | exact h2 h3
/-- A byte is written with a backslash. -/
theorem bt_esc (c : UInt8) : (bt c.toNat = [92, c]) ↔ c ∈ signL := by
  have e : c.toNat.toUInt8 = c := by simp
  unfold bt
  rw [e]
  by_cases h : c.toNat < 32 ∨ 126 < c.toNat
  · rw [if_pos h]
    constructor
    · intro h2; simp at h2
    · intro h2
      exfalso
      revert h h2
      have key : ∀ x ∈ signL, ¬ (x.toNat < 32 ∨ 126 < x.toNat) := by decide
      intro h h2
      exact key c h2 h
  · rw [if_neg h]
    by_cases h2 : c ∈ signL
    · rw [if_pos h2]; simp [h2]
    · rw [if_neg h2]; simp [h2]
end Go.Proofs.YtmdfdlljeggbbaaGreatDoor

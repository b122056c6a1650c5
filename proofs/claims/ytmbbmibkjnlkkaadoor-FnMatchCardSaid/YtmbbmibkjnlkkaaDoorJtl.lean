/- The contracts of impl.tells and impl.Match. -/
import Derived.Test.YtmbbmibkjnlkkaaDoorPgm
import Derived.Test.YtmbbmibkjnlkkaaDoorJso
namespace Go.Proofs.YtmbbmibkjnlkkaaDoor
open Go.ChangeShapes Go.WideShapes Go.ChangeAt Go.RowKit
theorem addr_add (b off k : Nat) : (⟨b, off, none⟩ : Addr).add k = ⟨b, off + k, none⟩ := by
  unfold Addr.add
  split <;> simp_all <;> omega
theorem StL.len {w : World} {a : Option Addr} {c n : Nat} {es : List Sg} (h : StL w (.slice a n c) es) : n = es.length := by
  obtain ⟨_, _, e⟩ := h.sl
  injection e
/-- The list behind its first k. -/
theorem StL.behind {w : World} {a : Option Addr} {c : Nat} {es : List Sg} (h : StL w (.slice a es.length c) es) (k : Nat) (hk : k ≤ es.length) (x : Option Addr) (c' : Nat) (hx : k < es.length → ∀ b off, a = some ⟨b, off, none⟩ → x = some ⟨b, off + k, none⟩) (hc : es.length - k ≤ c') : StL w (.slice x (es.length - k) c') (es.drop k) := by
  have := h.part k es.length hk (Nat.le_refl _) x hx c' hc
  rwa [List.take_length] at this
theorem okS_some {h l x : List Sg} (e : firstP h l = some x) (ho : okS l) : okS x := by
  obtain ⟨k, _, rfl⟩ := firstP_drop e
  exact okS_drop ho k
theorem box_store {w : World} {hb : Nat} {hv : Value} {t : TypeId} (h : w.heap[hb]? = some (.cells #[hv] t (0, 0))) (u : Value) : (w.setCell ⟨hb, 0, none⟩ u).heap[hb]? = some (.cells #[u] t (0, 0)) := by
  simp [World.setCell, Array.getElem?_modify, h]
set_option maxRecDepth 100000 in
set_option maxHeartbeats 16000000 in
/-- The pattern has no deep step. -/
theorem tells_no (w : World) (pv lv : Value) (p l : List Sg) (hP : StL w pv p) (hL : StL w lv l) (op : okS p) (ol : okS l) (np : p.length ≤ 1048576) (nl : l.length ≤ 1048576) (hR : cutR p = none) :
    Calls Tryd.prog 33 #[pv, lv] w fun e w' => e = .returned (.bool (matchP p l)) ∧ Below w.heap.size w w' := by
  have cC := cutDeep_any w w (Below.refl _ _) pv p hP op np
  obtain ⟨la, lc, rfl⟩ := hL.sl
  have HL : Hid (StL w (.slice la l.length lc) l ∧ okS l ∧ l.length ≤ 1048576) := ⟨hL, ol, nl⟩
  have HP : Hid (cutH p = p ∧ okS p ∧ p.length ≤ 1048576) := ⟨(cut_none hR).1, op, np⟩
  have HR : Hid (cutR p = none) := hR
  obtain ⟨ans, hans⟩ : ∃ ans, matchP p l = ans := ⟨_, rfl⟩
  have HA : Hid ((decide (p.length = l.length) && leadsP p l) = ans) := by show _ = _; rw [← hans, tells_plain hR]
  rw [hans]
  clear hP hL op ol np nl hR hans
  go_enter Tryd.func33, Tryd.ntmps33
  go_wp2_with fail
  refine cC.mono ?_
  rintro e w1 ⟨hv, rv, rfl, hh, -, hb1⟩
  obtain ⟨ha, hc, rfl⟩ := hh.sl
  have HH : Hid (StL w (.slice ha p.length hc) p) := by have := hh; rw [HP.out.1] at this; exact this
  obtain ⟨W, hW⟩ : ∃ W, w1.alloc (.cells #[.slice ha p.length hc] 47) = W := ⟨_, rfl⟩
  have hW2 : Below w1.heap.size w1 W := by rw [← hW]; exact (Below.refl _ w1).alloc (Nat.le_refl _) _
  have HB : Hid (Below w.heap.size w W) := hb1.trans (hW2.mono hb1.size)
  have HC : Hid (Calls Tryd.prog 53 #[.slice ha p.length hc, .slice la l.length lc] W fun e w' => e = .returned (.bool (leadsP p l)) ∧ Below W.heap.size W w') := leads_any W _ _ p l (HH.out.stays HB.out) (HL.out.1.stays HB.out) HP.out.2.1 HL.out.2.1 HP.out.2.2 HL.out.2.2
  have HW : Hid (w1.alloc (.cells #[.slice ha p.length hc] 47) = W) := hW
  have c0 : (w1.alloc (.cells #[.slice ha p.length hc] 47)).cell? ⟨w1.heap.size, 0, none⟩ = some (.slice ha p.length hc) := by rw [Lib.cell_of_heap (heap_alloc_new w1 _)]; rfl
  rw [HR.out, HP.out.1]
  simp only [Option.isSome_none]
  generalize leadsP p l = ld at *
  clear hW hW2 hb1 cC hh
  by_cases hpl : p.length = l.length
  · have t1 : ((p.length : Int) == (l.length : Int)) = true := by rw [beq_iff_eq]; omega
    have HO : Hid (ld = ans) := by show _ = _; rw [← HA.out, decide_eq_true hpl]; rfl
    rw [← hpl] at HC t1 ⊢
    clear hpl HA
    go_wp2_with fail
    rw [HW.out]
    refine HC.out.mono ?_
    rintro e w2 ⟨rfl, hb2⟩
    have HB2 : Hid (Below w.heap.size w w2) := HB.out.trans (hb2.mono HB.out.size)
    go_wp2_with fail
    go_ret
    exact ⟨ret_bJ HO.out, HB2.out⟩
  · have t1 : ((p.length : Int) == (l.length : Int)) = false := by rw [beq_eq_false_iff_ne]; omega
    have HO : Hid (false = ans) := by show _ = _; rw [← HA.out, decide_eq_false hpl]; rfl
    clear hpl HA HC
    go_wp2_with fail
    rw [HW.out]
    go_ret
    exact ⟨ret_bJ HO.out, HB.out⟩
/-- What the loop of tells keeps: the rest of the pattern behind a deep step, and the rest of the path. -/
structure TlI (w : World) (hb : Nat) (ans : Bool) (l r : List Sg) (lv rv : Value) (wr : World) : Prop where
  hl : StL w lv l
  hr : StL w rv r
  ol : okS l
  or_ : okS r
  nl : l.length ≤ 1048576
  nr : r.length ≤ 1048576
  m : matchP (deepS :: r) l = ans
  box : ∃ hv, wr.heap[hb]? = some (.cells #[hv] 47 (0, 0))
  below : Below w.heap.size w wr
  hi : w.heap.size ≤ hb
def sliceN : Value → Nat
  | .slice _ n _ => n
  | _ => 0
set_option maxRecDepth 100000 in
set_option maxHeartbeats 16000000 in
/-- The pattern has a deep step. -/
theorem tells_yes (w : World) (pv lv : Value) (p l r : List Sg) (hP : StL w pv p) (hL : StL w lv l) (op : okS p) (ol : okS l) (np : p.length ≤ 1048576) (nl : l.length ≤ 1048576) (hR : cutR p = some r) :
    Calls Tryd.prog 33 #[pv, lv] w fun e w' => e = .returned (.bool (matchP p l)) ∧ Below w.heap.size w w' := by
  have cC := cutDeep_any w w (Below.refl _ _) pv p hP op np
  obtain ⟨la, lc, rfl⟩ := hL.sl
  have HL : Hid (StL w (.slice la l.length lc) l ∧ okS l ∧ l.length ≤ 1048576) := ⟨hL, ol, nl⟩
  have HP : Hid (okS (cutH p) ∧ (cutH p).length ≤ 1048576 ∧ okS r ∧ r.length ≤ 1048576) := ⟨okS_cut op, by have := cut_len p; omega, okS_cutR hR op, by have := cutR_len hR; omega⟩
  have HR : Hid (cutR p = some r) := hR
  obtain ⟨ans, hans⟩ : ∃ ans, matchP p l = ans := ⟨_, rfl⟩
  have HA : Hid ((leadsP (cutH p) l && matchP (deepS :: r) (l.drop (cutH p).length)) = ans) := by show _ = _; rw [← hans, tells_deep hR]
  rw [hans]
  have lI : (l.length : Int) ≤ 1048576 := by omega
  clear hP hL op ol np nl hR hans
  go_enter Tryd.func33, Tryd.ntmps33
  go_wp2_with fail
  refine cC.mono ?_
  rintro e w1 ⟨hv, rv, rfl, hh, hr, hb1⟩
  obtain ⟨ha, hc, rfl⟩ := hh.sl
  rw [HR.out] at hr ⊢
  obtain ⟨ra, rc, rfl⟩ := hr.sl
  simp only [Option.isSome_some, Option.getD_some] at hr ⊢
  have HH : Hid (StL w (.slice ha (cutH p).length hc) (cutH p)) := hh
  have HRR : Hid (StL w (.slice ra r.length rc) r) := hr
  generalize cutH p = g at *
  obtain ⟨W, hW⟩ : ∃ W, w1.alloc (.cells #[.slice ha g.length hc] 47) = W := ⟨_, rfl⟩
  have hW2 : Below w1.heap.size w1 W := by rw [← hW]; exact (Below.refl _ w1).alloc (Nat.le_refl _) _
  have HB : Hid (Below w.heap.size w W) := hb1.trans (hW2.mono hb1.size)
  have HBX : Hid (W.heap[w1.heap.size]? = some (.cells #[.slice ha g.length hc] 47 (0, 0)) ∧ w.heap.size ≤ w1.heap.size) := ⟨by rw [← hW]; exact heap_alloc_new w1 _, hb1.size⟩
  have HC : Hid (Calls Tryd.prog 53 #[.slice ha g.length hc, .slice la l.length lc] W fun e w' => e = .returned (.bool (leadsP g l)) ∧ Below W.heap.size W w') := leads_any W _ _ g l (HH.out.stays HB.out) (HL.out.1.stays HB.out) HP.out.1 HL.out.2.1 HP.out.2.1 HL.out.2.2
  have HW : Hid (w1.alloc (.cells #[.slice ha g.length hc] 47) = W) := hW
  have c0 : (w1.alloc (.cells #[.slice ha g.length hc] 47)).cell? ⟨w1.heap.size, 0, none⟩ = some (.slice ha g.length hc) := by rw [Lib.cell_of_heap (heap_alloc_new w1 _)]; rfl
  clear hW hW2 hb1 cC hh hr
  go_wp2_with fail
  rw [HW.out]
  refine HC.out.mono ?_
  rintro e w2 ⟨rfl, hb2⟩
  have HB2 : Hid (Below w.heap.size w w2) := HB.out.trans (hb2.mono HB.out.size)
  have hx2 : w2.heap[w1.heap.size]? = some (.cells #[.slice ha g.length hc] 47 (0, 0)) := (hb2.block _ (Array.getElem?_eq_some_iff.1 HBX.out.1).1).trans HBX.out.1
  have c1 : w2.cell? ⟨w1.heap.size, 0, none⟩ = some (.slice ha g.length hc) := by rw [Lib.cell_of_heap hx2]; rfl
  have HX2 : Hid (w2.heap[w1.heap.size]? = some (.cells #[.slice ha g.length hc] 47 (0, 0)) ∧ w.heap.size ≤ w1.heap.size) := ⟨hx2, HBX.out.2⟩
  clear c0 HC HW HB hb2 hx2 HBX
  cases hld : leadsP g l with
  | false =>
    have HO : Hid (false = ans) := by show _ = _; rw [← HA.out, hld]; rfl
    clear hld HA
    go_wp2_with fail
    go_ret
    exact ⟨ret_bJ HO.out, HB2.out⟩
  | true =>
    have hlen := leads_len hld
    have HM : Hid (matchP (deepS :: r) (l.drop g.length) = ans ∧ g.length ≤ l.length) := ⟨by rw [← HA.out, hld]; rfl, hlen⟩
    have h1 : (g.length : Int) ≤ (l.length : Int) := by omega
    have HQ : Hid (∀ x c', (g.length < l.length → ∀ b off, la = some ⟨b, off, none⟩ → x = some ⟨b, off + g.length, none⟩) → l.length - g.length ≤ c' → TlI w w1.heap.size ans (l.drop g.length) r (.slice x (l.length - g.length) c') (.slice ra r.length rc) w2) := fun x c' hx hc' =>
      ⟨HL.out.1.behind g.length hlen x c' hx hc', HRR.out, okS_drop HL.out.2.1 _, HP.out.2.2.1, by have := HL.out.2.2; rw [List.length_drop]; omega, HP.out.2.2.2, HM.out.1, ⟨_, HX2.out.1⟩, HB2.out, HX2.out.2⟩
    have HCP2 : Hid (g.length < l.length → l.length ≤ lc) := fun h0 => HL.out.1.cap (fun e0 => by rw [e0] at h0; simp at h0)
    have HCP : Hid (lc = g.length → ¬ g.length < l.length) := by
      intro e h0
      have := HCP2.out h0
      omega
    clear hld HA hlen HL HH HRR HP HM HX2 HB2 HR
    go_wp2_with fail
    all_goals (
      go_loopw [1, 6] (fun lv2 rv2 wr => ∃ (l2 r2 : List Sg) (a : Option Addr) (n c : Nat) (a2 : Option Addr) (n2 c2 : Nat), lv2 = .slice a n c ∧ rv2 = .slice a2 n2 c2 ∧ Hid (TlI w w1.heap.size ans l2 r2 (.slice a n c) (.slice a2 n2 c2) wr)) (fun _ rv2 _ => sliceN rv2)
      case atStart =>
        first
          | exact ⟨l.drop g.length, r, _, _, _, _, _, _, rfl, rfl, HQ.out _ _ (fun h0 => absurd h0 (HCP.out (by assumption))) (by have := HCP.out (by assumption); omega)⟩
          | exact ⟨l.drop g.length, r, _, _, _, _, _, _, rfl, rfl, HQ.out _ _ (fun _ b off e => by rw [e]; simp [addr_add]) (by have := HCP2.out; omega)⟩
      case round =>
        clear HQ HCP HCP2 c1 h1
        obtain ⟨l2, r2, a, n, c, a2, n2, c2, rfl, rfl, HI⟩ := hrel
        obtain rfl := HI.out.hl.len
        obtain rfl := HI.out.hr.len
        have l2I : (l2.length : Int) ≤ 1048576 := by have := HI.out.nl; omega
        have cC := cutDeep_any w wr HI.out.below _ r2 HI.out.hr HI.out.or_ HI.out.nr
        obtain ⟨hv0, hbx⟩ := HI.out.box
        have HBX : Hid (wr.heap[w1.heap.size]? = some (.cells #[hv0] 47 (0, 0))) := hbx
        clear hbx
        go_wp2_with fail
        refine cC.mono ?_
        rintro e w3 ⟨hv3, rv3, rfl, hh, hr, hb3⟩
        obtain ⟨ha3, hc3, rfl⟩ := hh.sl
        have hx3 : w3.heap[w1.heap.size]? = some (.cells #[hv0] 47 (0, 0)) := (hb3.block _ (Array.getElem?_eq_some_iff.1 HBX.out).1).trans HBX.out
        have fz : w3.frozen? ⟨w1.heap.size, 0, none⟩ = false := Lib.frozen_of_heap hx3 0
        have cb : w3.cell? ⟨w1.heap.size, 0, none⟩ = some hv0 := by rw [Lib.cell_of_heap hx3]; rfl
        obtain ⟨W, hW⟩ : ∃ W, w3.setCell ⟨w1.heap.size, 0, none⟩ (.slice ha3 (cutH r2).length hc3) = W := ⟨_, rfl⟩
        have HW : Hid (w3.setCell ⟨w1.heap.size, 0, none⟩ (.slice ha3 (cutH r2).length hc3) = W) := hW
        have HWX : Hid (W.heap[w1.heap.size]? = some (.cells #[.slice ha3 (cutH r2).length hc3] 47 (0, 0))) := by
          show _ = _
          rw [← hW]; exact box_store hx3 _
        have HWB : Hid (Below w.heap.size w W) := by
          show Below _ _ _
          rw [← hW]; exact (HI.out.below.trans (hb3.mono HI.out.below.size)).setCell HI.out.hi _
        have c5 : (w3.setCell ⟨w1.heap.size, 0, none⟩ (.slice ha3 (cutH r2).length hc3)).cell? ⟨w1.heap.size, 0, none⟩ = some (.slice ha3 (cutH r2).length hc3) := by rw [Lib.cell_of_heap (box_store hx3 _)]; rfl
        have HH : Hid (StL w (.slice ha3 (cutH r2).length hc3) (cutH r2) ∧ okS (cutH r2) ∧ (cutH r2).length ≤ 1048576) := ⟨hh, okS_cut HI.out.or_, by have := cut_len r2; have := HI.out.nr; omega⟩
        have HR : Hid (StL w rv3 ((cutR r2).getD [])) := hr
        clear hW hb3 hx3 hh hr cC HBX
        cases hR : cutR r2 with
        | none =>
          rw [hR] at HR
          simp only [Option.isSome_none]
          have hcut := (cut_none hR).1
          have HA : Hid ((decide (r2.length ≤ l2.length) && leadsP r2 (l2.drop (l2.length - r2.length))) = ans) := by show _ = _; rw [← loop_last hR, HI.out.m]
          rw [hcut] at HH HW HWX c5 ⊢
          clear hcut hR HR
          have d0 : ∀ m : Bw W, m.val.cell? ⟨w1.heap.size, 0, none⟩ = some (.slice ha3 r2.length hc3) := fun m => by rw [Lib.cell_of_heap ((m.ok.block _ (Array.getElem?_eq_some_iff.1 HWX.out).1).trans HWX.out)]; rfl
          have hne := Bw.some W
          by_cases hle : r2.length ≤ l2.length
          · have h1 : (r2.length : Int) ≤ (l2.length : Int) := by omega
            have HO : Hid (leadsP r2 (l2.drop (l2.length - r2.length)) = ans) := by show _ = _; rw [← HA.out, decide_eq_true hle]; rfl
            obtain ⟨q, hq⟩ : ∃ q, l2.length - r2.length = q := ⟨_, rfl⟩
            have hqi : (l2.length : Int) - (r2.length : Int) = (q : Int) := by omega
            have hql : (q : Int) ≤ (l2.length : Int) := by omega
            have hqn : q ≤ l2.length := by omega
            rw [hq] at HO
            have hC : ∀ (x : Option Addr) (n c' : Nat), n = l2.length - q → (q < l2.length → ∀ b off, a = some ⟨b, off, none⟩ → x = some ⟨b, off + q, none⟩) → l2.length - q ≤ c' → ∀ m : Bw W, Calls Tryd.prog 53 #[.slice ha3 r2.length hc3, .slice x n c'] m.val fun e w' => e = .returned (.bool (leadsP r2 (l2.drop q))) ∧ ∃ m' : Bw W, w' = m'.val := fun x n c' hn hx hc' m => by
              subst hn
              exact Bw.calls (w := W) (fun w' hw' => leads_any w' _ _ r2 (l2.drop q) (HH.out.1.stays (HWB.out.trans (hw'.mono HWB.out.size))) ((HI.out.hl.behind q hqn x c' hx hc').stays (HWB.out.trans (hw'.mono HWB.out.size))) HH.out.2.1 (okS_drop HI.out.ol q) HH.out.2.2 (by rw [List.length_drop]; have := HI.out.nl; omega)) m
            have hcap : q < l2.length → l2.length ≤ c := fun h0 => HI.out.hl.cap (fun e0 => by rw [e0] at h0; simp at h0)
            rw [HO.out] at hC
            clear HA HI HH hq
            go_wp2_with fail
            rw [HW.out]
            refine wp_region_bw (w0 := W) (by kernel_rfl) (by kernel_rfl) (Below.refl _ _) ?_
            repeat (go_big_quiet_step ((go_at_call 53; first | exact hC _ _ _ (by omega) (fun h0 b off e => by rw [if_neg (fun ec => absurd (hcap h0) (by omega)), e]; simp [addr_add]) (by omega) _ | exact hC _ _ _ (by omega) (fun _ b off e => by rw [e]; simp [addr_add]) (by omega) _ | exact hC _ _ _ (by omega) (fun h0 => absurd (hcap h0) (by omega)) (by omega) _)))
            all_goals (
              refine wpQuiet_nil ?_
              rintro _ ⟨m, rfl⟩
              have HO2 : Hid (Below w.heap.size w m.val) := HWB.out.trans (m.ok.mono HWB.out.size)
              generalize m.val = w5 at *
              clear hne d0 hC
              go_wp2_with fail
              all_goals (
                go_ret
                exact ⟨rfl, HO2.out⟩))
          · have h1 : ¬ (r2.length : Int) ≤ (l2.length : Int) := by omega
            have HO : Hid (false = ans) := by show _ = _; rw [← HA.out, decide_eq_false hle]; rfl
            have hlt : (l2.length : Int) < (r2.length : Int) := by omega
            clear HA HI HH
            go_wp2_with fail
            rw [HW.out]
            refine wp_region_bw (w0 := W) (by kernel_rfl) (by kernel_rfl) (Below.refl _ _) ?_
            repeat (go_big_quiet_step (fail))
            refine wpQuiet_nil ?_
            rintro _ ⟨m, rfl⟩
            have HO2 : Hid (Below w.heap.size w m.val) := HWB.out.trans (m.ok.mono HWB.out.size)
            generalize m.val = w5 at *
            clear hne d0
            go_wp2_with fail
            go_ret
            exact ⟨ret_bJ HO.out, HO2.out⟩
        | some r3 =>
          rw [hR] at HR
          simp only [Option.getD_some] at HR
          obtain ⟨ra3, rc3, rfl⟩ := HR.out.sl
          simp only [Option.isSome_some]
          have HA : Hid ((match firstP (cutH r2) l2 with | none => false | some x => matchP (deepS :: r3) (x.drop (cutH r2).length)) = ans) := by
            have := HI.out.m
            rw [loop_deep hR] at this
            exact this
          have HR3 : Hid (okS r3 ∧ r3.length ≤ 1048576 ∧ r3.length < r2.length) := ⟨okS_cutR hR HI.out.or_, by have := cutR_len hR; have := HI.out.nr; omega, cutR_len hR⟩
          have HF : Hid (Calls Tryd.prog 54 #[.slice a l2.length c, .func (.func 55) #[] #[.pointer (some ⟨w1.heap.size, 0, none⟩)]] W fun e w' => FstA (cutH r2) l2 w W e w') := firstSuffix_any w W HWB.out w1.heap.size _ _ (cutH r2) l2 HWX.out HH.out.1 HI.out.hl HH.out.2.1 HI.out.ol HH.out.2.2 HI.out.nl
          clear hR
          generalize cutH r2 = g2 at *
          go_wp2_with fail
          rw [HW.out]
          refine HF.out.mono ?_
          rintro e w4 ⟨xv, rfl, hxs, hb4⟩
          have HB4 : Hid (Below w.heap.size w w4) := HWB.out.trans (hb4.mono HWB.out.size)
          have hx4 : w4.heap[w1.heap.size]? = some (.cells #[.slice ha3 g2.length hc3] 47 (0, 0)) := (hb4.block _ (Array.getElem?_eq_some_iff.1 HWX.out).1).trans HWX.out
          have c6 : w4.cell? ⟨w1.heap.size, 0, none⟩ = some (.slice ha3 g2.length hc3) := by rw [Lib.cell_of_heap hx4]; rfl
          have HX4 : Hid (w4.heap[w1.heap.size]? = some (.cells #[.slice ha3 g2.length hc3] 47 (0, 0)) ∧ w.heap.size ≤ w1.heap.size) := ⟨hx4, HI.out.hi⟩
          have HOL : Hid (okS l2 ∧ l2.length ≤ 1048576) := ⟨HI.out.ol, HI.out.nl⟩
          clear hx4 hb4 HF c5 fz cb HW HWX HI HWB
          cases hf : firstP g2 l2 with
          | none =>
            have HO : Hid (false = ans) := by show _ = _; rw [← HA.out, hf]
            clear hf HA hxs
            simp only [Option.isSome_none]
            go_wp2_with fail
            go_ret
            exact ⟨ret_bJ HO.out, HB4.out⟩
          | some x =>
            rw [hf] at hxs
            simp only [Option.getD_some] at hxs
            obtain ⟨xa, xc, rfl⟩ := hxs.sl
            have hgl := leads_len (firstP_leads hf)
            have h1 : (g2.length : Int) ≤ (x.length : Int) := by omega
            have hxl : x.length ≤ l2.length := by obtain ⟨k, _, rfl⟩ := firstP_drop hf; rw [List.length_drop]; omega
            have xI : (x.length : Int) ≤ 1048576 := by have := HOL.out.2; omega
            have HQ : Hid (∀ y n c', n = x.length - g2.length → (g2.length < x.length → ∀ b off, xa = some ⟨b, off, none⟩ → y = some ⟨b, off + g2.length, none⟩) → x.length - g2.length ≤ c' → TlI w w1.heap.size ans (x.drop g2.length) r3 (.slice y n c') (.slice ra3 r3.length rc3) w4) := fun y n c' hn hy hc' => by
              subst hn
              exact ⟨hxs.behind g2.length hgl y c' hy hc', HR.out, okS_drop (okS_some hf HOL.out.1) _, HR3.out.1, by have := HOL.out.2; rw [List.length_drop]; omega, HR3.out.2.1, by have := HA.out; rw [hf] at this; exact this, ⟨_, HX4.out.1⟩, HB4.out, HX4.out.2⟩
            have HCP : Hid (g2.length < x.length → x.length ≤ xc) := fun h0 => hxs.cap (fun e0 => by rw [e0] at h0; simp at h0)
            clear hf HA hxs hgl hxl HX4 HB4
            simp only [Option.isSome_some]
            go_wp2_with fail
            all_goals (
              go_roundw
              case rel =>
                first
                  | exact ⟨x.drop g2.length, r3, _, _, _, _, _, _, rfl, rfl, HQ.out _ _ _ (by omega) (fun h0 => absurd (HCP.out h0) (by omega)) (by omega)⟩
                  | exact ⟨x.drop g2.length, r3, _, _, _, _, _, _, rfl, rfl, HQ.out _ _ _ (by omega) (fun h0 b off e => by rw [if_neg (fun ec => absurd (HCP.out h0) (by omega)), e]; simp [addr_add]) (by have := HCP.out; omega)⟩
              case measure => have := HR3.out.2.2; simp [sliceN]; omega))
theorem tells_any (w : World) (pv lv : Value) (p l : List Sg) (hP : StL w pv p) (hL : StL w lv l) (op : okS p) (ol : okS l) (np : p.length ≤ 1048576) (nl : l.length ≤ 1048576) :
    Calls Tryd.prog 33 #[pv, lv] w fun e w' => e = .returned (.bool (matchP p l)) ∧ Below w.heap.size w w' := by
  cases h : cutR p with
  | none => exact tells_no w pv lv p l hP hL op ol np nl h
  | some r => exact tells_yes w pv lv p l r hP hL op ol np nl h
end Go.Proofs.YtmbbmibkjnlkkaaDoor

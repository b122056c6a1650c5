/- Several texts in one: Jph Jsq Jpo Jpp. -/
import Derived.Test.YtmbbmibkjnlkkaaZpt
import Derived.Test.YtmbbmibkjnlkkaaZpb
import Derived.Test.YtmbbmibkjnlkkaaZpd
import Derived.Test.YtmbbmibkjnlkkaaZpg
import Derived.Test.YtmbbmibkjnlkkaaZpr
/- The contract of guide.path. -/
namespace Go.Proofs.Ytmbbmibkjnlkkaa
open Go.ChangeShapes Go.WideShapes Go.ChangeAt Go.RowKit Go.Maps
theorem infoStepP : (Try.prog.info? 71).map (fun i => (i.zero, i.size, i.bytes)) = some (some .nilIface, 1, 16) := by kernel_rfl
theorem stepP_iface (s : Sg) : ∃ T v, stepP s = .iface T v := by
  unfold stepP
  split
  · exact ⟨_, _, rfl⟩
  split
  · exact ⟨_, _, rfl⟩
  · exact ⟨_, _, rfl⟩
def zeroS : Sea := ⟨0, 0, 0⟩
def seaZ (es : List Ev) (m : Int) : Sea := (seatE es m).getD zeroS
/-- What a seat is. -/
theorem sea_ok {es : List Ev} {m : Int} {s : Sea} (h : seatE es m = some s) : ∃ u : Nat, s.up = (u : Int) ∧ (u : Int) < m ∧ u < es.length ∧ s.nth ≤ es.length ∧ -1 ≤ s.ahead ∧ s.ahead < (es.length : Int) := by
  unfold seatE at h
  split at h
  · unfold seatF at h
    split at h
    · rename_i hc
      injection h with h
      subst h
      have hlt := upG_lt es m.toNat 0
      have hk := kidsA_le es (upG es m.toNat 0) m.toNat
      refine ⟨(upG es m.toNat 0).toNat, ?_, ?_, ?_, ?_, ?_, ?_⟩
      · show upG es m.toNat 0 = _
        have := hc.2.2.2
        omega
      · have := hc.2.2.2; omega
      · have := hc.2.2.2; omega
      · show (kidsA es (upG es m.toNat 0) m.toNat).length ≤ _
        omega
      · show -1 ≤ lastI _
        unfold lastI
        split <;> omega
      · show lastI _ < _
        unfold lastI
        split
        · omega
        · rename_i a ha
          have := (kids_last ha).2.1
          omega
    · cases h
  · cases h
/-- How far the way up was gone. -/
structure PtI (es : List Ev) (G BS BL BN B2 : Nat) (a : Option Addr) (ca : Nat) (w : World) (lo : Nat) (total : List Sg) (m : Int) (f : Nat) (acc : List Sg) (sv : Value) (S : Nat) (wr : World) : Prop where
  gu : GuW es G BS BL BN B2 a ca wr
  row : wr.ownsRow lo 71 1 sv acc.length (acc.map stepP)
  tot : acc ++ chainE es f m = total
  fu : m < (f : Int) ∧ acc.length + f ≤ es.length + 1
  box : wr.heap[S]? = some (.cells #[.int .i64 (seaZ es m).up, .int .i64 ((seaZ es m).nth : Int), .int .i64 (seaZ es m).ahead] 77 (0, 0))
  below : Below w.heap.size w wr
  ns : sv.ownBlock ≠ some S
  ni : acc = [] → sv = .slice none 0 0
  slo : lo ≤ S
theorem fill3 {w wr : World} {lo S : Nat} {x0 y0 z0 : Value} (hb : Below lo w wr) (hS : lo ≤ S) (hz : wr.heap[S]? = some (.cells #[x0, y0, z0] 77 (0, 0))) (x y z : Value) (W : World) (hW : W = ((wr.setCell ⟨S, 0, none⟩ x).setCell ⟨S, 1, none⟩ y).setCell ⟨S, 2, none⟩ z) :
    W.heap[S]? = some (.cells #[x, y, z] 77 (0, 0)) ∧ Below lo w W := by
  subst hW
  refine ⟨?_, ((hb.setCell hS _).setCell hS _).setCell hS _⟩
  simp [World.setCell, Array.getElem?_modify, hz]
theorem pt_start {es : List Ev} {G BS BL BN B2 : Nat} {a : Option Addr} {ca : Nat} {w wr : World} {total : List Sg} {m : Int} {S : Nat} (h : GuW es G BS BL BN B2 a ca w) (ht : chainE es (es.length + 1) m = total) (hm : m < ((es.length + 1 : Nat) : Int)) (hS : w.heap.size ≤ S)
    (h2 : wr.heap[S]? = some (.cells #[.int .i64 (seaZ es m).up, .int .i64 ((seaZ es m).nth : Int), .int .i64 (seaZ es m).ahead] 77 (0, 0)) ∧ Below w.heap.size w wr) :
    PtI es G BS BL BN B2 a ca w w.heap.size total m (es.length + 1) [] (.slice none 0 0) S wr :=
  ⟨h.stays h2.2, World.ownsRow_nil _ _ _ _, ht, ⟨hm, by simp⟩, h2.1, h2.2, (fun e => by cases e), fun _ => rfl, hS⟩
theorem own_lt {w : World} {lo : Nat} {e : TypeId} {sz : Nat} {v : Value} {n : Nat} {xs : List Value} (h : w.ownsRow lo e sz v n xs) : v.ownBlock ≠ some w.heap.size := by
  rcases h.2 with ⟨e, _⟩ | ⟨g2, cap2, cur, e, hb, hg, _⟩
  · subst e
    intro h; cases h
  · subst e
    intro h
    injection h with h
    have h2 := (Array.getElem?_eq_some_iff.1 hg).1
    have h3 : g2 = w.heap.size := h
    omega
theorem pt_step {es : List Ev} {G BS BL BN B2 : Nat} {a : Option Addr} {ca : Nat} {w wr w6 W9 : World} {total acc : List Sg} {m : Int} {S g : Nat} {s : Sea} {sv sv6 : Value} (h : GuW es G BS BL BN B2 a ca w) (HI : PtI es G BS BL BN B2 a ca w w.heap.size total m (g + 1) acc sv S wr)
    (hch : chainE es (g + 1) m = stepT es s :: chainE es g s.up) (hsg : s.up < (g : Int)) (h6b : Below w.heap.size w w6) (h6o : w6.ownsRow w.heap.size 71 1 sv6 (acc.length + 1) (acc.map stepP ++ [stepP (stepT es s)]))
    (h9 : W9.heap[w6.heap.size]? = some (.cells #[.int .i64 (seaZ es s.up).up, .int .i64 ((seaZ es s.up).nth : Int), .int .i64 (seaZ es s.up).ahead] 77 (0, 0)) ∧ Below w6.heap.size w6 W9) :
    PtI es G BS BL BN B2 a ca w w.heap.size total s.up g (acc ++ [stepT es s]) sv6 w6.heap.size W9 := by
  have hb9 : Below w.heap.size w W9 := h6b.trans (h9.2.mono h6b.size)
  refine ⟨h.stays hb9, ?_, ?_, ⟨hsg, ?_⟩, h9.1, hb9, own_lt h6o, fun e => ?_, h6b.size⟩
  · rw [List.length_append, List.map_append]
    exact row_stays h6o h9.2
  · have := HI.tot
    rw [hch] at this
    rw [List.append_assoc]
    exact this
  · have := HI.fu.2
    rw [List.length_append, List.length_singleton]
    omega
  · simp at e
theorem chain_more {es : List Ev} {f : Nat} {m : Int} {s : Sea} (h : seatE es m = some s) (hf : m < (f : Int)) : ∃ g, f = g + 1 ∧ chainE es f m = stepT es s :: chainE es g s.up ∧ s.up < (g : Int) := by
  obtain ⟨u, h1, h2, h3, _⟩ := sea_ok h
  cases f with
  | zero => omega
  | succ g =>
    refine ⟨g, rfl, ?_, by omega⟩
    rw [chainE, h]
theorem chain_end {es : List Ev} {f : Nat} {m : Int} (h : seatE es m = none) : chainE es f m = [] := by
  cases f with
  | zero => rfl
  | succ g => rw [chainE, h]
theorem forF_in (es : List Ev) (i : Int) : -1 ≤ forF es i → forF es i < (es.length : Int) → True := fun _ _ => trivial
theorem sea_look {es : List Ev} {BS n : Nat} {w : World} (h : MapM Try.prog 3 dkey Sea.val w BS n (seatE es)) (m : Int) (wm : (Lit.int .i64 m).wf = true) :
    (Instr.lookup 73 (.map (some BS)) (.int .i64 m) true).run Try.prog w = .ok (.tuple #[.agg #[.int .i64 (seaZ es m).up, .int .i64 ((seaZ es m).nth : Int), .int .i64 (seaZ es m).ahead], .bool (seatE es m).isSome]) w := by
  cases hs : seatE es m with
  | none =>
    have := h.look_no dkeyed Try.underlying73 (zeroSea w) (dkey_mk wm) hs
    unfold seaZ
    rw [hs]
    exact this
  | some s =>
    have := h.look_yes dkeyed Try.underlying73 (zeroSea w) (dkey_mk wm) hs
    unfold seaZ
    rw [hs]
    exact this
set_option maxRecDepth 100000 in
set_option maxHeartbeats 16000000 in
theorem reverse_nil (w : World) : Calls Try.prog 41 #[.slice none 0 0] w fun r w' => r = .returned (.tuple #[]) ∧ Below w.heap.size w w' := by
  have HB : Hid (Below w.heap.size w w) := Below.refl _ _
  go_enter Try.func41, Try.ntmps41
  go_wp2_with fail
  go_loopw [2, 3] (fun iv jv wr => iv = .int .i64 0 ∧ jv = .int .i64 (-1) ∧ Hid (Below w.heap.size w wr)) (fun _ _ _ => 0)
  case atStart => exact ⟨rfl, by go_num, HB⟩
  case round =>
    obtain ⟨rfl, rfl, HB2⟩ := hrel
    go_wp2_with fail
    go_end0
    exact ⟨rfl, HB2.out⟩
set_option maxRecDepth 100000 in
set_option maxHeartbeats 16000000 in
theorem path_any (es : List Ev) (G BS BL BN B2 : Nat) (a : Option Addr) (ca : Nat) (w : World) (h : GuW es G BS BL BN B2 a ca w) (hl : totE es + es.length ≤ 1048576) (hf : ∀ e ∈ es, wfE e) (i : Int) (wi : (Lit.int .i64 i).wf = true) :
    Calls Try.prog 26 #[.pointer (some ⟨G, 0, none⟩), .int .i64 i] w fun r w' => ∃ v, r = .returned v ∧ w'.ownsRow w.heap.size 71 1 v (chainE es (es.length + 1) (forF es i)).length ((chainE es (es.length + 1) (forF es i)).map stepP).reverse ∧ Below w.heap.size w w' := by
  obtain ⟨total, ht⟩ : ∃ t, chainE es (es.length + 1) (forF es i) = t := ⟨_, rfl⟩
  rw [ht]
  obtain ⟨m0, hm⟩ : ∃ m, forF es i = m := ⟨_, rfl⟩
  rw [hm] at ht
  have HT : Hid (chainE es (es.length + 1) m0 = total) := ht
  have HL : Hid (totE es + es.length ≤ 1048576) := hl
  have wm0 : (Lit.int .i64 m0).wf = true := by
    rw [← hm]
    unfold forF
    split
    · exact wi
    · have h1 := upOf_in es i
      split
      · exact WalkArith.wf_i64 (by omega)
      · split
        · exact WalkArith.wf_i64 (by omega)
        · rename_i x hx _
          unfold lastE at hx
          split at hx
          · unfold lastF at hx
            split at hx
            · cases hx
            · have := (kids_last hx).2.1
              exact WalkArith.wf_i64 (by omega)
          · cases hx
  have HG : Hid (GuW es G BS BL BN B2 a ca w) := h
  obtain ⟨w0, c, hI⟩ := h.gd
  have k3 := hI.c3
  have hGlt : G < w.heap.size := hI.lt
  have CN : Hid (∀ u, Below w.heap.size w u → Calls Try.prog 39 #[.pointer (some ⟨G, 0, none⟩), .int .i64 i] u fun r w' => r = .returned (.int .i64 m0) ∧ Below u.heap.size u w') := fun u hu => by
    have := nodeFor_any es G BS BL BN B2 a ca u (h.stays hu) hl hf i wi
    rw [hm] at this
    exact this
  have HLK : Hid (∀ u, Below w.heap.size w u → (Instr.lookup 73 (.map (some BS)) (.int .i64 m0) true).run Try.prog u = .ok (.tuple #[.agg #[.int .i64 (seaZ es m0).up, .int .i64 ((seaZ es m0).nth : Int), .int .i64 (seaZ es m0).ahead], .bool (seatE es m0).isSome]) u ∧ u.cell? ⟨G, 3, none⟩ = some (.map (some BS))) := fun u hu => by
    obtain ⟨_, _, hI2⟩ := (h.stays hu).gd
    obtain ⟨_, _, h2⟩ := hI2.se
    exact ⟨sea_look h2 m0 wm0, hI2.c3⟩
  have HM : Hid (m0 < ((es.length + 1 : Nat) : Int)) := by
    show m0 < _
    rw [← hm]
    unfold forF
    split
    · rename_i n hn
      cases hne : nested es with
      | false => rw [ndEnd_no hne] at hn; cases hn
      | true =>
        rw [ndEnd_is hne] at hn
        split at hn
        · omega
        · cases hn
    · have h1 := upOf_in es i
      split
      · omega
      · split
        · omega
        · rename_i x hx _
          unfold lastE at hx
          split at hx
          · unfold lastF at hx
            split at hx
            · cases hx
            · have := (kids_last hx).2.1
              omega
          · cases hx
  have hd0 : Below w.heap.size w w.drew := (Below.refl _ w).drew
  have k3a : (w.drew.alloc (.cells #[.int .i64 0, .int .i64 0, .int .i64 0] 77)).cell? ⟨G, 3, none⟩ = some (.map (some BS)) := (HLK.out _ (hd0.alloc (Nat.le_refl _) _)).2
  have hzf : Hid (∀ u, Below (w.drew.alloc (.cells #[.int .i64 0, .int .i64 0, .int .i64 0] 77)).heap.size (w.drew.alloc (.cells #[.int .i64 0, .int .i64 0, .int .i64 0] 77)) u → u.heap[w.heap.size]? = some (.cells #[.int .i64 0, .int .i64 0, .int .i64 0] 77 (0, 0))) := fun u hu => (hu.block w.heap.size (by simp)).trans (heap_alloc_new w.drew _)
  clear ht hm hl hf wi hI h
  go_enter Try.func26, Try.ntmps26
  go_upto_region 2 with fail
  go_cut [5, 6, 7] (fun s5 s6 s7 wx => ∃ (S : Nat), s5 = .slice none 0 0 ∧ s6 = .pointer (some ⟨S, 0, none⟩) ∧ s7 = .bool (seatE es m0).isSome ∧ Hid (PtI es G BS BL BN B2 a ca w w.heap.size total m0 (es.length + 1) [] (.slice none 0 0) S wx))
  case first =>
    go_region_with (go_at_call 39; refine (CN.out _ (by first | exact hd0 | exact hd0.alloc (Nat.le_refl _) _)).mono ?_; rintro e w1 ⟨rfl, hb1⟩; have hb1' : Below w.heap.size w w1 := (by first | exact hd0.trans hb1 | exact (hd0.alloc (Nat.le_refl _) _).trans (hb1.mono (by simp))); have HB1 : Hid (Below w.heap.size w w1) := hb1'; have hbx : Below w.heap.size w (w1.alloc (.cells #[.int .i64 0, .int .i64 0, .int .i64 0] 77)) := hb1'.alloc hb1'.size _; have l1 := (HLK.out _ hb1').1; have l2 := (HLK.out _ hb1').2; have l3 := (HLK.out _ hbx).1; have l4 := (HLK.out _ hbx).2; try (have hz := hzf.out _ hb1; have z0 : w1.cell? ⟨w.heap.size, 0, none⟩ = some (.int .i64 0) := (by rw [Lib.cell_of_heap hz]; rfl); have z1 : w1.cell? ⟨w.heap.size, 1, none⟩ = some (.int .i64 0) := (by rw [Lib.cell_of_heap hz]; rfl); have z2 : w1.cell? ⟨w.heap.size, 2, none⟩ = some (.int .i64 0) := (by rw [Lib.cell_of_heap hz]; rfl); have fz0 := Lib.frozen_of_heap hz 0; have fz1 := Lib.frozen_of_heap hz 1; have fz2 := Lib.frozen_of_heap hz 2))
    all_goals (
      go_wp2_with fail
      go_meet
      first
        | exact ⟨_, rfl, rfl, rfl, pt_start HG.out HT.out HM.out (Nat.le_refl _) (fill3 HB1.out (Nat.le_refl _) hz _ _ _ _ rfl)⟩
        | exact ⟨_, rfl, rfl, rfl, pt_start HG.out HT.out HM.out HB1.out.size (fill3 hbx HB1.out.size (heap_alloc_new w1 _) _ _ _ _ rfl)⟩
        | exact ⟨_, rfl, rfl, rfl, pt_start HG.out HT.out HM.out HB1.out.size ⟨heap_alloc_new w1 _, HB1.out.alloc HB1.out.size _⟩⟩)
  case rest =>
    obtain ⟨S, rfl, rfl, rfl, HP⟩ := hcut
    clear hGlt k3a hd0 k3 CN HLK hzf HM
    go_wp2_with fail
    go_loopg [5, 6, 7] (es.length + 1) (fun gf s5 s6 s7 wx => ∃ (S : Nat) (m : Int) (acc : List Sg) (oa : Option Addr) (on oc : Nat), s5 = .slice oa on oc ∧ s6 = .pointer (some ⟨S, 0, none⟩) ∧ s7 = .bool (seatE es m).isSome ∧ Hid (PtI es G BS BL BN B2 a ca w w.heap.size total m gf acc (.slice oa on oc) S wx))
    case atStart => exact ⟨S, m0, [], none, 0, 0, rfl, rfl, rfl, HP⟩
    case round =>
      obtain ⟨S, m, acc, oa, on, oc, rfl, rfl, rfl, HI⟩ := hrel
      clear HP
      cases hs : seatE es m with
      | none =>
        have HR : Hid (wr.ownsRow w.heap.size 71 1 (.slice oa on oc) total.length (total.map stepP) ∧ Below w.heap.size w wr ∧ (total = [] → Value.slice oa on oc = .slice none 0 0) ∧ total.length ≤ 2000000) := by
          have h1 := HI.out.tot
          rw [chain_end hs, List.append_nil] at h1
          rw [← h1]
          exact ⟨HI.out.row, HI.out.below, HI.out.ni, by have := HI.out.fu.2; have := HL.out; omega⟩
        clear HI hs
        by_cases hn : total = []
        · have e := HR.out.2.2.1 hn
          injection e with e1 e2 e3
          subst e1 e2 e3
          have cR := reverse_nil wr
          clear hn
          go_wp2_with fail
          refine cR.mono ?_
          rintro r w5 ⟨rfl, hb5⟩
          have HO : Hid (w5.ownsRow w.heap.size 71 1 (.slice none 0 0) total.length (total.map stepP).reverse ∧ Below w.heap.size w w5) := by
            refine ⟨?_, HR.out.2.1.trans (hb5.mono HR.out.2.1.size)⟩
            have h1 := row_stays HR.out.1 hb5
            have h2 : total = [] := by
              have h3 := h1.1
              cases total with
              | nil => rfl
              | cons x l =>
                rcases h1.2 with ⟨_, h4⟩ | ⟨_, _, _, e, _⟩
                · simp at h4
                · cases e
            subst h2
            exact h1
          clear hb5 cR HR
          go_wp2_with fail
          go_ret
          exact ⟨_, rfl, HO.out.1, HO.out.2⟩
        · obtain ⟨k, hk⟩ : ∃ k, total.length = k + 1 := ⟨total.length - 1, by have := List.length_pos_iff.2 hn; omega⟩
          obtain ⟨g, cap, e⟩ : ∃ g cap, Value.slice oa on oc = .slice (some ⟨g, 0, none⟩) (k + 1) cap := by
            rcases HR.out.1.2 with ⟨_, h4⟩ | ⟨g2, cap2, _, e, _⟩
            · simp at h4
              exact absurd h4 hn
            · exact ⟨g2, cap2, by rw [e, hk]⟩
          injection e with e1 e2 e3
          subst e1 e2 e3
          have cR := reverse_any wr w.heap.size g (k + 1) oc (total.map stepP) (by rw [List.length_map]; exact HR.out.1) (by rw [List.length_map]; exact HR.out.2.2.2) (by intro x hx; obtain ⟨s, _, rfl⟩ := List.mem_map.1 hx; exact stepP_iface s)
          rw [List.length_map] at cR
          clear hn hk
          go_wp2_with fail
          refine cR.mono ?_
          rintro r w5 ⟨rfl, hr5, hb5⟩
          have HO : Hid (w5.ownsRow w.heap.size 71 1 (.slice (some ⟨g, 0, none⟩) (k + 1) oc) total.length (total.map stepP).reverse ∧ Below w.heap.size w w5) := ⟨hr5, HR.out.2.1.trans hb5⟩
          clear hr5 hb5 cR HR
          go_wp2_with fail
          go_ret
          exact ⟨_, rfl, HO.out.1, HO.out.2⟩
      | some s =>
        obtain ⟨g, hg, hch, hsg⟩ := chain_more hs HI.out.fu.1
        subst hg
        obtain ⟨u, hu1, hu2, hu3, hu4, hu5, hu6⟩ := sea_ok hs
        have hz : seaZ es m = s := by unfold seaZ; rw [hs]; rfl
        have hbox := HI.out.box
        rw [hz] at hbox
        have HBX : Hid (wr.heap[S]? = some (.cells #[.int .i64 s.up, .int .i64 (s.nth : Int), .int .i64 s.ahead] 77 (0, 0)) ∧ S < wr.heap.size) := ⟨hbox, (Array.getElem?_eq_some_iff.1 hbox).1⟩
        obtain ⟨b0, b1, b2⟩ := row_sea hbox
        have cS := stepTo_any es G BS BL BN B2 a ca wr HI.out.gu HL.out s u hu1 hu3 (by have := HL.out; omega) (WalkArith.wf_i64 (by have := HL.out; omega))
        unfold Sea.val at cS
        have HC : Hid (chainE es (g + 1) m = stepT es s :: chainE es g s.up ∧ s.up < (g : Int) ∧ (Lit.int .i64 s.up).wf = true ∧ acc.length ≤ 2000000) := ⟨hch, hsg, by rw [hu1]; exact WalkArith.wf_i64 (by have := HL.out; omega), by have := HI.out.fu.2; have := HL.out; omega⟩
        clear hz hbox hch hsg hu1 hu2 hu3 hu4 hu5 hu6 hs
        go_wp2_with fail
        refine cS.mono ?_
        rintro e w5 ⟨rfl, hb5⟩
        have HB5 : Hid (Below wr.heap.size wr w5) := hb5
        have HB5w : Hid (Below w.heap.size w w5) := HI.out.below.trans (hb5.mono HI.out.below.size)
        obtain ⟨v6, w6, hrun6, hsl6, hown6, hbel6, hot6⟩ := push_own (P := Try.prog) Try.underlying48 infoStepP rfl (by decide) w5 w.heap.size _ _ _ (row_stays HI.out.row hb5) #[stepP (stepT es s)] rfl (by intro u hu; simp at hu; subst hu; obtain ⟨T, x, e⟩ := stepP_iface (stepT es s); rw [e]; rfl) (by have := HC.out.2.2.2; omega) (by omega) HB5w.out.size 48
        obtain ⟨a6, n6, c6, rfl⟩ := hsl6
        have HB6 : Hid (Below w.heap.size w w6) := HB5w.out.trans hbel6
        have HO6 : Hid (w6.ownsRow w.heap.size 71 1 (.slice a6 n6 c6) (acc.length + 1) (acc.map stepP ++ [stepP (stepT es s)])) := hown6
        have hbox6 : w6.heap[S]? = some (.cells #[.int .i64 s.up, .int .i64 (s.nth : Int), .int .i64 s.ahead] 77 (0, 0)) := by
          rw [hot6 S (Nat.lt_of_lt_of_le HBX.out.2 HB5.out.size) HI.out.ns, HB5.out.block S HBX.out.2]
          exact HBX.out.1
        obtain ⟨d0, d1, d2⟩ := row_sea hbox6
        clear b0 b1 b2 cS hown6 hbel6 hot6 hbox6 hb5 HB5 HB5w HBX
        obtain ⟨T, x, hTx⟩ := stepP_iface (stepT es s)
        rw [hTx] at hrun6 ⊢
        clear hTx
        obtain ⟨W8, hW8⟩ : ∃ W8, w6.alloc (.cells #[.int .i64 s.up, .int .i64 (s.nth : Int), .int .i64 s.ahead] 77) = W8 := ⟨_, rfl⟩
        have HW8 : Hid (w6.alloc (.cells #[.int .i64 s.up, .int .i64 (s.nth : Int), .int .i64 s.ahead] 77) = W8) := hW8
        have hb8 : Below w6.heap.size w6 W8 := by rw [← hW8]; exact al_belowN w6 _
        have hn8 : W8.heap[w6.heap.size]? = some (.cells #[.int .i64 s.up, .int .i64 (s.nth : Int), .int .i64 s.ahead] 77 (0, 0)) := by rw [← hW8]; exact heap_alloc_new w6 _
        have HB8 : Hid (Below w6.heap.size w6 W8 ∧ W8.heap[w6.heap.size]? = some (.cells #[.int .i64 s.up, .int .i64 (s.nth : Int), .int .i64 s.ahead] 77 (0, 0))) := ⟨hb8, hn8⟩
        clear hW8 hb8 hn8
        go_wp2_with (at_builtin; refine append_run rfl (.tmp 30) (.tmp 34) 48 rfl _ _ rfl rfl _ w6 hrun6 ?_)
        rw [HW8.out]
        clear hrun6 d0 d1 d2 HW8
        have HG8 : Hid (GuW es G BS BL BN B2 a ca W8) := HG.out.stays (HB6.out.trans (HB8.out.1.mono HB6.out.size))
        have HG8d : Hid (GuW es G BS BL BN B2 a ca W8.drew) := HG8.out.stays ((Below.refl _ W8).drew)
        have k3 : W8.cell? ⟨G, 3, none⟩ = some (.map (some BS)) := by
          obtain ⟨_, _, hI2⟩ := HG8.out.gd
          exact hI2.c3
        have l1 : (Instr.lookup 73 (.map (some BS)) (.int .i64 s.up) true).run Try.prog W8.drew = .ok (.tuple #[.agg #[.int .i64 (seaZ es s.up).up, .int .i64 ((seaZ es s.up).nth : Int), .int .i64 (seaZ es s.up).ahead], .bool (seatE es s.up).isSome]) W8.drew := by
          obtain ⟨_, _, hI2⟩ := HG8d.out.gd
          obtain ⟨_, _, h2⟩ := hI2.se
          exact sea_look h2 s.up HC.out.2.2.1
        obtain ⟨n0, n1, n2⟩ := row_sea HB8.out.2
        have fz0 := Lib.frozen_of_heap HB8.out.2 0
        have fz1 := Lib.frozen_of_heap HB8.out.2 1
        have fz2 := Lib.frozen_of_heap HB8.out.2 2
        clear HG8 HG8d
        go_region
        all_goals (
          clear l1 k3 n0 n1 n2 fz0 fz1 fz2
          go_wp2_with fail
          go_roundg g
          case measure => omega
          case rel => exact ⟨_, s.up, acc ++ [stepT es s], _, _, _, rfl, rfl, rfl, pt_step HG.out HI.out HC.out.1 HC.out.2.1 HB6.out HO6.out (fill3 HB8.out.1.drew (Nat.le_refl _) HB8.out.2 _ _ _ _ rfl)⟩)
end Go.Proofs.Ytmbbmibkjnlkkaa
/- The steps of a path as Segs: the methods seg, and the contract of impl.segsOf. -/
namespace Go.Proofs.Ytmbbmibkjnlkkaa
open Go.ChangeShapes Go.WideShapes Go.ChangeAt Go.RowKit
theorem cellSegQ {w : World} {a : Value} {b : Value} {c : Value} : (w.alloc (.cells #[a, b, c] 54)).heap[w.heap.size]? = some (.cells #[a, b, c] 54 (0, 0)) := heap_alloc_new w _
set_option maxHeartbeats 2000000 in
theorem segIndexQ (n : Int) (w : World) : Calls Try.prog 92 #[.int .i64 n] w fun e w' => e = .returned (.agg #[.int .i64 1, .int .i64 n, .string ⟨#[]⟩]) ∧ Below w.heap.size w w' := by
  have hF : Hid ((w.alloc (.cells #[.int .i64 1, .int .i64 n, .string ⟨#[]⟩] 54)).heap[w.heap.size]? = some (.cells #[.int .i64 1, .int .i64 n, .string ⟨#[]⟩] 54 (0, 0))) := cellSegQ
  have hB : Hid (Below w.heap.size w (w.alloc (.cells #[.int .i64 1, .int .i64 n, .string ⟨#[]⟩] 54))) := (Below.refl _ w).alloc (Nat.le_refl _) _
  go_enter Try.func92, Try.ntmps92
  go_wp2_with fail
  refine bodyPost_ret (results_cell_row rfl _ _ w.heap.size 54 _ (0, 0) _ rfl hF.out Try.underlying54 rfl (by kernel_rfl)) rfl ?_
  exact ⟨rfl, hB.out⟩
set_option maxHeartbeats 2000000 in
theorem segKeyQ (t : ByteArray) (w : World) : Calls Try.prog 97 #[.string t] w fun e w' => e = .returned (.agg #[.int .i64 2, .int .i64 0, .string t]) ∧ Below w.heap.size w w' := by
  have hF : Hid ((w.alloc (.cells #[.int .i64 2, .int .i64 0, .string t] 54)).heap[w.heap.size]? = some (.cells #[.int .i64 2, .int .i64 0, .string t] 54 (0, 0))) := cellSegQ
  have hB : Hid (Below w.heap.size w (w.alloc (.cells #[.int .i64 2, .int .i64 0, .string t] 54))) := (Below.refl _ w).alloc (Nat.le_refl _) _
  go_enter Try.func97, Try.ntmps97
  go_wp2_with fail
  refine bodyPost_ret (results_cell_row rfl _ _ w.heap.size 54 _ (0, 0) _ rfl hF.out Try.underlying54 rfl (by kernel_rfl)) rfl ?_
  exact ⟨rfl, hB.out⟩
set_option maxHeartbeats 2000000 in
theorem segNameQ (n : Int) (w : World) : Calls Try.prog 94 #[.int .i64 n] w fun e w' => e = .returned (.agg #[.int .i64 3, .int .i64 n, .string ⟨#[]⟩]) ∧ Below w.heap.size w w' := by
  have hF : Hid ((w.alloc (.cells #[.int .i64 3, .int .i64 n, .string ⟨#[]⟩] 54)).heap[w.heap.size]? = some (.cells #[.int .i64 3, .int .i64 n, .string ⟨#[]⟩] 54 (0, 0))) := cellSegQ
  have hB : Hid (Below w.heap.size w (w.alloc (.cells #[.int .i64 3, .int .i64 n, .string ⟨#[]⟩] 54))) := (Below.refl _ w).alloc (Nat.le_refl _) _
  go_enter Try.func94, Try.ntmps94
  go_wp2_with fail
  refine bodyPost_ret (results_cell_row rfl _ _ w.heap.size 54 _ (0, 0) _ rfl hF.out Try.underlying54 rfl (by kernel_rfl)) rfl ?_
  exact ⟨rfl, hB.out⟩
theorem mSegIndexQ (fu : Nat) (n : Int) (w : World) : (method (fu + 1) 87 (.int .i64 n) "loop.example/g00666/impl.seg").run Try.prog w = .ok (92, .int .i64 n) w := by kernel_rfl
theorem mSegKeyQ (fu : Nat) (t : ByteArray) (w : World) : (method (fu + 1) 89 (.string t) "loop.example/g00666/impl.seg").run Try.prog w = .ok (97, .string t) w := by kernel_rfl
theorem mSegNameQ (fu : Nat) (n : Int) (w : World) : (method (fu + 1) 88 (.int .i64 n) "loop.example/g00666/impl.seg").run Try.prog w = .ok (94, .int .i64 n) w := by kernel_rfl
/-- A step in an interface: its method seg tells what it is made of. -/
structure StepQ (v : Value) (g : Sg) : Prop where
  ex : ∃ (T : TypeId) (x : Value) (f : Nat), v = .iface T x ∧ (∀ fu w, (method (fu + 1) T x "loop.example/g00666/impl.seg").run Try.prog w = .ok (f, x) w) ∧ (∀ args w, (callFunc f args).run Try.prog w = .ok (.enter f args) w) ∧
    (∀ w, Calls Try.prog f #[x] w fun e w' => e = .returned (.agg g.row) ∧ Below w.heap.size w w')
/-- A step of a node's path. -/
def nfS (s : Sg) : Prop := (s.kind = 1 ∧ s.text = ByteArray.empty) ∨ (s.kind = 2 ∧ s.n = 0) ∨ (s.kind = 3 ∧ s.text = ByteArray.empty)
theorem stepQ (s : Sg) (h : nfS s) : StepQ (stepP s) s := by
  obtain ⟨k, n, t⟩ := s
  rcases h with ⟨h1, h2⟩ | ⟨h1, h2⟩ | ⟨h1, h2⟩
  · simp only at h1 h2
    subst h1 h2
    exact ⟨_, _, 92, rfl, fun fu w => mSegIndexQ fu n w, fun args w => by kernel_rfl, fun w => segIndexQ n w⟩
  · simp only at h1 h2
    subst h1 h2
    exact ⟨_, _, 97, rfl, fun fu w => mSegKeyQ fu t w, fun args w => by kernel_rfl, fun w => segKeyQ t w⟩
  · simp only at h1 h2
    subst h1 h2
    exact ⟨_, _, 94, rfl, fun fu w => mSegNameQ fu n w, fun args w => by kernel_rfl, fun w => segNameQ n w⟩
theorem nf_step (es : List Ev) (s : Sea) : nfS (stepT es s) := by
  unfold stepT
  split
  · exact .inl ⟨rfl, rfl⟩
  · split
    · exact .inr (.inr ⟨rfl, rfl⟩)
    · exact .inr (.inl ⟨rfl, rfl⟩)
theorem nf_chain (es : List Ev) : ∀ (f : Nat) (m : Int), ∀ s ∈ chainE es f m, nfS s
  | 0, _, s, h => by cases h
  | f + 1, m, s, h => by
    rw [chainE] at h
    split at h
    · cases h
    · rcases List.mem_cons.1 h with rfl | h
      · exact nf_step es _
      · exact nf_chain es f _ s h
theorem rowS_one {s : Sg} : ∀ u ∈ s.row.toList, u.oneCell' = true := by
  intro u hu
  unfold Sg.row at hu
  simp at hu
  rcases hu with rfl | rfl | rfl <;> rfl
theorem cellsP_snocQ (l : List Sg) (s : Sg) : cellsP (l ++ [s]) = cellsP l ++ s.row.toList := by
  unfold cellsP
  rw [List.flatMap_append]
  simp
/-- An element of a row of steps. -/
theorem rowP_at {w : World} {lo : Nat} {v : Value} {es : List Sg} (h : w.ownsRow lo 71 1 v es.length (es.map stepP)) {k : Nat} {s : Sg} (hs : es[k]? = some s) : ∃ b cap, v = .slice (some ⟨b, 0, none⟩) es.length cap ∧ b < w.heap.size ∧ w.cell? ⟨b, k, none⟩ = some (stepP s) := by
  have hk : k < es.length := (List.getElem?_eq_some_iff.1 hs).1
  rcases h.2 with ⟨_, e⟩ | ⟨g2, cap2, cur, e, hb, hg, hn2, hm, hsz, ht⟩
  · rw [e] at hk
    exact absurd hk (by omega)
  · refine ⟨g2, cap2, e, (Array.getElem?_eq_some_iff.1 hg).1, ?_⟩
    rw [Lib.cell_of_heap hg, ← Array.getElem?_toList]
    have h2 := congrArg (fun l => l[k]?) ht
    simp only [Nat.mul_one] at h2
    rw [List.getElem?_take, if_pos hk] at h2
    rw [h2, List.getElem?_map, hs]
    rfl
set_option maxRecDepth 100000 in
set_option maxHeartbeats 16000000 in
theorem segsOf_any (w : World) (lo : Nat) (v : Value) (es : List Sg) (hrow : w.ownsRow lo 71 1 v es.length (es.map stepP)) (hl : es.length ≤ 2000000) (hn : ∀ s ∈ es, nfS s) :
    Calls Try.prog 24 #[v] w fun r w' => ∃ v', r = .returned v' ∧ w'.ownsRow w.heap.size 54 3 v' es.length (cellsP es) ∧ Below w.heap.size w w' := by
  obtain ⟨a, c, rfl⟩ : ∃ a c, v = .slice a es.length c := by
    rcases hrow.2 with ⟨e1, e2⟩ | ⟨g2, cap2, _, e, _⟩
    · exact ⟨none, 0, by rw [e1, show es.length = 0 by first | exact e2 | simpa using e2]⟩
    · exact ⟨_, _, e⟩
  have HV : Hid (w.ownsRow lo 71 1 (.slice a es.length c) es.length (es.map stepP) ∧ es.length ≤ 2000000 ∧ ∀ s ∈ es, nfS s) := ⟨hrow, hl, hn⟩
  have pI : (es.length : Int) ≤ 2000000 := by omega
  have HO0 : Hid (w.ownsRow w.heap.size 54 3 (.slice none 0 0) 0 (cellsP [])) := World.ownsRow_nil _ _ _ _
  clear hrow hl hn
  go_enter Try.func24, Try.ntmps24
  go_wp2_with fail
  go_loopw [3, 8] (fun ov kv wr => ∃ (k : Nat) (oa : Option Addr) (on oc : Nat), ov = .slice oa on oc ∧ kv = .int .i64 (k : Int) ∧ k ≤ es.length ∧ Hid (wr.ownsRow w.heap.size 54 3 (.slice oa on oc) k (cellsP (es.take k)) ∧ Below w.heap.size w wr)) (fun _ kv _ => es.length - (intOf kv).toNat)
  case atStart => exact ⟨0, none, 0, 0, rfl, rfl, Nat.zero_le _, HO0.out, Below.refl _ _⟩
  case round =>
    obtain ⟨k, oa, on, oc, rfl, rfl, hk, HR⟩ := hrel
    clear HO0
    by_cases hlt : k < es.length
    case neg =>
      obtain rfl : k = es.length := by omega
      have hlt' : ¬ (es.length : Int) < (es.length : Int) := by omega
      have HO : Hid (wr.ownsRow w.heap.size 54 3 (.slice oa on oc) es.length (cellsP es) ∧ Below w.heap.size w wr) := by
        have h := HR.out
        rw [List.take_length] at h
        exact h
      clear HR hlt hk
      go_wp2_with fail
      go_ret
      exact ⟨_, rfl, HO.out.1, HO.out.2⟩
    have hlt' : (k : Int) < (es.length : Int) := by omega
    obtain ⟨s, hs⟩ : ∃ s, es[k]? = some s := ⟨_, List.getElem?_eq_getElem hlt⟩
    obtain ⟨b, cap, e2, hbl, c0⟩ := rowP_at HV.out.1 hs
    injection e2 with e2 _ e4
    subst e2 e4
    obtain ⟨T, x, f, hx, mT, eT, cT⟩ := (stepQ s (HV.out.2.2 s (List.mem_of_getElem? hs))).ex
    rw [hx, ← HR.out.2.cell hbl] at c0
    have cT := cT wr
    have HK : Hid (k < es.length ∧ es[k]? = some s) := ⟨hlt, hs⟩
    unfold Sg.row at cT
    clear hs hx hlt hk hbl
    go_wp2_with fail
    refine cT.mono ?_
    rintro e w2 ⟨rfl, hb2⟩
    have HB2 : Hid (Below w.heap.size w w2) := HR.out.2.trans (hb2.mono HR.out.2.size)
    obtain ⟨v5, w5, hrun5, hsl5, hown5, hbel5, _⟩ := push_own (P := Try.prog) Try.underlying29 infoPz rfl (by decide) w2 w.heap.size _ _ _ (row_stays HR.out.1 hb2) s.row rfl rowS_one (by have := HK.out.1; have := HV.out.2.1; omega) (by omega) HB2.out.size 29
    obtain ⟨a5, n5, c5, rfl⟩ := hsl5
    have HR5 : Hid (w5.ownsRow w.heap.size 54 3 (.slice a5 n5 c5) (k + 1) (cellsP (es.take (k + 1))) ∧ Below w.heap.size w w5) := by
      refine ⟨?_, HB2.out.trans hbel5⟩
      rw [List.take_add_one, HK.out.2, Option.toList_some, cellsP_snocQ]
      exact hown5
    unfold Sg.row at hrun5
    clear hown5 hbel5 hb2 cT c0 mT eT HR
    go_wp2_with (at_builtin; refine append_run rfl (.tmp 12) (.tmp 15) 29 rfl _ _ rfl rfl _ w5 hrun5 ?_)
    go_roundw
    case rel => exact ⟨k + 1, _, _, _, rfl, by go_num, HK.out.1, HR5⟩
    case measure => have := HK.out.1; simp [intOf]; omega
end Go.Proofs.Ytmbbmibkjnlkkaa
/- impl.PathOf's contract. -/
namespace Go.Proofs.Ytmbbmibkjnlkkaa
open Go.ChangeShapes Go.WideShapes Go.ChangeAt Go.RowKit
theorem chain_len (es : List Ev) : ∀ (f : Nat) (m : Int), (chainE es f m).length ≤ f
  | 0, _ => Nat.le_refl 0
  | f + 1, m => by
    rw [chainE]
    split
    · exact Nat.zero_le _
    · have := chain_len es f
      rw [List.length_cons]
      exact Nat.succ_le_succ (this _)
set_option maxRecDepth 100000 in
set_option maxHeartbeats 16000000 in
theorem implPo (w : World) (v : Value) (es : List Ev) (i : Int) (hV : SlE w v es) (hl : totE es + es.length ≤ 1048576) (hf : ∀ e ∈ es, wfE e) (wi : (Lit.int .i64 i).wf = true) :
    Calls Try.prog 11 #[v, .int .i64 i] w fun r w' => OwnSg w (pathOf es i) r w' := by
  obtain ⟨a, c, rfl⟩ := hV.sl
  obtain ⟨P, hP⟩ : ∃ P, pathOf es i = P := ⟨_, rfl⟩
  have HP : Hid ((chainE es (es.length + 1) (forF es i)).reverse = P) := (path_for es i).symm.trans hP
  have cR := readingOf_any w _ es hV hl hf
  have HV : Hid (SlE w (.slice a es.length c) es ∧ totE es + es.length ≤ 1048576 ∧ (Lit.int .i64 i).wf = true ∧ ∀ e ∈ es, wfE e) := ⟨hV, hl, wi, hf⟩
  rw [hP]
  clear hV hl hf wi hP
  go_enter Try.func11, Try.ntmps11
  go_wp2_with fail
  refine cR.mono ?_
  rintro e w1 ⟨BN, B2, rfl, hR, hb1⟩
  have HB1 : Hid (Below w.heap.size w w1) := hb1
  have HR : Hid (Rd es BN B2 w1) := hR
  have cG := guideOf_any w1 es a c BN B2 hR (by have := HV.out.2.1; omega)
  clear cR hR hb1
  go_wp2_with fail
  refine cG.mono ?_
  rintro e w2 ⟨w0, G, BS, BL, k, rfl, hb0, hG⟩
  have hb2 : Below w1.heap.size w1 w2 := hb0.trans (hG.below.mono hb0.size)
  have HB2 : Hid (Below w.heap.size w w2) := HB1.out.trans (hb2.mono HB1.out.size)
  have cP := path_any es G BS BL BN B2 a c w2 ⟨⟨w0, k, hG⟩, HR.out.stays hb2, HV.out.1.stays HB2.out⟩ HV.out.2.1 HV.out.2.2.2 i HV.out.2.2.1
  clear cG hb0 hG hb2 HR HB1
  go_wp2_with fail
  refine cP.mono ?_
  rintro e w3 ⟨v3, rfl, hr3, hb3⟩
  have HB3 : Hid (Below w.heap.size w w3) := HB2.out.trans (hb3.mono HB2.out.size)
  rw [← List.length_reverse, ← List.map_reverse, HP.out] at hr3
  have hnf : ∀ s ∈ P, nfS s := fun s hs => by
    rw [← HP.out] at hs
    exact nf_chain es _ _ s (List.mem_reverse.1 hs)
  have hPl : P.length ≤ 2000000 := by
    rw [← HP.out, List.length_reverse]
    have := chain_len es (es.length + 1) (forF es i)
    have := HV.out.2.1
    omega
  have cS := segsOf_any w3 w2.heap.size v3 P hr3 hPl hnf
  clear cP hb3 hnf hPl HB2 HP HV
  obtain ⟨va, vn, vc, rfl⟩ : ∃ va vn vc, v3 = .slice va vn vc := by
    rcases hr3.2 with ⟨e1, _⟩ | ⟨_, _, _, e, _⟩
    · exact ⟨_, _, _, e1⟩
    · exact ⟨_, _, _, e⟩
  clear hr3
  go_wp2_with fail
  refine cS.mono ?_
  rintro e w4 ⟨v4, rfl, hr4, hb4⟩
  obtain ⟨xa, xn, xc, rfl⟩ : ∃ va vn vc, v4 = .slice va vn vc := by
    rcases hr4.2 with ⟨e1, _⟩ | ⟨_, _, _, e, _⟩
    · exact ⟨_, _, _, e1⟩
    · exact ⟨_, _, _, e⟩
  have HO : Hid (OwnSg w P (.returned (.slice xa xn xc)) w4) := ⟨xa, xn, xc, rfl, row_low hr4 HB3.out.size, HB3.out.trans (hb4.mono HB3.out.size)⟩
  clear hr4 hb4 cS HB3
  go_wp2_with fail
  go_ret
  exact HO.out
end Go.Proofs.Ytmbbmibkjnlkkaa
/- PathOf: impl's contract as the law asks it. -/
namespace Go.Proofs.Ytmbbmibkjnlkkaa
theorem implPoL : ImplPathOf := fun w v es i L h1 h2 h3 h4 h5 => by
  subst h5
  exact implPo w v es i h1 h2 h3 h4
end Go.Proofs.Ytmbbmibkjnlkkaa

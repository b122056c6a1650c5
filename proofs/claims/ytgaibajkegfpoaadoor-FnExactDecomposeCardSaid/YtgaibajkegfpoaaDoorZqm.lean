/- Several texts in one: Giq Gir. -/
import Derived.Test.YtgaibajkegfpoaaDoorGip
/- The program asks each node of a graph, and its places. -/
namespace Go.Proofs.YtgaibajkegfpoaaDoor
open Go.ChangeShapes Go.WideShapes Go.ChangeAt Go.RowKit Go.Deep
theorem head_is (kind : Int) (tag text : ByteArray) (kids : List Int) : headBad ⟨kind, tag, text, kids⟩ = !(decide (tag.size ≤ 120) && ((decide (kind = 3) && text.toList.isEmpty) || ((decide (kind = 4) && (text.toList.isEmpty && decide (kids.length % 2 = 0))) || (decide (kind = 5) && decide (kids.length = 0))))) := by
  unfold headBad
  by_cases h1 : 120 < tag.size
  · simp [h1, show ¬ tag.size ≤ 120 by omega]
  by_cases h2 : kind < 3
  · simp [h2, show kind ≠ 3 by omega, show kind ≠ 4 by omega, show kind ≠ 5 by omega]
  by_cases h3 : 5 < kind
  · simp [h3, show kind ≠ 3 by omega, show kind ≠ 4 by omega, show kind ≠ 5 by omega]
  rcases (show kind = 3 ∨ kind = 4 ∨ kind = 5 by omega) with rfl | rfl | rfl
  · simp [h1, show tag.size ≤ 120 by omega]
  · by_cases h4 : kids.length % 2 = 1
    · simp [h1, h4, show tag.size ≤ 120 by omega]
    · simp [h1, show tag.size ≤ 120 by omega, show kids.length % 2 = 0 by omega]
  · by_cases h5 : kids.length = 0
    · simp [h1, h5, show tag.size ≤ 120 by omega]
    · simp [h1, h5, show tag.size ≤ 120 by omega, show 0 < kids.length by omega]
set_option maxHeartbeats 8000000 in
set_option maxRecDepth 100000 in
theorem nodeOk_any (n : Nd) (kv : Value) (w : World) (hI : IlAt w kv n.kids) (hl : n.kids.length ≤ 1048576) (hz : n.tag.size ≤ 1048576) (r : Bool) (hr : (!headBad n) = r) :
    Calls Tryd.prog 43 #[.agg #[.int .i64 n.kind, .string n.tag, .string n.text, kv]] w fun e w' => e = .returned (.bool r) ∧ Below w.heap.size w w' := by
  obtain ⟨kind, tag, text, kids⟩ := n
  obtain ⟨a, c, rfl⟩ := hI.sl
  show Calls Tryd.prog 43 #[.agg #[.int .i64 kind, .string tag, .string text, .slice a kids.length c]] w fun e w' => e = .returned (.bool r) ∧ Below w.heap.size w w'
  have hl' : (kids.length : Int) ≤ 1048576 := by have : kids.length ≤ 1048576 := hl; omega
  have hz' : (tag.size : Int) ≤ 1048576 := by have : tag.size ≤ 1048576 := hz; omega
  have HAL := hidG (al_belowG w (.cells #[.int .i64 kind, .string tag, .string text, .slice a kids.length c] 67))
  rw [head_is, Bool.not_not] at hr
  clear hI hl hz
  by_cases h1 : 120 < tag.size
  · have h1' : (120 : Int) < (tag.size : Int) := by omega
    obtain rfl : false = r := by rw [← hr]; simp [show ¬ tag.size ≤ 120 by omega]
    clear h1 hr
    go_enter Tryd.func43, Tryd.ntmps43
    go_wp2_with fail
    go_ret
    exact ⟨rfl, HAL.out⟩
  have h1' : ¬ (120 : Int) < (tag.size : Int) := by omega
  have h1n : tag.size ≤ 120 := by omega
  by_cases h3 : kind = 3
  · subst h3
    cases ht : text.toList.isEmpty with
    | false =>
      obtain rfl : false = r := by rw [← hr]; simp [ht]
      clear hr h1 h1n
      go_enter Tryd.func43, Tryd.ntmps43
      go_wp2_with fail
      go_ret
      exact ⟨by simp, HAL.out⟩
    | true =>
      obtain rfl : true = r := by rw [← hr]; simp [ht, h1n]
      clear hr h1 h1n
      go_enter Tryd.func43, Tryd.ntmps43
      go_wp2_with fail
      go_ret
      exact ⟨by simp, HAL.out⟩
  have h3' : (kind == 3) = false := by rw [beq_eq_false_iff_ne]; exact h3
  by_cases h4 : kind = 4
  · subst h4
    cases ht : text.toList.isEmpty with
    | false =>
      obtain rfl : false = r := by rw [← hr]; simp [ht]
      clear hr h1 h1n h3
      go_enter Tryd.func43, Tryd.ntmps43
      go_wp2_with fail
      go_ret
      exact ⟨rfl, HAL.out⟩
    | true =>
      by_cases h5 : kids.length % 2 = 0
      · obtain rfl : true = r := by rw [← hr]; simp [ht, h1n, h5]
        have q1 : ((kids.length : Int).tmod 2 == 0) = true := by rw [beq_iff_eq, Int.tmod_eq_emod_of_nonneg (by omega)]; omega
        have q2 : ((kids.length : Int) % 2 == 0) = true := by rw [beq_iff_eq]; omega
        clear hr h1 h1n h3 h5
        go_enter Tryd.func43, Tryd.ntmps43
        go_wp2_with fail
        go_ret
        exact ⟨by simp, HAL.out⟩
      · obtain rfl : false = r := by rw [← hr]; simp [ht, h5]
        have q1 : ((kids.length : Int).tmod 2 == 0) = false := by rw [beq_eq_false_iff_ne, ne_eq, Int.tmod_eq_emod_of_nonneg (by omega)]; omega
        have q2 : ((kids.length : Int) % 2 == 0) = false := by rw [beq_eq_false_iff_ne]; omega
        clear hr h1 h1n h3 h5
        go_enter Tryd.func43, Tryd.ntmps43
        go_wp2_with fail
        go_ret
        exact ⟨by simp, HAL.out⟩
  have h4' : (kind == 4) = false := by rw [beq_eq_false_iff_ne]; exact h4
  by_cases h5 : kind = 5
  · subst h5
    by_cases h6 : kids.length = 0
    · obtain rfl : true = r := by rw [← hr]; simp [h6, h1n]
      have q1 : ((kids.length : Int) == 0) = true := by rw [beq_iff_eq]; omega
      clear hr h1 h1n h3 h4 h6
      go_enter Tryd.func43, Tryd.ntmps43
      go_wp2_with fail
      go_ret
      exact ⟨by simp, HAL.out⟩
    · obtain rfl : false = r := by rw [← hr]; simp [h6]
      have q1 : ((kids.length : Int) == 0) = false := by rw [beq_eq_false_iff_ne]; omega
      clear hr h1 h1n h3 h4 h6
      go_enter Tryd.func43, Tryd.ntmps43
      go_wp2_with fail
      go_ret
      exact ⟨by simp, HAL.out⟩
  have h5' : (kind == 5) = false := by rw [beq_eq_false_iff_ne]; exact h5
  obtain rfl : false = r := by rw [← hr]; simp [h3, h4, h5]
  clear hr h1 h1n h3 h4 h5
  go_enter Tryd.func43, Tryd.ntmps43
  go_wp2_with fail
  go_ret
  exact ⟨rfl, HAL.out⟩
end Go.Proofs.YtgaibajkegfpoaaDoor
/- The program's partsOk answers as the plain function. -/
namespace Go.Proofs.YtgaibajkegfpoaaDoor
open Go.ChangeShapes Go.WideShapes Go.ChangeAt Go.RowKit Go.Deep
theorem parts_many {g : Gr} (h : 3000 < g.nodes.length) : partsP g = false := by unfold partsP; simp [show ¬ g.nodes.length ≤ 3000 by omega]
theorem parts_root {g : Gr} (h : kidsIn g.nodes.length g.roots = false) : partsP g = false := by unfold partsP; simp [h]
theorem parts_node {g : Gr} {n : Nd} (hn : n ∈ g.nodes) (h : headBad n = true ∨ kidsIn g.nodes.length n.kids = false) : partsP g = false := by
  have : g.nodes.all (fun n => nodeOkG n g.nodes.length) = false := by
    rw [Bool.eq_false_iff]
    intro ha
    rw [List.all_eq_true] at ha
    have h1 := ha n hn
    unfold nodeOkG at h1
    rcases h with h | h <;> rw [h] at h1 <;> simp at h1
  unfold partsP
  rw [this]
  simp
theorem parts_all {g : Gr} (h1 : g.nodes.length ≤ 3000) (h2 : kidsIn g.nodes.length g.roots = true) (h3 : ∀ n ∈ g.nodes, headBad n = false ∧ kidsIn g.nodes.length n.kids = true) : partsP g = true := by
  have : g.nodes.all (fun n => nodeOkG n g.nodes.length) = true := by
    rw [List.all_eq_true]
    intro n hn
    unfold nodeOkG
    rw [(h3 n hn).1, (h3 n hn).2]
    rfl
  unfold partsP
  rw [this, h2, decide_eq_true h1]
  rfl
set_option maxHeartbeats 8000000 in
set_option maxRecDepth 100000 in
theorem partsOk_any (g : Gr) (nv rv : Value) (w : World) (hG : GrAt w nv rv g) (ht : g.tot ≤ 1048576) (r : Bool) (hr : partsP g = r) :
    Calls Tryd.prog 35 #[.agg #[nv, rv]] w fun e w' => e = .returned (.bool r) ∧ Below w.heap.size w w' := by
  have htt : g.nodes.length + totN g.nodes + g.roots.length ≤ 1048576 := ht
  have HK : Hid (∀ n ∈ g.nodes, n.kids.length ≤ 1048576 ∧ n.tag.size ≤ 1048576) := fun n hn => by
    have := totN_mem hn
    unfold Nd.tot at this
    omega
  obtain ⟨na, nc, rfl⟩ := hG.1.sl
  obtain ⟨ra, rc, rfl⟩ := hG.2.sl
  have hnl : (g.nodes.length : Int) ≤ 1048576 := by omega
  have hrl : (g.roots.length : Int) ≤ 1048576 := by omega
  have hrN : g.roots.length ≤ 1048576 := by omega
  obtain ⟨V, hV⟩ : ∃ V, w.alloc (.cells #[.slice na g.nodes.length nc, .slice ra g.roots.length rc] 31) = V := ⟨_, rfl⟩
  have HB0 : Hid (Below w.heap.size w V) := by show Below _ _ _; rw [← hV]; exact al_belowG w _
  have HE : Hid (V.heap[w.heap.size]? = some (.cells #[.slice na g.nodes.length nc, .slice ra g.roots.length rc] 31 (0, 0))) := by show _ = _; rw [← hV]; exact heap_alloc_new w _
  have HS : Hid (V.heap.size = w.heap.size + 1) := by show _ = _; rw [← hV]; show (w.heap.push _).size = _; simp
  have HN : Hid (NlAt V (.slice na g.nodes.length nc) g.nodes) := hG.1.later HB0.out
  have HR : Hid (IlAt V (.slice ra g.roots.length rc) g.roots) := hG.2.later HB0.out
  have HQ : Hid (∀ wr, Below V.heap.size V wr → wr.cell? ⟨w.heap.size, 0, none⟩ = some (.slice na g.nodes.length nc) ∧ wr.cell? ⟨w.heap.size, 1, none⟩ = some (.slice ra g.roots.length rc)) := fun wr hb => by
    have := (hb.block w.heap.size (by rw [HS.out]; exact Nat.lt_succ_self _)).trans HE.out
    simp [World.cell?, this]
  have HV := hidG hV
  obtain ⟨q0, q1⟩ := HQ.out V (Below.refl _ _)
  by_cases hm : 3000 < g.nodes.length
  · have hmI : (3000 : Int) < (g.nodes.length : Int) := by omega
    obtain rfl : false = r := by rw [← hr]; exact (parts_many hm).symm
    clear hG ht htt hm hr hV
    go_enter Tryd.func35, Tryd.ntmps35
    go_wp2_with fail
    rw [HV.out]
    go_wp2_with fail
    go_ret
    exact ⟨rfl, HB0.out⟩
  have hmI : ¬ (3000 : Int) < (g.nodes.length : Int) := by omega
  have HM : Hid (g.nodes.length ≤ 3000) := by show _ ≤ _; omega
  obtain ⟨kr, hkr⟩ : ∃ kr, kidsIn g.nodes.length g.roots = kr := ⟨_, rfl⟩
  have cR := placesOk_any g.nodes.length V _ g.roots HR.out hrN kr hkr
  clear hG ht htt hm hV
  cases kr with
  | false =>
    obtain rfl : false = r := by rw [← hr]; exact (parts_root hkr).symm
    clear hkr hr
    go_enter Tryd.func35, Tryd.ntmps35
    go_wp2_with fail
    rw [HV.out]
    go_wp2_with fail
    refine cR.mono ?_
    rintro e w1 ⟨rfl, hb1⟩
    have HB1 := hidG (HB0.out.trans (hb1.mono HB0.out.size))
    clear hb1 cR
    go_wp2_with fail
    go_ret
    exact ⟨rfl, HB1.out⟩
  | true =>
    have HKR := hidG hkr
    have HRR := hidG hr
    clear hkr hr
    go_enter Tryd.func35, Tryd.ntmps35
    go_wp2_with fail
    rw [HV.out]
    go_wp2_with fail
    refine cR.mono ?_
    rintro e w1 ⟨rfl, hb1⟩
    have HB1 := hidG hb1
    obtain ⟨q2, q3⟩ := HQ.out w1 hb1
    clear hb1 cR q0 q1
    go_wp2_with fail
    go_loopw [21] (fun iv wr => ∃ k : Nat, iv = .int .i64 k ∧ k ≤ g.nodes.length ∧ Hid (∀ (j : Nat) (n : Nd), j < k → g.nodes[j]? = some n → headBad n = false ∧ kidsIn g.nodes.length n.kids = true) ∧ Hid (Below V.heap.size V wr)) (fun iv _ => g.nodes.length - (intOf iv).toNat)
    case atStart => exact ⟨0, rfl, Nat.zero_le _, fun j n h _ => by omega, HB1⟩
    case round =>
      obtain ⟨k, rfl, hk, HA, HB⟩ := hrel
      clear q2 q3 HB1
      obtain ⟨q0, q1⟩ := HQ.out _ HB.out
      by_cases hlt : k < g.nodes.length
      · have hltI : (k : Int) < (g.nodes.length : Int) := by omega
        obtain ⟨n, hx⟩ : ∃ n, g.nodes[k]? = some n := ⟨_, List.getElem?_eq_getElem hlt⟩
        obtain ⟨kind, tag, text, kids⟩ := n
        obtain ⟨b, off, kv, rfl, hbl, hN⟩ := HN.out.at hx
        obtain ⟨xa, xc, rfl⟩ := hN.kids.sl
        obtain ⟨c0, c1, c2, c3, hI⟩ := hN.later hbl HB.out
        replace c0 : wr.cell? ⟨b, off + k * 4, none⟩ = some (.int .i64 kind) := c0
        replace c1 : wr.cell? ⟨b, off + k * 4 + 1, none⟩ = some (.string tag) := c1
        replace c2 : wr.cell? ⟨b, off + k * 4 + 2, none⟩ = some (.string text) := c2
        replace c3 : wr.cell? ⟨b, off + k * 4 + 3, none⟩ = some (.slice xa kids.length xc) := c3
        have HX : Hid (g.nodes[k]? = some ⟨kind, tag, text, kids⟩) := hx
        have HKN : Hid (kids.length ≤ 1048576 ∧ tag.size ≤ 1048576) := HK.out _ (List.mem_of_getElem? hx)
        obtain ⟨W, hW⟩ : ∃ W, wr.alloc (.cells #[.int .i64 kind, .string tag, .string text, .slice xa kids.length xc] 67) = W := ⟨_, rfl⟩
        have HW : Hid (Below wr.heap.size wr W) := by show Below _ _ _; rw [← hW]; exact al_belowG wr _
        have HWW := hidG hW
        have HWE : Hid (W.heap[wr.heap.size]? = some (.cells #[.int .i64 kind, .string tag, .string text, .slice xa kids.length xc] 67 (0, 0))) := by show _ = _; rw [← hW]; exact heap_alloc_new wr _
        have HWS : Hid (W.heap.size = wr.heap.size + 1) := by show _ = _; rw [← hW]; show (wr.heap.push _).size = _; simp
        have HWQ : Hid (∀ x, Below W.heap.size W x → x.cell? ⟨wr.heap.size, 0, none⟩ = some (.int .i64 kind) ∧ x.cell? ⟨wr.heap.size, 1, none⟩ = some (.string tag) ∧ x.cell? ⟨wr.heap.size, 2, none⟩ = some (.string text) ∧ x.cell? ⟨wr.heap.size, 3, none⟩ = some (.slice xa kids.length xc)) := fun x hb => by
          have := (hb.block wr.heap.size (by rw [HWS.out]; exact Nat.lt_succ_self _)).trans HWE.out
          simp [World.cell?, this]
        have HIW : Hid (IlAt W (.slice xa kids.length xc) kids) := hI.later HW.out
        have HBW : Hid (Below V.heap.size V W) := HB.out.trans (HW.out.mono HB.out.size)
        obtain ⟨hd, hhd⟩ : ∃ hd, (!headBad ⟨kind, tag, text, kids⟩) = hd := ⟨_, rfl⟩
        have cN := hidG (nodeOk_any ⟨kind, tag, text, kids⟩ _ W HIW.out HKN.out.1 HKN.out.2 hd hhd)
        obtain ⟨s0, s1, s2, s3⟩ := HWQ.out W (Below.refl _ _)
        clear hx hN hI hbl hW q0 q1
        cases hd with
        | false =>
          have HO : Hid (false = r) := by show _ = _; rw [← HRR.out]; exact (parts_node (List.mem_of_getElem? HX.out) (.inl (by simpa using hhd))).symm
          clear hhd
          go_wp2_with fail
          rw [HWW.out]
          go_wp2_with fail
          refine cN.out.mono ?_
          rintro e w2 ⟨rfl, hb2⟩
          have HB2 := hidG (HB0.out.trans ((HBW.out.trans (hb2.mono HBW.out.size)).mono HB0.out.size))
          clear hb2 cN
          go_wp2_with fail
          go_ret
          exact ⟨congrArg (fun b => Ending.returned (.bool b)) HO.out, HB2.out⟩
        | true =>
          have HHD : Hid (headBad ⟨kind, tag, text, kids⟩ = false) := by show _ = _; simpa using hhd
          clear hhd
          go_wp2_with fail
          rw [HWW.out]
          go_wp2_with fail
          refine cN.out.mono ?_
          rintro e w2 ⟨rfl, hb2⟩
          have HWB2 := hidG hb2
          have HB2 := hidG (HBW.out.trans (hb2.mono HBW.out.size))
          obtain ⟨q0, q1⟩ := HQ.out w2 HB2.out
          obtain ⟨u0, u1, u2, u3⟩ := HWQ.out w2 hb2
          obtain ⟨kb, hkb⟩ : ∃ kb, kidsIn g.nodes.length kids = kb := ⟨_, rfl⟩
          have cK := hidG (placesOk_any g.nodes.length w2 _ kids (HIW.out.later hb2) HKN.out.1 kb hkb)
          clear hb2 cN
          cases kb with
          | false =>
            have HO : Hid (false = r) := by show _ = _; rw [← HRR.out]; exact (parts_node (List.mem_of_getElem? HX.out) (.inr hkb)).symm
            clear hkb
            go_wp2_with fail
            refine cK.out.mono ?_
            rintro e w3 ⟨rfl, hb3⟩
            have HB3 := hidG (HB0.out.trans ((HB2.out.trans (hb3.mono HB2.out.size)).mono HB0.out.size))
            clear hb3 cK
            go_wp2_with fail
            go_ret
            exact ⟨congrArg (fun b => Ending.returned (.bool b)) HO.out, HB3.out⟩
          | true =>
            have HA2 : Hid (∀ (j : Nat) (n : Nd), j < k + 1 → g.nodes[j]? = some n → headBad n = false ∧ kidsIn g.nodes.length n.kids = true) := fun j n hj hn => by
              by_cases e : j = k
              · subst e
                rw [HX.out] at hn
                obtain rfl : _ = n := by simpa using hn
                exact ⟨HHD.out, hkb⟩
              · exact HA.out j n (by omega) hn
            clear hkb
            go_wp2_with fail
            refine cK.out.mono ?_
            rintro e w3 ⟨rfl, hb3⟩
            have HB3 := hidG (HB2.out.trans (hb3.mono HB2.out.size))
            clear hb3 cK HB HA
            go_wp2_with fail
            go_roundw
            case rel => exact ⟨k + 1, by go_num, hlt, HA2, HB3⟩
            case measure => simp [intOf]; omega
      · have hge : ¬ (k : Int) < (g.nodes.length : Int) := by omega
        have HO : Hid (true = r) := by
          show _ = _
          rw [← HRR.out]
          refine (parts_all HM.out HKR.out fun n hn => ?_).symm
          obtain ⟨j, hj⟩ := List.mem_iff_getElem?.1 hn
          exact HA.out j n (by have := (List.getElem?_eq_some_iff.1 hj).1; omega) hj
        clear HA
        go_wp2_with fail
        go_ret
        exact ⟨congrArg (fun b => Ending.returned (.bool b)) HO.out, HB0.out.trans (HB.out.mono HB0.out.size)⟩
end Go.Proofs.YtgaibajkegfpoaaDoor

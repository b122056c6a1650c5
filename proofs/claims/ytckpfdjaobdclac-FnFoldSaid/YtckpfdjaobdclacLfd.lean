/- The law on folding, walked, over impl's contracts: at every list of bytes it returns true. -/
import Derived.Test.YtckpfdjaobdclacFfd
import Derived.Test.YtckpfdjaobdclacDln
import Derived.Test.YtckpfdjaobdclacLfo
namespace Go.Proofs.Ytckpfdjaobdclac
open Go.ChangeShapes Go.WideShapes Go.ChangeAt Go.RowKit Go.Deep
theorem slc_of_own {lo : Nat} {w : World} {v : Value} {ps : List Pc} (h : w.ownsRow lo 28 2 v ps.length (cellsC ps)) : SlC w v ps := by
  by_cases hz : ps = []
  · subst hz
    left
    rcases h.2 with ⟨e, _⟩ | ⟨g, cap, cur, e, _⟩
    · exact ⟨rfl, _, _, e⟩
    · exact ⟨rfl, _, _, e⟩
  · right
    have hpos : 0 < ps.length := List.length_pos_iff.2 hz
    rcases h.2 with ⟨_, e⟩ | ⟨g, cap, cur, rfl, hb, hg, hn, hm, hs, ht⟩
    · omega
    · refine ⟨hz, g, 0, cap, rfl, (Array.getElem?_eq_some_iff.1 hg).1, fun i p hi => ?_⟩
      have hadd : ∀ j, (⟨g, 0, none⟩ : Addr).add j = ⟨g, j, none⟩ := by intro j; unfold Addr.add; split <;> simp_all
      have h1 := h.cells (g := g) rfl (i * 2) _ (cellsC_at hi).1
      have h2 := h.cells (g := g) rfl (i * 2 + 1) _ (cellsC_at hi).2
      rw [hadd] at h1 h2
      rw [Nat.zero_add]
      exact ⟨h1, h2⟩
set_option maxHeartbeats 8000000 in
theorem law_fold (HBt : ImplBt) (HFf : ImplFf) (a : Option Addr) (len cap : Nat) (w : World) (hb : len ≤ 1048576 → Bs w.heap.size a len w) :
    Calls Try.prog 3 #[.slice a len cap] w fun e w' => e = .returned (.bool true) ∧ Below w.heap.size w w' := by
  by_cases hbig : (1048576 : Int) < (len : Int)
  · clear hb
    go_enter Try.func3, Try.ntmps3
    go_wp2_with fail
    go_ret
    exact ⟨rfl, Below.refl _ _⟩
  have hb' := hb (by omega)
  have cM := makeLines_any a len cap w hb'
  have HIB : Hid ImplBt := HBt
  have HIF : Hid ImplFf := HFf
  clear hb hb'
  go_enter Try.func3, Try.ntmps3
  go_wp2_with fail
  refine cM.mono ?_
  rintro e w1 ⟨vl, ss, rfl, _, hL6, hs100, hSl, hB1⟩
  obtain ⟨l0, l2, rfl⟩ := hSl.sl
  have htot := tot_le100 hs100
  have HTOT : Hid (totS ss + ss.length ≤ 8388608) := by show totS ss + ss.length ≤ 8388608; omega
  have HA : Hid ((blockText ss true 2).size ≤ 900000) := by have := block_size ss true 2; show (blockText ss true 2).size ≤ 900000; omega
  have HBs : Hid ((blockText ss false 2).size ≤ 900000) := by have := block_size ss false 2; show (blockText ss false 2).size ≤ 900000; omega
  have HLE : Hid ((blockText ss true 2).size ≤ (blockText ss false 2).size) := block_le ss 2
  have HPOS : Hid (ss ≠ [] → 0 < (blockText ss false 2).size) := block_pos ss false
  have HTA : Hid (thinB (blockText ss true 2) = thA ss) := thin_block ss true 2
  have HTB : Hid (thinB (blockText ss false 2) = thA ss) := thin_block ss false 2
  have HTF : Hid (thinB (foldFlow (pcs ss)) = thA ss) := by
    have := thin_flow (pcs ss)
    rw [pcs_fst] at this
    exact this
  have HFS : Hid ((foldFlow (pcs ss)).size ≤ 900000) := by
    have h1 := flow_size (pcs ss)
    rw [pcs_tot] at h1
    have h2 : (pcs ss).length = ss.length := by unfold pcs; rw [List.length_map]
    show (foldFlow (pcs ss)).size ≤ 900000
    omega
  have HPT : Hid (totC (pcs ss) + (pcs ss).length ≤ 8388608) := by
    have h2 : (pcs ss).length = ss.length := by unfold pcs; rw [List.length_map]
    show totC (pcs ss) + (pcs ss).length ≤ 8388608
    rw [pcs_tot, h2]; exact HTOT.out
  have HS1 : Hid (SlS w1 (.slice l0 ss.length l2) ss) := hSl
  have cT := HIB.out w1 _ ss true 2 hSl HTOT.out (by decide)
  obtain ⟨A, hA⟩ : ∃ A, blockText ss true 2 = A := ⟨_, rfl⟩
  obtain ⟨B, hBB⟩ : ∃ B, blockText ss false 2 = B := ⟨_, rfl⟩
  obtain ⟨F, hF⟩ : ∃ F, foldFlow (pcs ss) = F := ⟨_, rfl⟩
  obtain ⟨T, hT⟩ : ∃ T, thA ss = T := ⟨_, rfl⟩
  have HBB : Hid (blockText ss false 2 = B) := hBB
  have HFF : Hid (foldFlow (pcs ss) = F) := hF
  rw [hA] at cT
  rw [hA] at HA HLE HTA
  rw [hBB] at HBs HLE HPOS HTB
  rw [hF] at HTF HFS
  rw [hT] at HTA HTB HTF
  clear hA hBB hF hT cM hSl hs100 htot
  go_wp2_with fail
  refine cT.mono ?_
  rintro e w2 ⟨rfl, hb2⟩
  have hB2 : Below w.heap.size w w2 := hB1.trans (hb2.mono hB1.size)
  have HS2 : Hid (SlS w2 (.slice l0 ss.length l2) ss) := HS1.out.stays hb2
  have cU := HIB.out w2 _ ss false 2 HS2.out HTOT.out (by decide)
  rw [HBB.out] at cU
  clear cT hb2 hB1 HS1
  go_wp2_with fail
  refine cU.mono ?_
  rintro e w3 ⟨rfl, hb3⟩
  have hB3 : Below w.heap.size w w3 := hB2.trans (hb3.mono hB2.size)
  have HS3 : Hid (SlS w3 (.slice l0 ss.length l2) ss) := HS2.out.stays hb3
  clear cU hb3 hB2 HS2
  go_wp2_with fail
  go_loopw [6, 21] (fun pv iv wr => ∃ k : Nat, k ≤ ss.length ∧ iv = .int .i64 k ∧ isSl' pv ∧ Hid (wr.ownsRow w3.heap.size 28 2 pv (pcs (ss.take k)).length (cellsC (pcs (ss.take k)))) ∧ Below w3.heap.size w3 wr) (fun _ iv _ => ss.length - (intOf iv).toNat)
  case atStart => exact ⟨0, Nat.zero_le _, rfl, ⟨_, _, _, rfl⟩, World.ownsRow_made w3 #[] 0 (Nat.le_refl _) (by unfold maxLen; omega) rfl, (Below.refl _ _).alloc (Nat.le_refl _) _⟩
  case round =>
    obtain ⟨k, hk, rfl, ⟨o0, o1, o2, rfl⟩, HOW, hb⟩ := hrel
    by_cases hlt : k < ss.length
    · obtain ⟨x, hx⟩ : ∃ h, ss[k]? = some h := ⟨_, List.getElem?_eq_getElem hlt⟩
      obtain ⟨b, off, rfl, c1⟩ := HS3.out.cells hb hx
      have hlt' : (k : Int) < (ss.length : Int) := by omega
      have hrow := HOW.out
      have hpl : (pcs (ss.take k)).length ≤ 6 := by unfold pcs; rw [List.length_map, List.length_take]; omega
      obtain ⟨v4, w4, hrun, ⟨s0, s1, s2, rfl⟩, hown, hbel, _⟩ := push_own (P := Try.prog) Try.underlying26 infoC rfl (by decide) wr w3.heap.size (.slice o0 o1 o2) _ _ hrow #[.string x, .bool false] rfl (by intro u hu; simp at hu; rcases hu with rfl | rfl <;> rfl) (by omega) (by omega) hb.size 26
      have HOW4 : Hid (w4.ownsRow w3.heap.size 28 2 (.slice s0 s1 s2) (pcs (ss.take (k + 1))).length (cellsC (pcs (ss.take (k + 1))))) := by
        have e : pcs (ss.take (k + 1)) = pcs (ss.take k) ++ [(x, false)] := by
          rw [List.take_add_one, hx]
          unfold pcs
          rw [List.map_append]; rfl
        show w4.ownsRow _ _ _ _ _ _
        rw [e, cellsC_snoc, List.length_append]
        exact hown
      have hb4 : Below w3.heap.size w3 w4 := hb.trans hbel
      clear hx hrow hown hbel HOW hb hpl
      go_wp2_with (at_builtin; refine append_run rfl _ _ 26 rfl _ _ rfl rfl _ w4 hrun ?_)
      go_roundw
      case rel =>
        go_light
        exact ⟨k + 1, hlt, by go_num, ⟨_, _, _, rfl⟩, HOW4, hb4⟩
      case measure =>
        go_light
        simp [intOf]; omega
    · have ek : k = ss.length := by omega
      have hrow := HOW.out
      rw [ek, List.take_length] at hrow
      have HSC : Hid (SlC wr (.slice o0 o1 o2) (pcs ss)) := slc_of_own hrow
      have hlt' : ¬ (k : Int) < (ss.length : Int) := by omega
      have hB4 : Below w.heap.size w wr := hB3.trans (hb.mono hB3.size)
      clear ek hrow HOW hb hlt hk HS3 hB3
      go_wp2_with fail
      refine (thin_ A wr T HA.out HTA.out).mono ?_
      rintro e w5 ⟨rfl, hb5⟩
      have hB5 : Below w.heap.size w w5 := hB4.trans (hb5.mono hB4.size)
      have HC5 : Hid (SlC w5 (.slice o0 o1 o2) (pcs ss)) := HSC.out.stays hb5
      clear hb5 hB4 HSC
      go_wp2_with fail
      refine (thin_ B w5 T HBs.out HTB.out).mono ?_
      rintro e w6 ⟨rfl, hb6⟩
      have hB6 : Below w.heap.size w w6 := hB5.trans (hb6.mono hB5.size)
      have HC6 : Hid (SlC w6 (.slice o0 o1 o2) (pcs ss)) := HC5.out.stays hb6
      have cF := HIF.out w6 _ (pcs ss) HC6.out HPT.out
      rw [HFF.out] at cF
      have hTT : (T.toList == T.toList) = true := by simp
      have hle : (A.size : Int) ≤ (B.size : Int) := by have := HLE.out; omega
      clear hb6 hB5 HC5
      go_wp2_with fail
      refine cF.mono ?_
      rintro e w7 ⟨rfl, hb7⟩
      have hB7 : Below w.heap.size w w7 := hB6.trans (hb7.mono hB6.size)
      clear cF hb7 hB6 HC6
      go_wp2_with fail
      refine (thin_ F w7 T HFS.out HTF.out).mono ?_
      rintro e w8 ⟨rfl, hb8⟩
      have hB8 : Below w.heap.size w w8 := hB7.trans (hb8.mono hB7.size)
      clear hb8 hB7
      go_wp2_with fail
      refine (thin_ B w8 T HBs.out HTB.out).mono ?_
      rintro e w9 ⟨rfl, hb9⟩
      have hB9 : Below w.heap.size w w9 := hB8.trans (hb9.mono hB8.size)
      clear hb9 hB8
      by_cases hn : ss = []
      · subst hn
        go_wp2_with fail
        go_ret
        exact ⟨rfl, hB9⟩
      · have hn' : ¬ (ss.length : Int) = 0 := by have := List.length_pos_iff.2 hn; omega
        have hpos : (0 : Int) < (B.size : Int) := by have := HPOS.out hn; omega
        go_wp2_with fail
        go_ret
        have hB0 : 0 < B.size := by omega
        refine ⟨ret_bool' ?_, hB9⟩
        rw [decide_eq_true hB0, Bool.or_true]
end Go.Proofs.Ytckpfdjaobdclac

/- The contract of impl.PathText. -/
import Derived.Test.YtmbbmibkjnlkkaaDoorJpt
namespace Go.Proofs.YtmbbmibkjnlkkaaDoor
open Go.ChangeShapes Go.WideShapes Go.ChangeAt Go.RowKit
theorem infoW : (Tryd.prog.info? 9).map (fun i => (i.zero, i.size, i.bytes)) = some (some (.string ⟨#[]⟩), 1, 16) := by kernel_rfl
def strV (s : Sg) : Value := .string (segT s)
theorem join_row (w : World) (lo : Nat) (oa : Option Addr) (on oc : Nat) (es : List Sg) (h : w.ownsRow lo 9 1 (.slice oa on oc) es.length (es.map strV)) (hl : totT (es.map segT) + es.length ≤ 33554432) :
    Calls Tryd.prog 29 #[.slice oa on oc, .string sl47] w fun e w' => e = .returned (.string (joinS (es.map segT))) ∧ Below w.heap.size w w' := by
  by_cases h0 : es = []
  · subst h0
    have hn : on = 0 := by
      rcases h.2 with ⟨e, _⟩ | ⟨g, cap, cur, e, _⟩
      · injection e
      · injection e with _ e2 _
    subst hn
    refine (Tryd.strings_Join_none oa oc sl47 w).mono ?_
    rintro e w' ⟨rfl, rfl⟩
    exact ⟨rfl, Below.refl _ _⟩
  · have hpos : 0 < es.length := List.length_pos_iff.2 h0
    rcases h.2 with ⟨_, e⟩ | ⟨g, cap, cur, e, hb, hg, hn, hm, hsz, ht⟩
    · omega
    · injection e with e1 e2 e3
      subst e1 e2 e3
      rw [← join_sl]
      have hlen : (es.map segT).length = es.length := List.length_map ..
      have h1 := joinS_sz (es.map segT)
      rw [← join_sl] at h1
      have h2 : (Lib.join ((es.map segT).map (·.data.toList)) sl47.data.toList).length ≤ totT (es.map segT) + (es.map segT).length := h1
      have hJ := Tryd.strings_Join g 0 oc (es.map segT) sl47 w (fun j x hx => by
        have hx2 : (es.map strV)[j]? = some (.string x) := by
          rw [List.getElem?_map] at hx ⊢
          cases he : es[j]? with
          | none => rw [he] at hx; cases hx
          | some s => rw [he] at hx; injection hx with hx; show some (strV s) = _; unfold strV; rw [← hx]
        have h3 := h.cells (g := g) rfl j _ hx2
        have a1 : (⟨g, 0, none⟩ : Addr).add j = ⟨g, 0 + j, none⟩ := by unfold Addr.add; split <;> simp_all <;> omega
        rw [a1] at h3
        exact h3) (Array.getElem?_eq_some_iff.1 hg).1 (by omega) (by omega) (by omega)
      rw [hlen] at hJ
      exact hJ
set_option maxRecDepth 100000 in
set_option maxHeartbeats 8000000 in
theorem implPt (w : World) (v : Value) (es : List Sg) (hV : SgL w v es) (hl : totP es + es.length ≤ 1048576) (hT : TxV w) :
    Calls Tryd.prog 10 #[v] w fun e w' => e = .returned (.string (pathT es)) ∧ Below w.heap.size w w' := by
  obtain ⟨a, c, rfl⟩ := hV.sl
  have HP : Hid (pathT es = if 60 < es.length then ⟨#[]⟩ else if es.all segOk = true then sl47 ++ joinS (es.map segT) else ⟨#[]⟩) := rfl
  generalize pathT es = o at *
  by_cases hlong : 60 < es.length
  · have h1 : (60 : Int) < (es.length : Int) := by omega
    have HO : Hid ((⟨#[]⟩ : ByteArray) = o) := by show _ = _; rw [HP.out, if_pos hlong]
    clear hV hl hT HP hlong
    go_enter Tryd.func10, Tryd.ntmps10
    go_wp2_with fail
    go_ret
    exact ⟨ret_strJ HO.out, Below.refl _ _⟩
  have h1 : ¬ (60 : Int) < (es.length : Int) := by omega
  have cS := stepsOf_any w _ es hV (by omega) hT.1
  have HT : Hid (TxV w) := hT
  have HL : Hid (totP es + es.length ≤ 1048576 ∧ es.length ≤ 60) := ⟨hl, by omega⟩
  have HO : Hid (o = if es.all segOk = true then sl47 ++ joinS (es.map segT) else ⟨#[]⟩) := by show _ = _; rw [HP.out, if_neg hlong]
  clear hV hl hT HP hlong
  go_enter Tryd.func10, Tryd.ntmps10
  go_wp2_with fail
  refine cS.mono ?_
  rintro e w1 ⟨sv, rfl, hs, hb1⟩
  have HB1 : Hid (Below w.heap.size w w1) := hb1
  have HS : Hid (es.all segOk = true → StL w1 sv es) := hs
  clear hb1 hs cS
  cases hok : es.all segOk with
  | false =>
    have HO : Hid ((⟨#[]⟩ : ByteArray) = o) := by show _ = _; rw [HO.out, hok]; rfl
    clear hok
    go_wp2_with fail
    go_ret
    exact ⟨ret_strJ HO.out, HB1.out⟩
  | true =>
    have HO : Hid (sl47 ++ joinS (es.map segT) = o) := by show _ = _; rw [HO.out, hok]; rfl
    have hst := HS.out hok
    obtain ⟨sa, sc, rfl⟩ := hst.sl
    have HST : Hid (StL w1 (.slice sa es.length sc) es ∧ okS es ∧ TxV w1) := ⟨hst, all_okS hok, HT.out.lasts HB1.out⟩
    have HO0 : Hid (w1.ownsRow w1.heap.size 9 1 (.slice none 0 0) 0 ((es.take 0).map strV) ∧ Below w1.heap.size w1 w1) := ⟨World.ownsRow_nil _ _ _ _, Below.refl _ _⟩
    clear hok hst HS HT
    go_wp2_with fail
    go_loopw [5, 20] (fun ov kv wr => ∃ (k : Nat) (oa : Option Addr) (on oc : Nat), ov = .slice oa on oc ∧ kv = .int .i64 (k : Int) ∧ k ≤ es.length ∧ Hid (wr.ownsRow w1.heap.size 9 1 (.slice oa on oc) k ((es.take k).map strV) ∧ Below w1.heap.size w1 wr)) (fun _ kv _ => es.length - (intOf kv).toNat)
    case atStart => exact ⟨0, _, _, _, rfl, rfl, Nat.zero_le _, HO0.out⟩
    case round =>
      obtain ⟨k, oa, on, oc, rfl, rfl, hk, HR⟩ := hrel
      clear HO0
      by_cases hlt : k < es.length
      · have hlt' : (k : Int) < (es.length : Int) := by omega
        obtain ⟨s, hs⟩ : ∃ s, es[k]? = some s := ⟨_, List.getElem?_eq_getElem hlt⟩
        obtain ⟨b, off, rfl, c0⟩ := HST.out.1.at HR.out.2 hs
        have os := HST.out.2.1 s (List.mem_of_getElem? hs)
        have hkk := (segOk_cases os).2.2
        have hts : s.text.size ≤ 1048576 := by
          have := totP_mem (List.mem_of_getElem? hs)
          have := HL.out.1
          unfold Sg.tot at *
          omega
        obtain ⟨T, x, f, hx, mT, eT, cT⟩ := (textI s (by omega) (by omega) hts).ex
        rw [hx] at c0
        have cT := cT wr (HST.out.2.2.lasts HR.out.2)
        have HK : Hid (k < es.length ∧ es[k]? = some s) := ⟨hlt, hs⟩
        clear hs os hkk hts hx hlt hk
        go_wp2_with fail
        refine cT.mono ?_
        rintro e w2 ⟨rfl, hb2⟩
        have HB2 : Hid (Below w1.heap.size w1 w2) := HR.out.2.trans (hb2.mono HR.out.2.size)
        obtain ⟨v5, w5, hrun5, hsl5, hown5, hbel5, _⟩ := push_own (P := Tryd.prog) Tryd.underlying50 infoW rfl (by decide) w2 w1.heap.size _ _ _ (row_stays HR.out.1 hb2) #[.string (segT s)] rfl (by intro u hu; simp at hu; subst hu; rfl) (by have := HK.out.1; have := HL.out.2; omega) (by omega) HB2.out.size 50
        obtain ⟨a5, n5, c5, rfl⟩ := hsl5
        have HR5 : Hid (w5.ownsRow w1.heap.size 9 1 (.slice a5 n5 c5) (k + 1) ((es.take (k + 1)).map strV) ∧ Below w1.heap.size w1 w5) := by
          refine ⟨?_, HB2.out.trans hbel5⟩
          rw [List.take_add_one, HK.out.2, List.map_append]
          exact hown5
        clear hown5 hbel5 hb2 cT c0 mT eT HR
        go_wp2_with (at_builtin; refine append_run rfl _ _ 50 rfl _ _ rfl rfl _ w5 hrun5 ?_)
        go_roundw
        case rel => exact ⟨k + 1, _, _, _, rfl, by go_num, HK.out.1, HR5⟩
        case measure => have := HK.out.1; simp [intOf]; omega
      have hlt' : ¬ (k : Int) < (es.length : Int) := by omega
      obtain rfl : k = es.length := by omega
      have hrow := HR.out.1
      rw [List.take_length] at hrow
      have hz := totT_sz es
      have cJ := join_row wr w1.heap.size oa on oc es hrow (by have := HL.out; omega)
      have hjs := joinS_sz (es.map segT)
      have hjz : (joinS (es.map segT)).size ≤ 33554432 := by
        rw [List.length_map] at hjs
        have := HL.out
        omega
      have HB : Hid (Below w.heap.size w wr) := HB1.out.trans (HR.out.2.mono HB1.out.size)
      clear hrow hz hjs HR hlt hk HST HL
      generalize joinS (es.map segT) = j at *
      unfold sl47 at cJ HO
      go_wp2_with fail
      refine cJ.mono ?_
      rintro e w2 ⟨rfl, hb2⟩
      have HB2 : Hid (Below w.heap.size w w2) := HB.out.trans (hb2.mono HB.out.size)
      clear hb2 cJ
      go_wp2_with fail
      go_ret
      exact ⟨ret_strJ HO.out, HB2.out⟩
end Go.Proofs.YtmbbmibkjnlkkaaDoor

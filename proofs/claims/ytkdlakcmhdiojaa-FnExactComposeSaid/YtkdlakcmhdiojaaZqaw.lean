/- Several texts in one: Sup Sno Srt Lne Ien Ifn Iti. -/
import Derived.Test.YtkdlakcmhdiojaaZqaj
import Derived.Test.YtkdlakcmhdiojaaSnt
import Derived.Test.YtkdlakcmhdiojaaZqal
import Derived.Test.YtkdlakcmhdiojaaZqav
import Derived.Test.YtkdlakcmhdiojaaZqas
import Derived.Deep.RegionHeld3
import Derived.Test.YtkdlakcmhdiojaaZqad
import Derived.Test.YtkdlakcmhdiojaaZqac
import Derived.Test.YtkdlakcmhdiojaaZqag
import Derived.Laws.EntriesVeiled
/- The specification's nodes within events: the collection around. -/
namespace Go.Proofs.Ytkdlakcmhdiojaa
open Go.ChangeShapes Go.WideShapes Go.ChangeAt Go.RowKit
end Go.Proofs.Ytkdlakcmhdiojaa
/- The specification's nodes within events: the functions that ask whether the events are nested. -/
namespace Go.Proofs.Ytkdlakcmhdiojaa
open Go.ChangeShapes Go.WideShapes Go.ChangeAt Go.RowKit
end Go.Proofs.Ytkdlakcmhdiojaa
/- The specification's nodes within events: roots, ties, whole streams. -/
namespace Go.Proofs.Ytkdlakcmhdiojaa
open Go.ChangeShapes Go.WideShapes Go.ChangeAt Go.RowKit
theorem rootsTo_succ (es : List Ev) (k : Nat) : rootsTo es (k + 1) = if rootAt es (nested es) k = true then rootsTo es k ++ [k] else rootsTo es k := by
  unfold rootsTo
  rw [List.range_succ, List.filter_append]
  split
  · rename_i h
    simp [h]
  · rename_i h
    simp [h]
theorem rootsTo_len (es : List Ev) (k : Nat) : (rootsTo es k).length ≤ k := by
  unfold rootsTo
  exact Nat.le_trans (List.length_filter_le _ _) (by simp)
theorem tiedTo_succ (es : List Ev) (k : Nat) : tiedTo es (k + 1) = (tiedTo es k && tiedAt es k) := by
  unfold tiedTo
  rw [List.range_succ, List.all_append]
  simp
set_option maxRecDepth 100000 in
set_option maxHeartbeats 8000000 in
theorem spec_rootsOf (w : World) (v : Value) (es : List Ev) (hV : SlE w v es) (hl : totE es + es.length ≤ 1048576) (r : List Nat) (hr : rootsOf es = r) :
    Calls Try.prog 22 #[v] w fun e w' => OwnI w r e w' := by
  obtain ⟨a, c, rfl⟩ := hV.sl
  have HV : Hid (SlE w (.slice a es.length c) es) := hV
  have HL : Hid (es.length ≤ 1048576) := by show _ ≤ _; omega
  obtain ⟨nb, hnb⟩ : ∃ nb, nested es = nb := ⟨_, rfl⟩
  have cN : Hid (∀ w', Below w.heap.size w w' → Calls Try.prog 44 #[.slice a es.length c] w' fun r w'' => r = .returned (.bool nb) ∧ Below w'.heap.size w' w'') := fun w' hb => spec_nested w' _ es (hV.stays hb) hl nb hnb
  have HR : Hid (rootsTo es es.length = r) := hr
  have HNB : Hid (nested es = nb) := hnb
  have hl' : (es.length : Int) ≤ 1048576 := by omega
  have HA0 : Hid (Below w.heap.size w (w.alloc (.cells #[] 3))) := (Below.refl _ w).alloc (Nat.le_refl _) _
  have HO0 : Hid ((w.alloc (.cells #[] 3)).ownsRow w.heap.size 3 1 (.slice (some ⟨w.heap.size, 0, none⟩) 0 0) (rootsTo es 0).length (intsV (rootsTo es 0))) := World.ownsRow_made w #[] 0 (Nat.le_refl _) (Nat.zero_le _) rfl
  clear hV hl hnb hr
  go_enter Try.func22, Try.ntmps22
  go_wp2_with fail
  go_loopw [3, 8] (fun ov kv wr => ∃ (k : Nat) (oa : Option Addr) (on oc : Nat), ov = .slice oa on oc ∧ kv = .int .i64 (k : Int) ∧ k ≤ es.length ∧ Hid (wr.ownsRow w.heap.size 3 1 (.slice oa on oc) (rootsTo es k).length (intsV (rootsTo es k))) ∧ Hid (Below w.heap.size w wr)) (fun _ kv _ => es.length - (intOf kv).toNat)
  case atStart => exact ⟨0, _, _, _, rfl, rfl, Nat.zero_le _, HO0, HA0⟩
  case round =>
    obtain ⟨k, oa, on, oc, rfl, rfl, hk, HO, HB⟩ := hrel
    clear HO0 HA0
    by_cases hlt : k < es.length
    case neg =>
      obtain rfl : k = es.length := by omega
      have hlt' : ¬ (es.length : Int) < (es.length : Int) := by omega
      go_wp2_with fail
      go_ret
      exact ⟨_, _, _, rfl, by rw [← HR.out]; exact HO.out, HB.out⟩
    have hlt' : (k : Int) < (es.length : Int) := by omega
    obtain ⟨e, he⟩ : ∃ e, es[k]? = some e := ⟨_, List.getElem?_eq_getElem hlt⟩
    have HSK : Hid (rootAt es (nested es) k = false → rootsTo es (k + 1) = rootsTo es k) := fun h => by rw [rootsTo_succ, if_neg (by rw [h]; simp)]
    have HLT : Hid (k < es.length) := hlt
    by_cases hk0 : k = 0
    · have hk0' : ¬ (k : Int) > 0 := by omega
      have HS : Hid (rootsTo es (k + 1) = rootsTo es k) := HSK.out (by unfold rootAt; rw [decide_eq_false (by omega)]; rfl)
      clear he hk0 HSK
      go_wp2_with fail
      go_roundw
      case rel => exact ⟨k + 1, _, _, _, rfl, by go_num, HLT.out, by show World.ownsRow _ _ _ _ _ _ _; rw [HS.out]; exact HO.out, HB⟩
      case measure => simp [intOf]; omega
    obtain ⟨j, hj⟩ : ∃ j, k = j + 1 := ⟨k - 1, by omega⟩
    have hk0' : (k : Int) > 0 := by omega
    have hkj : (k : Int) - 1 = (j : Int) := by omega
    have hjl : (j : Int) < (es.length : Int) := by omega
    obtain ⟨e1, he1⟩ : ∃ e1, es[j]? = some e1 := ⟨_, List.getElem?_eq_getElem (by omega)⟩
    obtain ⟨b, off, hab, hbl, hE1⟩ := HV.out.at HB.out he1
    subst hab
    have q0 := hE1.c0
    clear hE1
    have hka : kindAt es (k - 1) = e1.kind := by unfold kindAt; rw [show k - 1 = j by omega, he1]
    by_cases h2 : e1.kind = 2
    case neg =>
      have t2 : (e1.kind == 2) = false := by rw [beq_eq_false_iff_ne]; exact h2
      have HS : Hid (rootsTo es (k + 1) = rootsTo es k) := HSK.out (by unfold rootAt; rw [hka, decide_eq_false h2]; simp)
      clear he he1 hk0 HSK hj hka h2
      go_wp2_with fail
      go_roundw
      case rel => exact ⟨k + 1, _, _, _, rfl, by go_num, HLT.out, by show World.ownsRow _ _ _ _ _ _ _; rw [HS.out]; exact HO.out, HB⟩
      case measure => simp [intOf]; omega
    have t2 : (e1.kind == 2) = true := by rw [h2]; rfl
    obtain ⟨db, hdb⟩ : ∃ db, nodE e = db := ⟨_, rfl⟩
    have cD := fun w' => node_any e w' db hdb
    have HRA : Hid (rootAt es (nested es) k = (db && nb)) := by
      show _ = _
      unfold rootAt
      rw [hka, decide_eq_true h2, decide_eq_true (by omega : 0 < k), he, HNB.out]
      show (true && (true && (nodE e && nb))) = _
      rw [hdb]
      rfl
    obtain ⟨b3, off3, e2, _, hE⟩ := HV.out.at HB.out he
    injection e2 with e2
    injection e2 with e2 e3 _
    subst e2
    subst e3
    obtain ⟨d0, d1, d2, d3, d4, d5, d6, d7⟩ := hE
    clear he he1 hk0 hj hka h2 hdb
    go_wp2_with fail
    refine (cD _).mono ?_
    rintro e9 w2 ⟨rfl, hb2⟩
    have HB2 : Hid (Below w.heap.size w w2) := HB.out.trans (hb2.mono HB.out.size)
    have HO2 : Hid (w2.ownsRow w.heap.size 3 1 (.slice oa on oc) (rootsTo es k).length (intsV (rootsTo es k))) := row_same HO.out (fun k _ hk => hb2.block k hk)
    clear hb2 cD d0 d1 d2 d3 d4 d5 d6 d7 q0 HO HB
    cases db with
    | false =>
      have HS : Hid (rootsTo es (k + 1) = rootsTo es k) := HSK.out (by rw [HRA.out]; rfl)
      clear HSK
      go_wp2_with fail
      go_roundw
      case rel => exact ⟨k + 1, _, _, _, rfl, by go_num, HLT.out, by show World.ownsRow _ _ _ _ _ _ _; rw [HS.out]; exact HO2.out, HB2⟩
      case measure => simp [intOf]; omega
    | true =>
      go_wp2_with fail
      refine (cN.out w2 HB2.out).mono ?_
      rintro e9 w3 ⟨rfl, hb3⟩
      have HB3 : Hid (Below w.heap.size w w3) := HB2.out.trans (hb3.mono HB2.out.size)
      have HO3 : Hid (w3.ownsRow w.heap.size 3 1 (.slice oa on oc) (rootsTo es k).length (intsV (rootsTo es k))) := row_same HO2.out (fun k _ hk => hb3.block k hk)
      clear hb3 HB2 HO2
      cases nb with
      | false =>
        have HS : Hid (rootsTo es (k + 1) = rootsTo es k) := HSK.out (by rw [HRA.out]; rfl)
        clear HSK
        go_wp2_with fail
        go_roundw
        case rel => exact ⟨k + 1, _, _, _, rfl, by go_num, HLT.out, by show World.ownsRow _ _ _ _ _ _ _; rw [HS.out]; exact HO3.out, HB3⟩
        case measure => simp [intOf]; omega
      | true =>
        have HS : Hid (rootsTo es (k + 1) = rootsTo es k ++ [k]) := by show _ = _; rw [rootsTo_succ, if_pos (by rw [HRA.out]; rfl)]
        obtain ⟨v5, w5, hrun5, hsl5, hown5, hbel5, _⟩ := push_own (P := Try.prog) Try.underlying25 infoI8 rfl (by decide) w3 w.heap.size _ _ _ HO3.out #[.int .i64 (k : Int)] rfl (by intro u hu; simp at hu; subst hu; rfl) (by have h1 := HL.out; have h2 := rootsTo_len es k; omega) (by omega) HB3.out.size 25
        obtain ⟨a5, n5, c5, rfl⟩ := hsl5
        have HO5 : Hid (w5.ownsRow w.heap.size 3 1 (.slice a5 n5 c5) (rootsTo es (k + 1)).length (intsV (rootsTo es (k + 1)))) := by
          show World.ownsRow _ _ _ _ _ _ _
          rw [HS.out, List.length_append, intsV_snoc]
          exact hown5
        have HB5 : Hid (Below w.heap.size w w5) := HB3.out.trans hbel5
        clear hown5 hbel5 HO3 HB3 HSK
        go_wp2_with (at_builtin; refine append_run rfl _ _ 25 rfl _ _ rfl rfl _ w5 hrun5 ?_)
        go_roundw
        case rel => exact ⟨k + 1, _, _, _, rfl, by go_num, HLT.out, HO5, HB5⟩
        case measure => simp [intOf]; omega
set_option maxRecDepth 100000 in
set_option maxHeartbeats 8000000 in
theorem spec_tied (w : World) (v : Value) (es : List Ev) (hV : SlE w v es) (hl : totE es + es.length ≤ 1048576) (r : Bool) (hr : tied es = r) :
    Calls Try.prog 42 #[v] w fun e w' => e = .returned (.bool r) ∧ Below w.heap.size w w' := by
  obtain ⟨a, c, rfl⟩ := hV.sl
  have HV : Hid (SlE w (.slice a es.length c) es) := hV
  have HL : Hid (es.length ≤ 1048576) := by show _ ≤ _; omega
  obtain ⟨nb, hnb⟩ : ∃ nb, nested es = nb := ⟨_, rfl⟩
  have cN := spec_nested w _ es hV hl nb hnb
  have HR : Hid ((nb && tiedTo es es.length) = r) := by show _ = _; rw [← hr]; unfold tied; rw [hnb]
  have hl' : (es.length : Int) ≤ 1048576 := by omega
  clear hV hl hnb hr
  go_enter Try.func42, Try.ntmps42
  go_wp2_with fail
  refine cN.mono ?_
  rintro e9 w1 ⟨rfl, hb1⟩
  have HB1 : Hid (Below w.heap.size w w1) := hb1
  clear hb1 cN
  cases nb with
  | false =>
    have HE : Hid (false = r) := HR.out
    go_wp2_with fail
    go_ret
    exact ⟨ret_b HE.out, HB1.out⟩
  | true =>
    have HE : Hid (tiedTo es es.length = r) := HR.out
    clear HR
    go_wp2_with fail
    go_loopw [10] (fun kv wr => ∃ (k : Nat), kv = .int .i64 (k : Int) ∧ k ≤ es.length ∧ Hid (tiedTo es k = true) ∧ Hid (Below w.heap.size w wr)) (fun kv _ => es.length - (intOf kv).toNat)
    case atStart => exact ⟨0, rfl, Nat.zero_le _, rfl, HB1⟩
    case round =>
      obtain ⟨k, rfl, hk, HT, HB⟩ := hrel
      clear HB1
      by_cases hlt : k < es.length
      case neg =>
        obtain rfl : k = es.length := by omega
        have hlt' : ¬ (es.length : Int) < (es.length : Int) := by omega
        have HF : Hid (true = r) := by show _ = _; rw [← HE.out, HT.out]
        go_wp2_with fail
        go_ret
        exact ⟨ret_b HF.out, HB.out⟩
      have hlt' : (k : Int) < (es.length : Int) := by omega
      obtain ⟨e, he⟩ : ∃ e, es[k]? = some e := ⟨_, List.getElem?_eq_getElem hlt⟩
      have HLT : Hid (k < es.length) := hlt
      obtain ⟨b, off, hab, hbl, hE⟩ := HV.out.at HB.out he
      subst hab
      obtain ⟨d0, d1, d2, d3, d4, d5, d6, d7⟩ := hE
      have hka : kindAt es k = e.kind := by unfold kindAt; rw [he]
      have HBA : Hid (Below w.heap.size w (wr.alloc (.cells #[.int .i64 e.kind, .int .i64 e.style, .bool e.flag, .string e.text, .string e.anchor, .string e.tag, .int .i64 e.at_, .int .i64 e.code] 47))) := HB.out.alloc HB.out.size _
      by_cases h6 : e.kind = 6
      case neg =>
        have t6 : (e.kind == 6) = false := by rw [beq_eq_false_iff_ne]; exact h6
        have HT2 : Hid (tiedTo es (k + 1) = true) := by show _ = _; rw [tiedTo_succ, HT.out]; unfold tiedAt; rw [hka, decide_eq_false h6]; rfl
        clear he hka h6
        go_wp2_with fail
        go_roundw
        case rel => exact ⟨k + 1, by go_num, HLT.out, HT2, HBA⟩
        case measure => simp [intOf]; omega
      have t6 : (e.kind == 6) = true := by rw [h6]; rfl
      obtain ⟨y, hy⟩ : ∃ y, defN es k = y := ⟨_, rfl⟩
      have HTA : Hid (tiedTo es (k + 1) = decide (0 ≤ y)) := by show _ = _; rw [tiedTo_succ, HT.out]; unfold tiedAt; rw [hka, decide_eq_true h6, hy]; rfl
      have cE : Hid (∀ w', Below w.heap.size w w' → Calls Try.prog 45 #[.slice (some ⟨b, off, none⟩) es.length c, .int .i64 (k : Int)] w' fun e w'' => e = .returned (.int .i64 y) ∧ Below w'.heap.size w' w'') := fun w' hb => def_any w' _ es (HV.out.stays hb) HL.out k hlt y hy
      clear he hka h6 hy
      go_wp2_with fail
      refine (cE.out _ HBA.out).mono ?_
      rintro e9 w2 ⟨rfl, hb2⟩
      have HB2 : Hid (Below w.heap.size w w2) := HBA.out.trans (hb2.mono HBA.out.size)
      clear hb2 d0 d1 d2 d3 d4 d5 d6 d7
      by_cases hy0 : y < 0
      · have HF : Hid (false = r) := by
          show _ = _
          rw [← HE.out]
          have h1 := HTA.out
          rw [decide_eq_false (by omega)] at h1
          have h2 : ∀ n, k + 1 ≤ n → tiedTo es n = false := by
            intro n hn
            induction n with
            | zero => omega
            | succ n ih =>
              rcases Nat.lt_or_ge k n with h | h
              · rw [tiedTo_succ, ih (by omega)]; rfl
              · rw [show n = k by omega]; exact h1
          exact (h2 es.length HLT.out).symm
        go_wp2_with fail
        go_ret
        exact ⟨ret_b HF.out, HB2.out⟩
      · have HT2 : Hid (tiedTo es (k + 1) = true) := by show _ = _; rw [HTA.out, decide_eq_true (by omega)]
        go_wp2_with fail
        go_roundw
        case rel => exact ⟨k + 1, by go_num, HLT.out, HT2, HB2⟩
        case measure => simp [intOf]; omega
theorem nested_ne {es : List Ev} (h : nested es = true) : es ≠ [] := by
  intro e
  subst e
  cases h
set_option maxRecDepth 100000 in
set_option maxHeartbeats 8000000 in
theorem spec_whole (w : World) (v : Value) (es : List Ev) (hV : SlE w v es) (hl : totE es + es.length ≤ 1048576) (r : Bool) (hr : whole es = r) :
    Calls Try.prog 21 #[v] w fun e w' => e = .returned (.bool r) ∧ Below w.heap.size w w' := by
  obtain ⟨a, c, rfl⟩ := hV.sl
  have HV : Hid (SlE w (.slice a es.length c) es) := hV
  obtain ⟨nb, hnb⟩ : ∃ nb, tied es = nb := ⟨_, rfl⟩
  have cN := spec_tied w _ es hV hl nb hnb
  have HR : Hid ((nb && decide (kindAt es (es.length - 1) ≠ 10)) = r) := by show _ = _; rw [← hr]; unfold whole; rw [hnb]
  have HNB : Hid (tied es = nb) := hnb
  have hl' : (es.length : Int) ≤ 1048576 := by omega
  clear hV hl hnb hr
  go_enter Try.func21, Try.ntmps21
  go_wp2_with fail
  refine cN.mono ?_
  rintro e9 w1 ⟨rfl, hb1⟩
  have HB1 : Hid (Below w.heap.size w w1) := hb1
  clear hb1 cN
  cases nb with
  | false =>
    have HE : Hid (false = r) := HR.out
    go_wp2_with fail
    go_ret
    exact ⟨ret_b HE.out, HB1.out⟩
  | true =>
    have hne : es ≠ [] := nested_ne (by have h := HNB.out; unfold tied at h; rw [Bool.and_eq_true] at h; exact h.1)
    have hpos : 0 < es.length := List.length_pos_iff.2 hne
    obtain ⟨j, hj⟩ : ∃ j, es.length = j + 1 := ⟨es.length - 1, by omega⟩
    have hkj : (es.length : Int) - 1 = (j : Int) := by omega
    have hjl : (j : Int) < (es.length : Int) := by omega
    obtain ⟨e1, he1⟩ : ∃ e1, es[j]? = some e1 := ⟨_, List.getElem?_eq_getElem (by omega)⟩
    obtain ⟨b, off, hab, hbl, hE1⟩ := HV.out.at HB1.out he1
    subst hab
    have q0 := hE1.c0
    have hka : kindAt es (es.length - 1) = e1.kind := by unfold kindAt; rw [show es.length - 1 = j by omega, he1]
    have HE : Hid ((e1.kind != 10) = r) := by
      show _ = _
      rw [← HR.out, hka]
      by_cases h : e1.kind = 10
      · rw [h]; rfl
      · rw [decide_eq_true h, bne_iff_ne.2 h]; rfl
    clear hE1 hka he1 hj hne hpos
    by_cases h10 : e1.kind = 10
    · have t10 : (e1.kind != 10) = false := by rw [h10]; rfl
      have HF : Hid (false = r) := by show _ = _; rw [← HE.out, t10]
      clear h10
      go_wp2_with fail
      go_ret
      exact ⟨ret_b HF.out, HB1.out⟩
    · have t10 : (e1.kind != 10) = true := by rw [bne_iff_ne]; exact h10
      have HF : Hid (true = r) := by show _ = _; rw [← HE.out, t10]
      clear h10
      go_wp2_with fail
      go_ret
      exact ⟨ret_b HF.out, HB1.out⟩
end Go.Proofs.Ytkdlakcmhdiojaa
/- The laws on nodes within events, walked, over impl's contracts: numbers and truths. -/
namespace Go.Proofs.Ytkdlakcmhdiojaa
open Go.ChangeShapes Go.WideShapes Go.ChangeAt Go.RowKit
/-- What is asked of impl.Tied. -/
def ImplTied : Prop := ∀ (w : World) (v : Value) (es : List Ev), SlE w v es → totE es + es.length ≤ 1048576 → (∀ e ∈ es, wfE e) →
    Calls Try.prog 46 #[v] w fun r w' => r = .returned (.bool (tied es)) ∧ Below w.heap.size w w'
/-- What is asked of impl.Whole. -/
def ImplWhole : Prop := ∀ (w : World) (v : Value) (es : List Ev), SlE w v es → totE es + es.length ≤ 1048576 → (∀ e ∈ es, wfE e) →
    Calls Try.prog 25 #[v] w fun r w' => r = .returned (.bool (whole es)) ∧ Below w.heap.size w w'
end Go.Proofs.Ytkdlakcmhdiojaa
/- The contract of impl.eachNode, over what is asked of the function that is told each node; EndOf and UpOf. -/
namespace Go.Proofs.Ytkdlakcmhdiojaa
open Go.ChangeShapes Go.WideShapes Go.ChangeAt Go.RowKit
def Sp.val (n : Sp) : Value := .agg #[.int .i64 (n.at_ : Int), .int .i64 n.end_, .int .i64 n.up]
/-- No block of nodes is changed. -/
def KeepS (w w' : World) : Prop := ∀ (k : Nat) (cs : Array Value) (fr : Nat × Nat), w.heap[k]? = some (.cells cs 83 fr) → w'.heap[k]? = some (.cells cs 83 fr)
theorem KeepS.of {w w' : World} (h : Below w.heap.size w w') : KeepS w w' := fun k _ _ hk => (h.block k (Array.getElem?_eq_some_iff.1 hk).1).trans hk
theorem KeepS.trans {a b c : World} (h : KeepS a b) (k : KeepS b c) : KeepS a c := fun j cs fr hj => k j cs fr (h j cs fr hj)
theorem KeepS.set {w0 w : World} (h : KeepS w0 w) {b j : Nat} {cs : Array Value} {t : TypeId} {fr : Nat × Nat} (hb : w.heap[b]? = some (.cells cs t fr)) (ht : t ≠ 83) (v : Value) : KeepS w0 (w.setCell ⟨b, j, none⟩ v) := by
  intro k cs' fr' hk
  have hk2 := h k cs' fr' hk
  by_cases e : k = b
  · subst e
    rw [hb] at hk2
    injection hk2 with hk2
    injection hk2 with _ h2
    exact absurd h2 ht
  · rw [Below.heap_setCell _ _ _ _ e]
    exact hk2
theorem rowS_keep {w w' : World} {lo : Nat} {v : Value} {n : Nat} {xs : List Value} (h : w.ownsRow lo 83 3 v n xs) (hk : KeepS w w') : w'.ownsRow lo 83 3 v n xs := by
  refine ⟨h.1, ?_⟩
  rcases h.2 with hn | ⟨g, cap, cur, e1, e2, hg, rest⟩
  · exact .inl hn
  · exact .inr ⟨g, cap, cur, e1, e2, hk g cur (0, 0) hg, rest⟩
/-- What is asked of the function that is told each node. -/
structure TellC {α : Type} (g : Nat) (rv : Value) (L : List Sp) (F : α → Sp → α) (I : α → World → Prop) (a0 : α) : Prop where
  enters : ∀ args w, (callFunc g args).run Try.prog w = .ok (.enter g args) w
  stays : ∀ a w w', I a w → Below w.heap.size w w' → I a w'
  call : ∀ k n w, L[k]? = some n → I ((L.take k).foldl F a0) w → Calls Try.prog g #[rv, n.val] w fun e w' => e = .returned (.tuple #[]) ∧ I (F ((L.take k).foldl F a0) n) w' ∧ KeepS w w'
set_option maxHeartbeats 8000000 in
theorem eachNode_any {α : Type} (g : Nat) (rv : Value) (F : α → Sp → α) (I : α → World → Prop) (a : α) (w : World) (v : Value) (es : List Ev) (hV : SlE w v es) (hl : totE es + es.length ≤ 1048576) (hf : ∀ e ∈ es, wfE e) (hT : TellC g rv (spansF es) F I a) (hI : I a w) :
    Calls Try.prog 28 #[v, .func (.func g) #[rv] #[]] w fun e w' => e = .returned (.bool (nested es)) ∧ I (if nested es = true then gat es F a es.length else a) w' := by
  have eg := hT.enters
  have HV : Hid (SlE w v es) := hV
  have HL : Hid (es.length ≤ 1048576) := by show es.length ≤ 1048576; omega
  have HI : Hid (I a w) := hI
  have cN := implNe w v es hV hl hf
  obtain ⟨L, hL⟩ : ∃ L, spansF es = L := ⟨_, rfl⟩
  rw [hL] at hT
  have HT : Hid (TellC g rv L F I a) := hT
  have hLl : L.length ≤ 1048576 := by
    rw [← hL]
    unfold spansF
    rw [List.length_map]
    have := nodesTo_le es es.length
    omega
  have HLL : Hid (spansF es = L) := hL
  have HLN : Hid (L.length ≤ 1048576) := hLl
  cases hn : nested es with
  | false =>
    rw [hn] at cN
    clear hV hl hf hT hI hLl hn
    go_enter Try.func28, Try.ntmps28
    go_wp2_with fail
    refine cN.mono ?_
    rintro e w1 ⟨rfl, hb1⟩
    have HO : Hid (I a w1) := HT.out.stays _ _ _ HI.out hb1
    clear hb1 cN
    go_wp2_with fail
    go_ret
    exact ⟨rfl, HO.out⟩
  | true =>
    have HN : Hid (nested es = true) := hn
    rw [hn] at cN
    simp only [if_true]
    have HR : Hid (gat es F a es.length = L.foldl F a) := by
      show _ = _
      rw [← hL]
      rfl
    rw [HR.out]
    clear hV hl hf hT hI hLl hn hL
    go_enter Try.func28, Try.ntmps28
    go_wp2_with fail
    refine cN.mono ?_
    rintro e w1 ⟨rfl, hb1⟩
    have HI1 : Hid (I a w1) := HT.out.stays _ _ _ HI.out hb1
    have cS := spansOf_any w1 v es (HV.out.stays hb1) HL.out HN.out
    rw [HLL.out] at cS
    clear hb1 cN
    go_wp2_with fail
    refine cS.mono ?_
    rintro e w2 ⟨sa, sn, sc, rfl, hrow, hb2⟩
    obtain rfl := slen hrow
    have HRW : Hid (w2.ownsRow w1.heap.size 83 3 (.slice sa L.length sc) L.length (rowsS L)) := hrow
    have HI2 : Hid (I (([] : List Sp).foldl F a) w2) := HT.out.stays _ _ _ HI1.out hb2
    clear hrow hb2 cS
    have hlen : (L.length : Int) ≤ 1048576 := by have := HLN.out; omega
    go_wp2_with fail
    go_loopw [13] (fun kv wr => ∃ k : Nat, kv = .int .i64 (k : Int) ∧ k ≤ L.length ∧ Hid (I ((L.take k).foldl F a) wr ∧ wr.ownsRow w1.heap.size 83 3 (.slice sa L.length sc) L.length (rowsS L))) (fun kv _ => L.length - (intOf kv).toNat)
    case atStart => exact ⟨0, rfl, Nat.zero_le _, HI2.out, HRW.out⟩
    case round =>
      clear HI2 HRW HI HI1
      obtain ⟨k, rfl, hk, HIN⟩ := hrel
      by_cases hlt : k < L.length
      · obtain ⟨n, hx⟩ : ∃ n, L[k]? = some n := ⟨_, List.getElem?_eq_getElem hlt⟩
        obtain ⟨gs, gc, cur, hsv, hs1, hs2, hs3, hs4, t0, t1, t2, _⟩ := rowS_at HIN.out.2 hx
        injection hsv with hsa _ hsc
        subst hsa
        subst hsc
        have hlt' : (k : Int) < (L.length : Int) := by omega
        have HLT : Hid (k < L.length) := hlt
        have htk : (L.take (k + 1)).foldl F a = F ((L.take k).foldl F a) n := by
          rw [List.take_add_one, hx, List.foldl_append]
          rfl
        obtain ⟨W, hW⟩ : ∃ W, wr.alloc (.cells #[.int .i64 (n.at_ : Int), .int .i64 n.end_, .int .i64 n.up] 83) = W := ⟨_, rfl⟩
        have hBW : Below wr.heap.size wr W := by rw [← hW]; exact (Below.refl _ wr).alloc (Nat.le_refl _) _
        have HIW : Hid (I ((L.take k).foldl F a) W) := HT.out.stays _ _ _ HIN.out.1 hBW
        have HRW : Hid (W.ownsRow w1.heap.size 83 3 (.slice (some ⟨gs, 0, none⟩) L.length sc) L.length (rowsS L)) := row_stays HIN.out.2 hBW
        have hnew : W.heap[wr.heap.size]? = some (.cells #[.int .i64 (n.at_ : Int), .int .i64 n.end_, .int .i64 n.up] 83 (0, 0)) := by rw [← hW]; exact heap_alloc_new wr _
        have u0 : W.cell? ⟨wr.heap.size, 0, none⟩ = some (.int .i64 (n.at_ : Int)) := Lib.cell_of_heap hnew 0
        have u1 : W.cell? ⟨wr.heap.size, 1, none⟩ = some (.int .i64 n.end_) := Lib.cell_of_heap hnew 1
        have u2 : W.cell? ⟨wr.heap.size, 2, none⟩ = some (.int .i64 n.up) := Lib.cell_of_heap hnew 2
        have cG := HT.out.call k n W hx HIW.out
        rw [← htk] at cG
        unfold Sp.val at cG
        have HW : Hid (wr.alloc (.cells #[.int .i64 (n.at_ : Int), .int .i64 n.end_, .int .i64 n.up] 83) = W) := hW
        clear hx hlt hk hs1 hs2 hs3 hs4 hW hBW hnew HIN HIW htk
        go_wp2_with fail
        rw [HW.out]
        clear HW t0 t1 t2
        go_wp2_with (go_at_fn g; refine cG.mono ?_; rintro e w3 ⟨rfl, hi3, hk3⟩)
        have HO : Hid (I ((L.take (k + 1)).foldl F a) w3 ∧ w3.ownsRow w1.heap.size 83 3 (.slice (some ⟨gs, 0, none⟩) L.length sc) L.length (rowsS L)) := ⟨hi3, rowS_keep HRW.out hk3⟩
        clear hi3 hk3 cG u0 u1 u2 HRW
        go_wp2_with fail
        go_roundw
        case rel => exact ⟨k + 1, by go_num, HLT.out, HO⟩
        case measure => have := HLT.out; simp [intOf]; omega
      · have hlt' : ¬ (k : Int) < (L.length : Int) := by omega
        have HO : Hid (I (L.foldl F a) wr) := by
          have := HIN.out.1
          rw [List.take_of_length_le (by omega)] at this
          exact this
        clear HIN hk hlt
        go_wp2_with fail
        go_ret
        exact ⟨rfl, HO.out⟩
end Go.Proofs.Ytkdlakcmhdiojaa
/- The contracts of impl.EndOf and impl.UpOf. -/
namespace Go.Proofs.Ytkdlakcmhdiojaa
open Go.ChangeShapes Go.WideShapes Go.ChangeAt Go.RowKit
theorem al_belowN (w : World) (o : Obj) : Below w.heap.size w (w.alloc o) := (Below.refl _ w).alloc (Nat.le_refl _) _
theorem al_new3 {w : World} {x y z : Value} : (w.alloc (.cells #[x, y, z] 83)).cell? ⟨w.heap.size, 0, none⟩ = some x ∧ (w.alloc (.cells #[x, y, z] 83)).cell? ⟨w.heap.size, 1, none⟩ = some y ∧ (w.alloc (.cells #[x, y, z] 83)).cell? ⟨w.heap.size, 2, none⟩ = some z :=
  ⟨Lib.cell_of_heap (heap_alloc_new w _) 0, Lib.cell_of_heap (heap_alloc_new w _) 1, Lib.cell_of_heap (heap_alloc_new w _) 2⟩
section
variable {b : Nat} {i f : Int} {w w' : World}
end
set_option maxHeartbeats 4000000 in
theorem ahead_any (n : Sp) (i : Int) (w : World) :
    Calls Try.prog 71 #[n.val, .int .i64 i] w fun e w' => e = .returned (.bool (ahead n i)) ∧ Below w.heap.size w w' := by
  obtain ⟨W, hW⟩ : ∃ W, w.alloc (.cells #[.int .i64 (n.at_ : Int), .int .i64 n.end_, .int .i64 n.up] 83) = W := ⟨_, rfl⟩
  have hBW : Below w.heap.size w W := by rw [← hW]; exact al_belowN w _
  obtain ⟨u0, u1, u2⟩ : W.cell? ⟨w.heap.size, 0, none⟩ = some (.int .i64 (n.at_ : Int)) ∧ W.cell? ⟨w.heap.size, 1, none⟩ = some (.int .i64 n.end_) ∧ W.cell? ⟨w.heap.size, 2, none⟩ = some (.int .i64 n.up) := by rw [← hW]; exact al_new3
  have HB : Hid (Below w.heap.size w W) := hBW
  have HW : Hid (w.alloc (.cells #[.int .i64 (n.at_ : Int), .int .i64 n.end_, .int .i64 n.up] 83) = W) := hW
  obtain ⟨r, hr⟩ : ∃ r, ahead n i = r := ⟨_, rfl⟩
  have HR : Hid (ahead n i = r) := hr
  rw [hr]
  clear hW hBW hr
  unfold Sp.val
  by_cases h : n.end_ = -1
  · have tt : (n.end_ != -1) = false := by simp [h]
    have HE : Hid (false = r) := by
      show _ = _
      rw [← HR.out]
      unfold ahead
      simp [h]
    clear h
    go_enter Try.func71, Try.ntmps71
    go_wp2_with fail
    rw [HW.out]
    go_wp2_with fail
    go_ret
    exact ⟨ret_bool HE.out, HB.out⟩
  · have tt : (n.end_ != -1) = true := by simp [h]
    have HE : Hid (decide (n.end_ < i) = r) := by
      show _ = _
      rw [← HR.out]
      unfold ahead
      simp [h]
    clear h
    go_enter Try.func71, Try.ntmps71
    go_wp2_with fail
    rw [HW.out]
    go_wp2_with fail
    go_ret
    exact ⟨ret_bool HE.out, HB.out⟩
end Go.Proofs.Ytkdlakcmhdiojaa
/- impl's ties in memory; the contracts of tie and take. -/
namespace Go.Proofs.Ytkdlakcmhdiojaa
open Go.ChangeShapes Go.WideShapes Go.ChangeAt Go.RowKit Go.Maps
def nkey (x : ByteArray) : Lit := .string x.data.toList
theorem nkey_fn : KeyFn nkey := by
  refine ⟨fun a b h e => ?_, fun _ => trivial⟩
  unfold nkey at e
  injection e with e
  exact h (ba_ext e)
def dkey (x : Int) : Lit := .int .i64 x
theorem dkey_fn : KeyFn dkey := by
  refine ⟨fun a b h e => ?_, fun _ => trivial⟩
  unfold dkey at e
  injection e with _ e
  exact h e
def natV (n : Nat) : Value := .int .i64 (n : Int)
theorem nkeyed : Keyed Try.prog 9 := string_keyed Try.underlying9
theorem dkeyed : Keyed Try.prog 3 := int_keyed Try.underlying3
theorem nkey_mk {x : ByteArray} (h : x.size ≤ 1073741824) : keyOf Try.prog 9 (.string x) = some (nkey x) := WideMaps.keyOf_string_mk Try.underlying9 (by unfold maxLen; omega)
theorem dkey_mk {x : Int} (h : (Lit.int .i64 x).wf = true) : keyOf Try.prog 3 (.int .i64 x) = some (dkey x) := keyOf_int_mk Try.underlying3 h
theorem zeroSp (w : World) : (zeroValue 83).run Try.prog w = .ok (.agg #[.int .i64 0, .int .i64 0, .int .i64 0]) w := Try.zeroValue83 w
theorem zeroNum (w : World) : (zeroValue 3).run Try.prog w = .ok (.int .i64 0) w := Try.zeroValue3 w
/-- The ties at block b. -/
def TsAt (b : Nat) (lv : Value) (root : Nat) (B1 B2 : Nat) (loose : Nat) (w : World) : Prop :=
  w.heap[b]? = some (.cells #[lv, .int .i64 (root : Int), .map (some B1), .map (some B2), .int .i64 (loose : Int)] 99 (0, 0))
section
variable {b : Nat} {lv : Value} {root B1 B2 loose : Nat} {w w' : World}
theorem TsAt.lt (h : TsAt b lv root B1 B2 loose w) : b < w.heap.size := (Array.getElem?_eq_some_iff.1 h).1
theorem TsAt.c0 (h : TsAt b lv root B1 B2 loose w) : w.cell? ⟨b, 0, none⟩ = some lv := by rw [Lib.cell_of_heap h]; rfl
theorem TsAt.c1 (h : TsAt b lv root B1 B2 loose w) : w.cell? ⟨b, 1, none⟩ = some (.int .i64 (root : Int)) := by rw [Lib.cell_of_heap h]; rfl
theorem TsAt.c2 (h : TsAt b lv root B1 B2 loose w) : w.cell? ⟨b, 2, none⟩ = some (.map (some B1)) := by rw [Lib.cell_of_heap h]; rfl
theorem TsAt.c3 (h : TsAt b lv root B1 B2 loose w) : w.cell? ⟨b, 3, none⟩ = some (.map (some B2)) := by rw [Lib.cell_of_heap h]; rfl
theorem TsAt.c4 (h : TsAt b lv root B1 B2 loose w) : w.cell? ⟨b, 4, none⟩ = some (.int .i64 (loose : Int)) := by rw [Lib.cell_of_heap h]; rfl
theorem TsAt.fz (h : TsAt b lv root B1 B2 loose w) (j : Nat) : w.frozen? ⟨b, j, none⟩ = false := Lib.frozen_of_heap h j
theorem TsAt.same (h : TsAt b lv root B1 B2 loose w) (hb : w'.heap[b]? = w.heap[b]?) : TsAt b lv root B1 B2 loose w' := hb.trans h
theorem TsAt.set1 (h : TsAt b lv root B1 B2 loose w) (x : Nat) : TsAt b lv x B1 B2 loose (w.setCell ⟨b, 1, none⟩ (.int .i64 (x : Int))) := by
  unfold TsAt at *
  simp [World.setCell, Array.getElem?_modify, h]
theorem TsAt.set4 (h : TsAt b lv root B1 B2 loose w) (x : Nat) : TsAt b lv root B1 B2 x (w.setCell ⟨b, 4, none⟩ (.int .i64 (x : Int))) := by
  unfold TsAt at *
  simp [World.setCell, Array.getElem?_modify, h]
end
/-- What lies beside the ties' own blocks lies as it lay. -/
def KeepO (b B1 B2 : Nat) (w w' : World) : Prop := w.heap.size ≤ w'.heap.size ∧ ∀ x, x < w.heap.size → x ≠ b → x ≠ B1 → x ≠ B2 → w'.heap[x]? = w.heap[x]?
/-- What is tied of k nodes, and that all that lay is as it lay. -/
structure TsI (b B1 B2 : Nat) (lv : Value) (w0 : World) (t : Ti) (k : Nat) (w : World) : Prop where
  at_ : TsAt b lv t.root B1 B2 t.loose w
  nm : ∃ n, n ≤ k ∧ MapM Try.prog 9 nkey Sp.val w B1 n t.named
  df : ∃ n, n ≤ k ∧ MapM Try.prog 3 dkey natV w B2 n t.defs
  ls : t.loose ≤ k
  below : Below w0.heap.size w0 w
  hi : w0.heap.size ≤ b ∧ w0.heap.size ≤ B1 ∧ w0.heap.size ≤ B2
  ne : b ≠ B1 ∧ b ≠ B2 ∧ B1 ≠ B2
section
variable {b B1 B2 : Nat} {lv : Value} {w0 w w' : World} {t : Ti} {k : Nat}
theorem TsI.stays (h : TsI b B1 B2 lv w0 t k w) (hb : Below w.heap.size w w') : TsI b B1 B2 lv w0 t k w' := by
  obtain ⟨n1, h1, h2⟩ := h.nm
  obtain ⟨n2, h3, h4⟩ := h.df
  exact ⟨h.at_.same (hb.block b h.at_.lt), ⟨n1, h1, h2.same (hb.block _ h2.lt)⟩, ⟨n2, h3, h4.same (hb.block _ h4.lt)⟩, h.ls, h.below.trans (hb.mono h.below.size), h.hi, h.ne⟩
theorem TsI.more (h : TsI b B1 B2 lv w0 t k w) : TsI b B1 B2 lv w0 t (k + 1) w := by
  obtain ⟨n1, h1, h2⟩ := h.nm
  obtain ⟨n2, h3, h4⟩ := h.df
  exact ⟨h.at_, ⟨n1, by omega, h2⟩, ⟨n2, by omega, h4⟩, by have := h.ls; omega, h.below, h.hi, h.ne⟩
/-- A cell of the ties' own block is stored. -/
theorem TsI.cell (h : TsI b B1 B2 lv w0 t k w) {j : Nat} {x : Value} {t' : Ti} (ha : TsAt b lv t'.root B1 B2 t'.loose (w.setCell ⟨b, j, none⟩ x)) (hn : t'.named = t.named) (hd : t'.defs = t.defs) {k' : Nat} (hk : k ≤ k') (hl : t'.loose ≤ k') : TsI b B1 B2 lv w0 t' k' (w.setCell ⟨b, j, none⟩ x) := by
  obtain ⟨n1, h1, h2⟩ := h.nm
  obtain ⟨n2, h3, h4⟩ := h.df
  rw [← hn] at h2
  rw [← hd] at h4
  exact ⟨ha, ⟨n1, by omega, h2.same (Below.heap_setCell _ _ _ _ (Ne.symm h.ne.1))⟩, ⟨n2, by omega, h4.same (Below.heap_setCell _ _ _ _ (Ne.symm h.ne.2.1))⟩, hl, h.below.setCell h.hi.1 x, h.hi, h.ne⟩
theorem KeepO.of (h : Below w.heap.size w w') : KeepO b B1 B2 w w' := ⟨h.size, fun x hx _ _ _ => h.block x hx⟩
theorem KeepO.trans {a c d : World} (h : KeepO b B1 B2 a c) (k : KeepO b B1 B2 c d) : KeepO b B1 B2 a d := ⟨Nat.le_trans h.1 k.1, fun x hx h1 h2 h3 => (k.2 x (Nat.lt_of_lt_of_le hx h.1) h1 h2 h3).trans (h.2 x hx h1 h2 h3)⟩
theorem TsI.keep (_ : TsI b B1 B2 lv w0 t k w) (j : Nat) (x : Value) : KeepO b B1 B2 w (w.setCell ⟨b, j, none⟩ x) := ⟨by simp [World.setCell], fun _ _ h1 _ _ => Below.heap_setCell _ _ _ _ h1⟩
theorem keep_map1 (hg : w.grownBy w' (some B1)) : KeepO b B1 B2 w w' := ⟨hg.size, fun x hx _ h2 _ => hg.block x hx (fun e => h2 (Option.some.inj e))⟩
theorem keep_map2 (hg : w.grownBy w' (some B2)) : KeepO b B1 B2 w w' := ⟨hg.size, fun x hx _ _ h3 => hg.block x hx (fun e => h3 (Option.some.inj e))⟩
theorem KeepO.toS (h : KeepO b B1 B2 w w') (hI : TsI b B1 B2 lv w0 t k w) : KeepS w w' := fun x cs fr hx => by
  obtain ⟨_, _, h2⟩ := hI.nm
  obtain ⟨_, _, h4⟩ := hI.df
  obtain ⟨_, _, e2⟩ := h2.isMap
  obtain ⟨_, _, e4⟩ := h4.isMap
  have h0 := hI.at_
  unfold TsAt at h0
  rw [h.2 x (Array.getElem?_eq_some_iff.1 hx).1 (fun e => ?_) (fun e => ?_) (fun e => ?_), hx]
  · subst e
    rw [hx] at h0
    injection h0 with h0
    injection h0 with _ h0
    exact absurd h0 (by decide)
  · subst e
    rw [hx] at e2
    cases e2
  · subst e
    rw [hx] at e4
    cases e4
theorem below_map {B : Nat} (h : Below w0.heap.size w0 w) (hg : w.grownBy w' (some B)) (hB : w0.heap.size ≤ B) : Below w0.heap.size w0 w' :=
  h.trans ⟨hg.os, hg.tape, hg.output, hg.size, fun j hj => hg.block j (by have := h.size; omega) (by simp; omega)⟩
theorem TsI.putN (h : TsI b B1 B2 lv w0 t k w) (x : ByteArray) (n : Sp) (hx : x.size ≤ 1073741824) (hk : k ≤ 2000000) :
    ∃ w', (Instr.mapUpdate 96 (.map (some B1)) (.string x) n.val).run Try.prog w = .ok () w' ∧ TsI b B1 B2 lv w0 (t.name x n) (k + 1) w' ∧ KeepO b B1 B2 w w' := by
  obtain ⟨n1, h1, h2⟩ := h.nm
  obtain ⟨n2, h3, h4⟩ := h.df
  obtain ⟨w', hup, hM, hg⟩ := h2.put nkey_fn nkeyed Try.underlying96 x n (nkey_mk hx) (by unfold maxLen; omega)
  refine ⟨w', hup, ⟨h.at_.same (hg.block b h.at_.lt (by simp; exact h.ne.1)), ⟨n1 + 1, by omega, hM⟩, ⟨n2, by omega, h4.same (hg.block B2 h4.lt (by simp; exact Ne.symm h.ne.2.2))⟩, by have := h.ls; show t.loose ≤ k + 1; omega, below_map h.below hg h.hi.2.1, h.hi, h.ne⟩, keep_map1 hg⟩
theorem TsI.putD (h : TsI b B1 B2 lv w0 t k w) (a n : Nat) (ha : a ≤ 2000000) (hk : k ≤ 2000000) :
    ∃ w', (Instr.mapUpdate 97 (.map (some B2)) (.int .i64 (a : Int)) (.int .i64 (n : Int))).run Try.prog w = .ok () w' ∧ TsI b B1 B2 lv w0 { t with defs := putFn t.defs (a : Int) n } (k + 1) w' ∧ KeepO b B1 B2 w w' := by
  obtain ⟨n1, h1, h2⟩ := h.nm
  obtain ⟨n2, h3, h4⟩ := h.df
  obtain ⟨w', hup, hM, hg⟩ := h4.put dkey_fn dkeyed Try.underlying97 (a : Int) n (dkey_mk (WalkArith.wf_i64 (by omega))) (by unfold maxLen; omega)
  refine ⟨w', hup, ⟨h.at_.same (hg.block b h.at_.lt (by simp; exact h.ne.2.1)), ⟨n1, by omega, h2.same (hg.block B1 h2.lt (by simp; exact h.ne.2.2))⟩, ⟨n2 + 1, by omega, hM⟩, by have := h.ls; show t.loose ≤ k + 1; omega, below_map h.below hg h.hi.2.2, h.hi, h.ne⟩, keep_map2 hg⟩
end
end Go.Proofs.Ytkdlakcmhdiojaa

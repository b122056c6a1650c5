/- The specification's PathText. -/
import Derived.Test.YtmbbmibkjnlkkaaDoorSqt
import Derived.Test.YtmbbmibkjnlkkaaDoorJpt
import Derived.Test.YtmbbmibkjnlkkaaDoorHsk
namespace Go.Proofs.YtmbbmibkjnlkkaaDoor
open Go.ChangeShapes Go.WideShapes Go.ChangeAt Go.RowKit
def outL : List ByteArray → ByteArray
  | [] => ⟨#[]⟩
  | x :: t => sl47 ++ x ++ outL t
theorem ba_assoc (a b c : ByteArray) : a ++ b ++ c = a ++ (b ++ c) := by
  apply ba_ext0
  simp [ByteArray.data_append, Array.append_assoc]
theorem ba_empL (a : ByteArray) : (⟨#[]⟩ : ByteArray) ++ a = a := by
  apply ba_ext0
  simp [ByteArray.data_append]
theorem ba_empR (a : ByteArray) : a ++ (⟨#[]⟩ : ByteArray) = a := by
  apply ba_ext0
  simp [ByteArray.data_append]
theorem outL_snoc : ∀ (l : List ByteArray) (x : ByteArray), outL (l ++ [x]) = outL l ++ sl47 ++ x
  | [], x => by
    show sl47 ++ x ++ ⟨#[]⟩ = ⟨#[]⟩ ++ sl47 ++ x
    rw [ba_empR, ba_empL]
  | y :: t, x => by
    show sl47 ++ y ++ outL (t ++ [x]) = sl47 ++ y ++ outL t ++ sl47 ++ x
    rw [outL_snoc t x, ba_assoc (sl47 ++ y), ba_assoc (sl47 ++ y), ba_assoc (outL t)]
theorem outL_join : ∀ (x : ByteArray) (t : List ByteArray), outL (x :: t) = sl47 ++ joinS (x :: t)
  | x, [] => by show sl47 ++ x ++ ⟨#[]⟩ = _; rw [ba_empR]; rfl
  | x, y :: t => by
    show sl47 ++ x ++ outL (y :: t) = sl47 ++ (x ++ sl47 ++ joinS (y :: t))
    rw [outL_join y t, ba_assoc, ba_assoc x]
theorem outL_sz : ∀ l : List ByteArray, (outL l).size = totT l + l.length
  | [] => rfl
  | x :: t => by
    have ih := outL_sz t
    show (sl47 ++ x ++ outL t).size = x.size + totT t + (t.length + 1)
    rw [ByteArray.size_append, ByteArray.size_append, ih]
    have h1 : sl47.size = 1 := rfl
    omega
theorem totP_le {es : List Sg} {k : Nat} : totP (es.take k) ≤ totP es := by
  have h := totP_app (es.take k) (es.drop k)
  rw [List.take_append_drop] at h
  omega
/-- What was written of the first k steps. -/
def outK (es : List Sg) (k : Nat) : ByteArray := outL ((es.take k).map segT)
theorem outK_sz (es : List Sg) (k : Nat) : (outK es k).size ≤ 2 * totP es + 12 * es.length := by
  unfold outK
  rw [outL_sz]
  have h1 := totT_sz (es.take k)
  have h2 := @totP_le es k
  have h3 : (es.take k).length ≤ es.length := by rw [List.length_take]; omega
  rw [List.length_map]
  omega
theorem outK_more {es : List Sg} {k : Nat} {s : Sg} (h : es[k]? = some s) : outK es (k + 1) = outK es k ++ sl47 ++ segT s := by
  unfold outK
  rw [List.take_add_one, h]
  show outL (List.map segT (es.take k ++ [s])) = _
  rw [List.map_append]
  exact outL_snoc _ _
theorem outK_all (es : List Sg) (h : es ≠ []) : outK es es.length = sl47 ++ joinS (es.map segT) := by
  unfold outK
  rw [List.take_length]
  cases es with
  | nil => exact absurd rfl h
  | cons s t => exact outL_join _ _
theorem segT_1 (n : Int) (t : ByteArray) : segT ⟨1, n, t⟩ = nt n := rfl
theorem segT_2 (n : Int) (t : ByteArray) : segT ⟨2, n, t⟩ = keyT t := rfl
theorem segT_3 (n : Int) (t : ByteArray) : segT ⟨3, n, t⟩ = (⟨#[64]⟩ : ByteArray) ++ nt n := rfl
theorem segT_4 (n : Int) (t : ByteArray) : segT ⟨4, n, t⟩ = ⟨#[42]⟩ := rfl
theorem segT_5 (n : Int) (t : ByteArray) : segT ⟨5, n, t⟩ = ⟨#[42, 42]⟩ := rfl
theorem all_upto {es : List Sg} {k : Nat} (h : (es.take k).all segOk = true) (hk : k = es.length) : es.all segOk = true := by rw [hk, List.take_length] at h; exact h
set_option maxRecDepth 100000 in
set_option maxHeartbeats 16000000 in
theorem spec_pathText (w : World) (v : Value) (es : List Sg) (hV : SgL w v es) (hl : totP es + es.length ≤ 1048576) :
    Calls Tryd.prog 19 #[v] w fun e w' => e = .returned (.string (pathT es)) ∧ Below w.heap.size w w' := by
  obtain ⟨a, c, rfl⟩ := hV.sl
  have HP : Hid (pathT es = if 60 < es.length then ⟨#[]⟩ else if es.all segOk = true then sl47 ++ joinS (es.map segT) else ⟨#[]⟩) := rfl
  generalize pathT es = o at *
  by_cases hlong : 60 < es.length
  · have h1 : (60 : Int) < (es.length : Int) := by omega
    have HO : Hid ((⟨#[]⟩ : ByteArray) = o) := by show _ = _; rw [HP.out, if_pos hlong]
    clear hV hl HP hlong
    go_enter Tryd.func19, Tryd.ntmps19
    go_wp2_with fail
    go_ret
    exact ⟨ret_sQ HO.out, Below.refl _ _⟩
  have h1 : ¬ (60 : Int) < (es.length : Int) := by omega
  have HV : Hid (SgL w (.slice a es.length c) es ∧ totP es + es.length ≤ 1048576 ∧ es.length ≤ 60) := ⟨hV, hl, by omega⟩
  have HO : Hid (o = if es.all segOk = true then sl47 ++ joinS (es.map segT) else ⟨#[]⟩) := by show _ = _; rw [HP.out, if_neg hlong]
  clear hV hl HP hlong
  go_enter Tryd.func19, Tryd.ntmps19
  go_wp2_with fail
  go_loopw [3, 11] (fun ov kv wr => ∃ (k : Nat) (u : ByteArray), ov = .string u ∧ kv = .int .i64 (k : Int) ∧ k ≤ es.length ∧ Hid (u = outK es k ∧ (es.take k).all segOk = true ∧ Below w.heap.size w wr)) (fun _ kv _ => es.length - (intOf kv).toNat)
  case atStart => exact ⟨0, _, rfl, rfl, Nat.zero_le _, rfl, rfl, Below.refl _ _⟩
  case round =>
    obtain ⟨k, u, rfl, rfl, hk, HR⟩ := hrel
    by_cases hlt : k < es.length
    case neg =>
      have hlt' : ¬ (k : Int) < (es.length : Int) := by omega
      have hke : k = es.length := by omega
      have hok := all_upto HR.out.2.1 hke
      have hu := HR.out.1
      have HB : Hid (Below w.heap.size w wr) := HR.out.2.2
      have HO2 : Hid (o = sl47 ++ joinS (es.map segT)) := by show _ = _; rw [HO.out, if_pos hok]
      rw [hke] at hu
      clear HR hlt hk hok HO
      by_cases h0 : es = []
      · have hu0 : u = ⟨#[]⟩ := by rw [hu, h0]; rfl
        have HE : Hid ((⟨#[47]⟩ : ByteArray) = o) := by
          show _ = _
          rw [HO2.out, h0]
          show _ = sl47 ++ (⟨#[]⟩ : ByteArray)
          rw [ba_empR]
          rfl
        have t1 : (u.toList == []) = true := by rw [hu0, emp_toList]; rfl
        clear hu hu0 HO2 h0 hke
        go_wp2_with fail
        go_ret
        exact ⟨ret_sQ HE.out, HB.out⟩
      · have HE : Hid (u = o) := by show _ = _; rw [HO2.out, hu, outK_all es h0]
        have t1 : (u.toList == []) = false := by
          rw [beq_eq_false_iff_ne, hu, outK_all es h0]
          intro e
          have h2 := congrArg List.length e
          rw [ByteArray.toList_eq, ByteArray.data_append, Array.toList_append, List.length_append] at h2
          simp [sl47] at h2
        clear hu HO2 h0 hke
        go_wp2_with fail
        go_ret
        exact ⟨ret_sQ HE.out, HB.out⟩
    have hlt' : (k : Int) < (es.length : Int) := by omega
    obtain ⟨s, hs⟩ : ∃ s, es[k]? = some s := ⟨_, List.getElem?_eq_getElem hlt⟩
    have hts : s.text.size ≤ 1048576 := by
      have := totP_mem (List.mem_of_getElem? hs)
      have := HV.out.2.1
      unfold Sg.tot at *
      omega
    have husz : u.size ≤ 3000000 := by
      have h1 := outK_sz es k
      have h2 := HV.out.2
      rw [HR.out.1]
      omega
    have HK : Hid (k < es.length ∧ es[k]? = some s ∧ outK es (k + 1) = u ++ sl47 ++ segT s ∧ s.text.size ≤ 1048576) := ⟨hlt, hs, by rw [outK_more hs, HR.out.1], hts⟩
    obtain ⟨b, off, e2, _, ⟨c0, c1, c2⟩⟩ := HV.out.1.at HR.out.2.2 hs
    subst e2
    obtain ⟨sk, sn, st⟩ := s
    simp only at c0 c1 c2 hts
    obtain ⟨W, hW⟩ : ∃ W, wr.alloc (.cells #[.int .i64 sk, .int .i64 sn, .string st] 29) = W := ⟨_, rfl⟩
    have HW : Hid (wr.alloc (.cells #[.int .i64 sk, .int .i64 sn, .string st] 29) = W) := hW
    have hbW : Below wr.heap.size wr W := by rw [← hW]; exact (Below.refl _ wr).alloc (Nat.le_refl _) _
    have HBW : Hid (Below w.heap.size w W) := HR.out.2.2.trans (hbW.mono HR.out.2.2.size)
    have hn : W.heap[wr.heap.size]? = some (.cells #[.int .i64 sk, .int .i64 sn, .string st] 29 (0, 0)) := by rw [← hW]; exact heap_alloc_new wr _
    have HN : Hid (W.heap[wr.heap.size]? = some (.cells #[.int .i64 sk, .int .i64 sn, .string st] 29 (0, 0))) := hn
    obtain ⟨q0, q1, q2⟩ := row_atP hn
    have HA : Hid ((es.take k).all segOk = true) := HR.out.2.1
    have cS := spec_segOk ⟨sk, sn, st⟩ W
    unfold Sg.row at cS
    simp only at cS
    clear hs hW hbW hn hlt hk HR
    go_wp2_with fail
    rw [HW.out]
    clear c0 c1 c2
    go_wp2_with fail
    refine cS.mono ?_
    rintro e w5 ⟨rfl, hb5⟩
    have HB5 : Hid (Below w.heap.size w w5) := HBW.out.trans (hb5.mono HBW.out.size)
    have HN5 : Hid (w5.heap[wr.heap.size]? = some (.cells #[.int .i64 sk, .int .i64 sn, .string st] 29 (0, 0))) := (hb5.block _ (Array.getElem?_eq_some_iff.1 HN.out).1).trans HN.out
    clear q0 q1 q2 cS hb5
    cases hok : segOk ⟨sk, sn, st⟩ with
    | false =>
      have HE : Hid ((⟨#[]⟩ : ByteArray) = o) := by show _ = _; rw [HO.out, if_neg (by rw [all_bad HK.out.2.1 hok]; simp)]
      clear hok HO
      go_wp2_with fail
      go_ret
      exact ⟨ret_sQ HE.out, HB5.out⟩
    | true =>
      have HA1 : Hid ((es.take (k + 1)).all segOk = true) := all_take HA.out HK.out.2.1 hok
      have hkk := (segOk_cases hok).2.2
      simp only at hkk
      have hz := nt_sz sn
      obtain ⟨q0, q1, q2⟩ := row_atP HN5.out
      have CN : Hid (∀ x, Calls Tryd.prog 34 #[.int .i64 sn] x fun e w' => e = .returned (.string (nt sn)) ∧ Below x.heap.size x w') := fun x => spec_nt sn x
      have hkk2 : sk = 1 ∨ sk = 2 ∨ sk = 3 ∨ sk = 4 ∨ sk = 5 := by omega
      clear hok hkk HO HA
      rcases hkk2 with rfl | rfl | rfl | rfl | rfl
      · have HE : Hid (outK es (k + 1) = u ++ ⟨#[47]⟩ ++ nt sn) := HK.out.2.2.1
        generalize nt sn = z at *
        go_wp2_with fail
        refine (CN.out w5).mono ?_
        rintro e w6 ⟨rfl, hb6⟩
        have HO6 : Hid (u ++ ⟨#[47]⟩ ++ z = outK es (k + 1) ∧ (es.take (k + 1)).all segOk = true ∧ Below w.heap.size w w6) := ⟨HE.out.symm, HA1.out, HB5.out.trans (hb6.mono HB5.out.size)⟩
        clear hb6 q0 q1 q2
        go_wp2_with fail
        go_roundw
        case rel => exact ⟨k + 1, _, rfl, by go_num, HK.out.1, HO6⟩
        case measure => have := HK.out.1; simp [intOf]; omega
      · have HE : Hid (outK es (k + 1) = u ++ ⟨#[47]⟩ ++ keyT st) := HK.out.2.2.1
        have CW : Hid (Calls Tryd.prog 35 #[.string st] w5 fun e w' => e = .returned (.bool (wordT st)) ∧ w' = w5) := spec_word st w5 HK.out.2.2.2
        have CQ : Hid (Calls Tryd.prog 36 #[.string st] w5 fun e w' => e = .returned (.string (quoteT st)) ∧ Below w5.heap.size w5 w') := spec_quote st w5 HK.out.2.2.2
        have HKT : Hid (keyT st = if wordT st = true then st else quoteT st) := rfl
        have hqz : (quoteT st).size ≤ 2097154 := by
          unfold quoteT
          rw [ByteArray.size_append, ByteArray.size_append]
          have h1 : q39.size = 1 := rfl
          have h2 : (⟨(dbl st.data.toList).toArray⟩ : ByteArray).size ≤ 2 * st.size := by
            show (dbl st.data.toList).length ≤ _
            have := dbl_len st.data.toList
            have h3 : st.data.toList.length = st.size := Array.length_toList
            omega
          omega
        generalize quoteT st = qt at *
        go_wp2_with fail
        refine CW.out.mono ?_
        rintro e w6 ⟨rfl, rfl⟩
        cases hw : wordT st with
        | true =>
          have HO6 : Hid (u ++ ⟨#[47]⟩ ++ st = outK es (k + 1) ∧ (es.take (k + 1)).all segOk = true ∧ Below w.heap.size w w6) := ⟨by rw [HE.out, HKT.out, hw]; rfl, HA1.out, HB5.out⟩
          clear hw
          go_wp2_with fail
          go_roundw
          case rel => exact ⟨k + 1, _, rfl, by go_num, HK.out.1, HO6⟩
          case measure => have := HK.out.1; simp [intOf]; omega
        | false =>
          have HEQ : Hid (u ++ ⟨#[47]⟩ ++ qt = outK es (k + 1)) := by show _ = _; rw [HE.out, HKT.out, hw]; rfl
          clear hw
          go_wp2_with fail
          refine CQ.out.mono ?_
          rintro e w7 ⟨rfl, hb7⟩
          have HO6 : Hid (u ++ ⟨#[47]⟩ ++ qt = outK es (k + 1) ∧ (es.take (k + 1)).all segOk = true ∧ Below w.heap.size w w7) := ⟨HEQ.out, HA1.out, HB5.out.trans (hb7.mono HB5.out.size)⟩
          clear hb7 q0 q1 q2
          go_wp2_with fail
          go_roundw
          case rel => exact ⟨k + 1, _, rfl, by go_num, HK.out.1, HO6⟩
          case measure => have := HK.out.1; simp [intOf]; omega
      · have HE : Hid (outK es (k + 1) = u ++ ⟨#[47]⟩ ++ ⟨#[64]⟩ ++ nt sn) := by show _ = _; rw [HK.out.2.2.1, segT_3]; exact (ba_assoc _ _ _).symm
        generalize nt sn = z at *
        go_wp2_with fail
        refine (CN.out w5).mono ?_
        rintro e w6 ⟨rfl, hb6⟩
        have HO6 : Hid (u ++ ⟨#[47]⟩ ++ ⟨#[64]⟩ ++ z = outK es (k + 1) ∧ (es.take (k + 1)).all segOk = true ∧ Below w.heap.size w w6) := ⟨HE.out.symm, HA1.out, HB5.out.trans (hb6.mono HB5.out.size)⟩
        clear hb6 q0 q1 q2
        go_wp2_with fail
        go_roundw
        case rel => exact ⟨k + 1, _, rfl, by go_num, HK.out.1, HO6⟩
        case measure => have := HK.out.1; simp [intOf]; omega
      · have HO6 : Hid (u ++ ⟨#[47]⟩ ++ ⟨#[42]⟩ = outK es (k + 1) ∧ (es.take (k + 1)).all segOk = true ∧ Below w.heap.size w w5) := ⟨HK.out.2.2.1.symm, HA1.out, HB5.out⟩
        clear CN
        go_wp2_with fail
        go_roundw
        case rel => exact ⟨k + 1, _, rfl, by go_num, HK.out.1, HO6⟩
        case measure => have := HK.out.1; simp [intOf]; omega
      · have HO6 : Hid (u ++ ⟨#[47]⟩ ++ ⟨#[42, 42]⟩ = outK es (k + 1) ∧ (es.take (k + 1)).all segOk = true ∧ Below w.heap.size w w5) := ⟨HK.out.2.2.1.symm, HA1.out, HB5.out⟩
        clear CN
        go_wp2_with fail
        go_roundw
        case rel => exact ⟨k + 1, _, rfl, by go_num, HK.out.1, HO6⟩
        case measure => have := HK.out.1; simp [intOf]; omega
end Go.Proofs.YtmbbmibkjnlkkaaDoor

/- The contract of impl.LiteralAt. -/
import Derived.Test.YtfpkcfedkjjjbacIlf
import Derived.Test.YtfpkcfedkjjjbacIhs
import Derived.Test.YtfpkcfedkjjjbacIbt
import Derived.Deep.Light
namespace Go.Proofs.Ytfpkcfedkjjjbac
open Go.ChangeShapes Go.WideShapes Go.ChangeAt Go.RowKit Go.Shelf
/-- The lines from q on, as impl goes. -/
def liGo (s : ByteArray) (d fr : Nat) : Nat → Nat → List ByteArray → List ByteArray × Nat
  | 0, q, l => (l, q)
  | f + 1, q, l => if enI s d q = true then (l, q) else liGo s d fr f (nx s q) (l ++ [tkI s d fr q])
theorem li_end {s : ByteArray} {d fr f q : Nat} {l : List ByteArray} (h : enI s d q = true) : liGo s d fr f q l = (l, q) := by
  cases f with
  | zero => rfl
  | succ f => rw [liGo, if_pos h]
theorem li_step {s : ByteArray} {d fr f q : Nat} {l : List ByteArray} (h : enI s d q = false) : liGo s d fr (f + 1) q l = liGo s d fr f (nx s q) (l ++ [tkI s d fr q]) := by rw [liGo, if_neg (by rw [h]; simp)]
def liR (s : ByteArray) (n : Int) (x : Nat × Nat × Nat × Nat) : List ByteArray × Nat := liGo s (dpI s (nx s x.2.2.1) n x.1).1 (dpI s (nx s x.2.2.1) n x.1).2 (s.size + 1) (nx s x.2.2.1) []
/-- What impl.LiteralAt answers. -/
def litI (s : ByteArray) (k : Nat) (n : Int) : ByteArray × Nat × Nat :=
  if (hdAt s k).2.2.2 ≠ 0 then (ByteArray.empty, (hdAt s k).2.2.1, (hdAt s k).2.2.2)
  else (blockText (liR s n (hdAt s k)).1 (decide (bt s k = 62)) ((hdAt s k).2.1 : Nat), (liR s n (hdAt s k)).2, 0)
theorem en_false {s : ByteArray} {d q : Nat} (h : enI s d q = false) : q < s.size ∧ markN s q = 0 ∧ (lone s q = false → d ≤ ind s q) := by
  unfold enI at h
  simp only [Bool.or_eq_false_iff, decide_eq_false_iff_not, Bool.and_eq_false_iff, Bool.not_eq_false'] at h
  obtain ⟨h1, h2, h3⟩ := h
  refine ⟨by omega, by omega, fun hl => ?_⟩
  rcases h3 with h3 | h3
  · rw [hl] at h3; cases h3
  · omega
theorem tk_size {s : ByteArray} {d fr q : Nat} (hq : q < s.size) : (tkI s d fr q).size ≤ nx s q - q ∧ q < nx s q := by
  have h1 := nx_gt s q hq
  refine ⟨?_, h1⟩
  unfold tkI
  split
  · show 0 ≤ _; omega
  · have he := fwd_le pN s q (by omega)
    rw [ByteArray.size_extract]
    unfold nx endL
    split <;> omega
theorem put_any (w : World) (a : Option Addr) (c : Nat) (ss : List ByteArray) (fd : Bool) (ch : Int) (hV : SlS w (.slice a ss.length c) ss) (ht : totS ss + ss.length ≤ 8388608) (hw : (Lit.int .i64 ch).wf = true) (T : ByteArray) (hT : blockText ss fd ch = T) :
    Calls Try.prog 26 #[.bool fd, .int .i64 ch, .slice a ss.length c] w fun e w' => e = .returned (.string T) ∧ Below w.heap.size w w' := by
  have cB := implBt w _ ss fd ch hV ht hw
  rw [hT] at cB
  clear hV ht hw hT
  go_enter Try.func26, Try.ntmps26
  go_wp2_with fail
  refine cB.mono ?_
  rintro e w1 ⟨rfl, hb1⟩
  clear cB
  go_wp2_with fail
  go_ret
  exact ⟨rfl, hb1⟩
set_option maxRecDepth 100000 in
set_option maxHeartbeats 16000000 in
theorem implLiI (s : ByteArray) (p n : Int) (w : World) (T : ByteArray) (E K : Nat) (hs : s.size ≤ 1048576) (hr : litI s (cl s.size p) n = (T, E, K)) :
    Calls Try.prog 7 #[.string s, .int .i64 p, .int .i64 n] w fun e w' => e = .returned (.tuple #[.string T, .int .i64 (E : Int), .int .i64 (K : Int)]) ∧ Below w.heap.size w w' := by
  have hcl := cl_le s.size p
  have hmx : s.size ≤ mx := by unfold mx; omega
  obtain ⟨g, c, r, k0, hh⟩ : ∃ g c r k0, hdAt s (cl s.size p) = (g, c, r, k0) := ⟨_, _, _, _, rfl⟩
  have cH := implHe s p w g c r k0 hs hh
  by_cases hk : k0 = 0
  · subst hk
    obtain ⟨hkl, hg9, hc2, hrs⟩ := hd_facts hh
    have HO : Hid ((blockText (liR s n (g, c, r, 0)).1 (decide (bt s (cl s.size p) = 62)) (c : Int), (liR s n (g, c, r, 0)).2, 0) = (T, E, K)) := by
      have h := hr
      unfold litI at h
      rw [hh, if_neg (by simp)] at h
      exact h
    have cN0 : Hid (∀ w, Calls Try.prog 20 #[.string s, .int .i64 (r : Int)] w fun e w' => e = .returned (.int .i64 (nx s r : Nat)) ∧ Below w.heap.size w w') := fun w => next_any s r _ w hmx hrs rfl
    have hq0 := nx_le s r hrs
    have HQB : Hid (nx s r < s.size → lnb s (nx s r) = nx s r) := fun h => nx_beg h
    obtain ⟨d, fr, hd⟩ : ∃ d fr, dpI s (nx s r) n g = (d, fr) := ⟨_, _, rfl⟩
    have cD : Hid (∀ w, Calls Try.prog 21 #[.string s, .int .i64 (nx s r : Nat), .int .i64 n, .int .i64 (g : Int)] w fun e w' => e = .returned (.agg #[.int .i64 (d : Int), .int .i64 (fr : Int)]) ∧ Below w.heap.size w w') := fun w => depthOf_any s (nx s r) n g w hmx hq0 hg9 d fr hd
    have cS : Hid (∀ w, Calls Try.prog 24 #[.string s, .int .i64 (cl s.size p : Nat), .string ⟨#[62]⟩] w fun e w' => e = .returned (.bool (decide (bt s (cl s.size p) = 62))) ∧ Below w.heap.size w w') := fun w => signQ s _ _ pGt w _ pGt_signs (by rw [sgq_lt hkl]; unfold pGt; rw [Bool.eq_iff_iff]; simp)
    obtain ⟨X, hX⟩ : ∃ X, liGo s d fr (s.size + 1) (nx s r) [] = X := ⟨_, rfl⟩
    have eX : liR s n (g, c, r, 0) = X := by
      unfold liR
      show liGo s (dpI s (nx s r) n g).1 (dpI s (nx s r) n g).2 (s.size + 1) (nx s r) [] = X
      rw [hd]; exact hX
    rw [eX] at HO
    generalize decide (bt s (cl s.size p) = 62) = fo at *
    generalize nx s r = q0 at *
    have HX : Hid (liGo s d fr (s.size + 1) q0 [] = X) := hX
    have HC : Hid ((Lit.int .i64 (c : Int)).wf = true) := by
      show (Lit.int .i64 (c : Int)).wf = true
      rcases (by omega : c = 0 ∨ c = 1 ∨ c = 2) with rfl | rfl | rfl <;> decide
    have HMX : Hid (s.size ≤ mx) := hmx
    clear hX hr hh hd eX hmx hg9 hc2
    go_enter Try.func7, Try.ntmps7
    go_wp2_with fail
    refine cH.mono ?_
    rintro e9 w1 ⟨rfl, hb1⟩
    clear cH
    go_wp2_with fail
    refine (cN0.out w1).mono ?_
    rintro e9 w2 ⟨rfl, hb2⟩
    have HB2 : Hid (Below w.heap.size w w2) := hb1.trans (hb2.mono hb1.size)
    clear cN0 hb1 hb2
    go_wp2_with fail
    refine (cD.out w2).mono ?_
    rintro e9 w3 ⟨rfl, hb3⟩
    have HB3 : Hid (Below w.heap.size w w3) := HB2.out.trans (hb3.mono HB2.out.size)
    clear cD HB2 hb3
    go_wp2_with fail
    go_loopw [13, 15] (fun qv lv wr => ∃ (q f : Nat) (l : List ByteArray) (l0 : Option Addr) (l2 : Nat), qv = .int .i64 (q : Int) ∧ lv = .slice l0 l.length l2 ∧ q ≤ s.size ∧ Hid (s.size < f + q) ∧ Hid (q < s.size → lnb s q = q) ∧ Hid (wr.ownsRow (w3.heap.size + 1) 9 1 (.slice l0 l.length l2) l.length (cellsT l)) ∧ Hid (liGo s d fr f q l = X) ∧ Hid (totS l + l.length ≤ 2 * q) ∧ Hid (w3.heap.size + 1 ≤ wr.heap.size) ∧ Hid (Below (w3.heap.size + 1) (dpV w3 (.int .i64 (d : Int)) (.int .i64 (fr : Int))) wr)) (fun qv _ _ => s.size + 1 - (intOf qv).toNat)
    case atStart =>
      refine ⟨q0, s.size + 1, [], none, 0, by go_num, rfl, hq0, ?_, HQB, World.ownsRow_nil _ _ _ _, HX, ?_, ?_, Below.refl _ _⟩
      · show s.size < s.size + 1 + q0; omega
      · show 0 + 0 ≤ 2 * q0; omega
      · show w3.heap.size + 1 ≤ _; simp
    case round =>
      obtain ⟨q, f, l, l0, l2, rfl, rfl, hq, HF, HQ, HL, HG, HT, HLO, HB⟩ := hrel
      have hB' : Below (dpV w3 (.int .i64 (d : Int)) (.int .i64 (fr : Int))).heap.size (dpV w3 (.int .i64 (d : Int)) (.int .i64 (fr : Int))) wr := by
        have h := HB.out
        rw [show w3.heap.size + 1 = (dpV w3 (.int .i64 (d : Int)) (.int .i64 (fr : Int))).heap.size by simp] at h
        exact h
      have r0 := dpV_new hB'
      have z0 := k2_0 r0
      have z1 := k2_1 r0
      cases he : enI s d q with
      | true =>
        have cE := ends_any s q d fr wr HMX.out hq true he
        have HRES : Hid ((blockText l fo c, q, 0) = (T, E, K)) := by
          show _ = (T, E, K)
          rw [← HO.out, ← HG.out, li_end he]
        have HSL : Hid (SlS wr (.slice l0 l.length l2) l) := sls_row HL.out
        have HTL : Hid (totS l + l.length ≤ 8388608) := by have := HT.out; show totS l + l.length ≤ 8388608; omega
        obtain ⟨Y, hY⟩ : ∃ Y, blockText l fo (c : Int) = Y := ⟨_, rfl⟩
        have HY : Hid (blockText l fo (c : Int) = Y) := hY
        rw [hY] at HRES
        have HBX : Hid (Below w.heap.size w wr) := HB3.out.trans ((dpV_below hB').mono HB3.out.size)
        clear hY HG HO HL HT HLO HB hB' HF HQ he
        go_wp2_with fail
        refine cE.mono ?_
        rintro e9 w4 ⟨rfl, hb4⟩
        clear cE
        have HB4 : Hid (Below wr.heap.size wr w4) := hb4
        clear hb4
        go_wp2_with fail
        refine (bring_any _ _ _ HMX.out).mono ?_
        rintro e9 w4 ⟨rfl, rfl⟩
        go_wp2_with fail
        refine (cS.out w4).mono ?_
        rintro e9 w5 ⟨rfl, hb5⟩
        replace HB4 : Hid (Below wr.heap.size wr w5) := HB4.out.trans (hb5.mono HB4.out.size)
        clear cS hb5
        have cP := put_any w5 l0 l2 l fo (c : Int) (HSL.out.stays HB4.out) HTL.out HC.out Y HY.out
        go_wp2_with fail
        refine cP.mono ?_
        rintro e9 w6 ⟨rfl, hb6⟩
        clear cP
        have hB5 : Below w.heap.size w w5 := HBX.out.trans (HB4.out.mono HBX.out.size)
        have HB6 : Hid (Below w.heap.size w w6) := hB5.trans (hb6.mono hB5.size)
        clear hb6 hB5
        go_wp2_with fail
        go_ret3
        have e0 := HRES.out
        injection e0 with e1 e2
        injection e2 with e2 e3
        subst e1
        subst e2
        subst e3
        exact ⟨by first | rfl | simp, HB6.out⟩
      | false =>
        obtain ⟨hl, _, hok⟩ := en_false he
        have hl' : (q : Int) < (s.size : Int) := by omega
        have cE := ends_any s q d fr wr HMX.out hq false he
        obtain ⟨Z, hZ⟩ : ∃ Z, tkI s d fr q = Z := ⟨_, rfl⟩
        have cT : Hid (∀ w, Calls Try.prog 23 #[.agg #[.int .i64 (d : Int), .int .i64 (fr : Int)], .string s, .int .i64 (q : Int)] w fun e w' => e = .returned (.string Z) ∧ Below w.heap.size w w') := fun w => taken_any s q d fr w hs hl (HQ.out hl) hok Z hZ
        have cN : Hid (∀ w, Calls Try.prog 20 #[.string s, .int .i64 (q : Int)] w fun e w' => e = .returned (.int .i64 (nx s q : Nat)) ∧ Below w.heap.size w w') := fun w => next_any s q _ w HMX.out hq rfl
        obtain ⟨f, rfl⟩ : ∃ f', f = f' + 1 := ⟨f - 1, by have := HF.out; omega⟩
        have HG2 : Hid (liGo s d fr f (nx s q) (l ++ [Z]) = X) := by
          show _ = X
          rw [← HG.out, li_step he, hZ]
        have hsz := tk_size (d := d) (fr := fr) hl
        have hz2 := nx_le s q hq
        rw [hZ] at hsz
        obtain ⟨hsz1, hz1'⟩ := hsz
        have HZB : Hid (nx s q < s.size → lnb s (nx s q) = nx s q) := fun h => nx_beg h
        generalize nx s q = z at *
        have HF5 : Hid (s.size < f + z) := by have := HF.out; show s.size < f + z; omega
        have HT5 : Hid (totS (l ++ [Z]) + (l ++ [Z]).length ≤ 2 * z) := by
          show totS (l ++ [Z]) + (l ++ [Z]).length ≤ 2 * z
          rw [totS_snoc, List.length_append]
          have h1 := HT.out
          rw [show [Z].length = 1 from rfl]
          omega
        have HLL : Hid (l.length ≤ 2097152) := by have := HT.out; show l.length ≤ 2097152; omega
        clear hZ hok he HG HT HF HQ hsz1
        have HRW : Hid (wr.heap[w3.heap.size]? = some (.cells #[.int .i64 (d : Int), .int .i64 (fr : Int)] 53 (0, 0))) := r0
        clear r0
        go_wp2_with fail
        refine cE.mono ?_
        rintro e9 w4 ⟨rfl, hb4⟩
        clear cE z0 z1
        have r0 : w4.heap[w3.heap.size]? = some (.cells #[.int .i64 (d : Int), .int .i64 (fr : Int)] 53 (0, 0)) := (hb4.block _ (by have := HLO.out; omega)).trans HRW.out
        have z0 := k2_0 r0
        have z1 := k2_1 r0
        have HB4 : Hid (Below wr.heap.size wr w4) := hb4
        clear hb4
        go_wp2_with fail
        refine (cT.out w4).mono ?_
        rintro e9 w5 ⟨rfl, hb5⟩
        replace HB4 : Hid (Below wr.heap.size wr w5) := HB4.out.trans (hb5.mono HB4.out.size)
        clear cT z0 z1 r0 hb5
        have hown4 : w5.ownsRow (w3.heap.size + 1) 9 1 (.slice l0 l.length l2) l.length (cellsT l) := row_same HL.out (fun k _ hk => HB4.out.block k hk)
        obtain ⟨v6, w6, hrun6, hsl6, hown6, hbel6, hot6⟩ := push_own (P := Try.prog) Try.underlying23 infoT rfl (by decide) w5 (w3.heap.size + 1) _ _ _ hown4 #[.string Z] rfl (by intro u hu; simp at hu; subst hu; rfl) (by have := HLL.out; omega) (by omega) (by have := HLO.out; have := HB4.out.size; omega) 23
        obtain ⟨g6, c6, rfl⟩ : ∃ g c, v6 = .slice (some ⟨g, 0, none⟩) (l.length + 1) c := by
          rcases hown6.2 with ⟨_, e⟩ | ⟨g, cap, cur, e, _⟩
          · omega
          · exact ⟨g, cap, e⟩
        have HL6 : Hid (w6.ownsRow (w3.heap.size + 1) 9 1 (.slice (some ⟨g6, 0, none⟩) (l ++ [Z]).length c6) (l ++ [Z]).length (cellsT (l ++ [Z]))) := by
          show w6.ownsRow _ _ _ _ _ _
          rw [List.length_append, cellsT_snoc]
          exact hown6
        have HB6 : Hid (Below (w3.heap.size + 1) (dpV w3 (.int .i64 (d : Int)) (.int .i64 (fr : Int))) w6) := (HB.out.trans (HB4.out.mono HLO.out)).trans hbel6
        have HLO6 : Hid (w3.heap.size + 1 ≤ w6.heap.size) := Nat.le_trans (Nat.le_trans HLO.out HB4.out.size) hbel6.size
        clear hown4 hsl6 hown6 hbel6 hot6 HL HB HLO HB4
        go_wp2_with (at_builtin; refine append_run rfl _ _ 23 rfl _ _ rfl rfl _ w6 hrun6 ?_)
        refine (cN.out w6).mono ?_
        rintro e9 w7 ⟨rfl, hb7⟩
        have HB7 : Hid (Below w6.heap.size w6 w7) := hb7
        clear cN hb7
        go_wp2_with fail
        go_roundw
        case rel =>
          have HL7 : w7.ownsRow (w3.heap.size + 1) 9 1 (.slice (some ⟨g6, 0, none⟩) (l ++ [Z]).length c6) (l ++ [Z]).length (cellsT (l ++ [Z])) := row_same HL6.out (fun k _ hk => HB7.out.block k hk)
          exact ⟨z, f, l ++ [Z], some ⟨g6, 0, none⟩, c6, by go_num, by rw [List.length_append]; rfl, hz2, HF5, HZB, HL7, HG2, HT5, Nat.le_trans HLO6.out HB7.out.size, HB6.out.trans (HB7.out.mono HLO6.out)⟩
        case measure => simp [intOf]; omega
  · have hk' : ((k0 : Int) != 0) = true := by rw [bne_iff_ne]; omega
    have HRES : Hid ((ByteArray.empty, r, k0) = (T, E, K)) := by
      have h := hr
      unfold litI at h
      rw [hh, if_pos hk] at h
      exact h
    clear hr hh hk hmx
    go_enter Try.func7, Try.ntmps7
    go_wp2_with fail
    refine cH.mono ?_
    rintro e9 w1 ⟨rfl, hb1⟩
    clear cH
    go_wp2_with fail
    go_ret3
    have e0 := HRES.out
    injection e0 with e1 e2
    injection e2 with e2 e3
    subst e1
    subst e2
    subst e3
    exact ⟨by first | rfl | simp, hb1⟩
end Go.Proofs.Ytfpkcfedkjjjbac

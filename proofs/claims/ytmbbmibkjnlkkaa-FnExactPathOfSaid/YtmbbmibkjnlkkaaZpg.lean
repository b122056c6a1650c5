/- Several texts in one: Hsv Hsw Pns. -/
import Derived.Test.YtmbbmibkjnlkkaaZpe
import Derived.Test.YtmbbmibkjnlkkaaZpf
import Derived.Test.YtmbbmibkjnlkkaaSnt
/- The specification's l17Path. -/
namespace Go.Proofs.Ytmbbmibkjnlkkaa
open Go.ChangeShapes Go.WideShapes Go.ChangeAt Go.RowKit
/-- A list of steps that is the call's own. -/
def OwnSg (w : World) (l : List Sg) (e : Ending) (w' : World) : Prop := ∃ a n c, e = .returned (.slice a n c) ∧ w'.ownsRow w.heap.size 54 3 (.slice a n c) l.length (cellsP l) ∧ Below w.heap.size w w'
def PathC (f : Nat) : Prop := ∀ (w : World) (v : Value) (es : List Ev) (i : Nat), SlE w v es → es.length ≤ 1048576 → i < es.length → i < f → Calls Try.prog 23 #[v, .int .i64 (i : Int)] w fun e w' => OwnSg w (pathF es f i) e w'
theorem row_low {w : World} {lo lo' e sz n : Nat} {v : Value} {xs : List Value} (h : w.ownsRow lo e sz v n xs) (hl : lo' ≤ lo) : w.ownsRow lo' e sz v n xs :=
  ⟨h.1, h.2.imp id (fun ⟨g, cap, cur, e1, hb, r⟩ => ⟨g, cap, cur, e1, Nat.le_trans hl hb, r⟩)⟩
theorem pathF_le (l : List Ev) : ∀ f i, (pathF l f i).length ≤ i
  | 0, _ => Nat.zero_le _
  | f + 1, i => by
    have ih := pathF_le l f (upG l i 0).toNat
    have h2 := stepU_len l (kidN l (upG l i 0).toNat) (upG l i 0).toNat i
    have h3 := upG_lt l i 0
    rw [pathF]
    split
    · exact Nat.zero_le _
    · rw [List.length_append]
      split
      · rw [List.length_nil]; omega
      · omega
theorem own_push (w0 w : World) (a : Option Addr) (n c : Nat) (L : List Sg) (s : Sg) (h : w.ownsRow w0.heap.size 54 3 (.slice a n c) L.length (cellsP L)) (hb : Below w0.heap.size w0 w) (hl : L.length ≤ 100000000) :
    ∃ a5 n5 c5 w5, (Builtin.append_ #[29, 29] 29 #[.slice a n c, .slice (some ⟨w.heap.size, 0, none⟩) 1 1]).run Try.prog (w.alloc (.cells #[.int .i64 s.kind, .int .i64 s.n, .string s.text] 54)) = .ok (.slice a5 n5 c5) w5 ∧ w5.ownsRow w0.heap.size 54 3 (.slice a5 n5 c5) (L ++ [s]).length (cellsP (L ++ [s])) ∧ Below w0.heap.size w0 w5 := by
  obtain ⟨v5, w5, hrun5, hsl5, hown5, hbel5, _, _⟩ := push_own2 (P := Try.prog) Try.underlying29 infoPz rfl (by decide) w w0.heap.size _ _ _ h #[.int .i64 s.kind, .int .i64 s.n, .string s.text] rfl (by intro u hu; simp at hu; rcases hu with rfl | rfl | rfl <;> rfl) hl (by omega) hb.size 29
  obtain ⟨a5, n5, c5, rfl⟩ := hsl5
  refine ⟨a5, n5, c5, w5, hrun5, ?_, hb.trans hbel5⟩
  rw [List.length_append, cellsP_snoc]
  exact hown5
theorem SlI.at' {w wr : World} {a : Option Addr} {c m : Nat} {l : List Nat} (h : SlI w (.slice a m c) l) (hb : Below w.heap.size w wr) (hm : l.length = m) {k n : Nat} (hx : l[k]? = some n) : ∃ b, a = some ⟨b, 0, none⟩ ∧ wr.cell? ⟨b, k, none⟩ = some (.int .i64 (n : Int)) := by
  subst hm
  exact h.at hb hx
set_option maxRecDepth 100000 in
set_option maxHeartbeats 8000000 in
theorem path_step (f : Nat) (IH : PathC f) (w : World) (v : Value) (es : List Ev) (i : Nat) (hV : SlE w v es) (hl : es.length ≤ 1048576) (hi : i < es.length) (hf : i < f + 1) :
    Calls Try.prog 23 #[v, .int .i64 (i : Int)] w fun e w' => OwnSg w (pathF es (f + 1) i) e w' := by
  obtain ⟨a, c, rfl⟩ := hV.sl
  have HV : Hid (SlE w (.slice a es.length c) es ∧ es.length ≤ 1048576) := ⟨hV, hl⟩
  obtain ⟨u, hu⟩ : ∃ u, upG es i 0 = u := ⟨_, rfl⟩
  have hul := upG_lt es i 0
  rw [hu] at hul
  have cU := up_any w _ es hV hl i hi u hu
  have HP : Hid (pathF es (f + 1) i = if u < 0 then [] else pathF es f u.toNat ++ if endN es u.toNat = (i : Int) then [] else stepU es (kidN es u.toNat) u.toNat i) := by show _ = _; rw [pathF, hu]
  have HI : Hid (PathC f) := IH
  have HF : Hid (i < es.length ∧ i < f + 1) := ⟨hi, hf⟩
  clear hV hl hu IH hi hf
  go_enter Try.func23, Try.ntmps23
  go_wp2_with fail
  refine cU.mono ?_
  rintro e9 w1 ⟨rfl, hb1⟩
  have HB1 : Hid (Below w.heap.size w w1) := hb1
  clear hb1 cU
  by_cases h0 : u < 0
  · have HE : Hid (pathF es (f + 1) i = []) := by show _ = _; rw [HP.out, if_pos h0]
    have HA0 : Hid (Below w.heap.size w (w1.alloc (.cells #[] 54))) := HB1.out.alloc HB1.out.size _
    have HO0 : Hid ((w1.alloc (.cells #[] 54)).ownsRow w.heap.size 54 3 (.slice (some ⟨w1.heap.size, 0, none⟩) 0 0) ([] : List Sg).length (cellsP [])) := row_low (World.ownsRow_made w1 #[] 0 (Nat.le_refl _) (Nat.zero_le _) rfl) HB1.out.size
    go_wp2_with fail
    go_ret
    exact ⟨_, _, _, rfl, by rw [HE.out]; exact HO0.out, HA0.out⟩
  obtain ⟨j, rfl⟩ : ∃ j : Nat, u = (j : Int) := ⟨u.toNat, by omega⟩
  have hji : j < i := by omega
  have hjl : j < es.length := by have := HF.out; omega
  have hjl' : (j : Int) < (es.length : Int) := by omega
  have HP2 : Hid (pathF es (f + 1) i = pathF es f j ++ if endN es j = (i : Int) then [] else stepU es (kidN es j) j i) := by show _ = _; rw [HP.out, if_neg h0, Int.toNat_natCast]
  have cP := HI.out w1 _ es j (HV.out.1.stays HB1.out) HV.out.2 hjl (by have := HF.out; omega)
  have h0' : ¬ (j : Int) < 0 := h0
  clear HP h0 hul
  go_wp2_with fail
  refine cP.mono ?_
  rintro e9 w2 ⟨oa, on, oc, rfl, hown, hb2⟩
  have HB2 : Hid (Below w.heap.size w w2) := HB1.out.trans (hb2.mono HB1.out.size)
  have HO2 : Hid (w2.ownsRow w.heap.size 54 3 (.slice oa on oc) (pathF es f j).length (cellsP (pathF es f j))) := row_low hown HB1.out.size
  obtain ⟨y, hy⟩ : ∃ y, endN es j = y := ⟨_, rfl⟩
  have cE := end_any w2 _ es (HV.out.1.stays HB2.out) HV.out.2 j hjl y hy
  have HP3 : Hid (pathF es (f + 1) i = pathF es f j ++ if y = (i : Int) then [] else stepU es (kidN es j) j i) := by show _ = _; rw [HP2.out, hy]
  clear cP hown hb2 HP2 hy
  go_wp2_with fail
  refine cE.mono ?_
  rintro e9 w3 ⟨rfl, hb3⟩
  have HB3 : Hid (Below w.heap.size w w3) := HB2.out.trans (hb3.mono HB2.out.size)
  have HO3 : Hid (w3.ownsRow w.heap.size 54 3 (.slice oa on oc) (pathF es f j).length (cellsP (pathF es f j))) := row_same HO2.out (fun k _ hk => hb3.block k hk)
  clear hb3 cE HO2
  by_cases hyi : y = (i : Int)
  · have HE : Hid (pathF es (f + 1) i = pathF es f j) := by show _ = _; rw [HP3.out, if_pos hyi, List.append_nil]
    subst hyi
    go_wp2_with fail
    go_ret
    exact ⟨_, _, _, rfl, by rw [HE.out]; exact HO3.out, HB3.out⟩
  have tyi : (y == (i : Int)) = false := by rw [beq_eq_false_iff_ne]; exact hyi
  obtain ⟨K, hK⟩ : ∃ K, kidN es j = K := ⟨_, rfl⟩
  have HKL : Hid (∀ x ∈ K, x < es.length) := by show ∀ x ∈ K, _; rw [← hK]; exact kidN_lt es j
  have HP4 : Hid (pathF es (f + 1) i = pathF es f j ++ stepU es K j i) := by show _ = _; rw [HP3.out, if_neg hyi, hK]
  have cK := kids_any w3 _ es (HV.out.1.stays HB3.out) HV.out.2 j hjl K hK
  have HKn : Hid (K.length ≤ 1048576) := by
    show _ ≤ _
    rw [← hK]
    unfold kidN
    have := HV.out.2
    cases es[j]? with
    | none => exact Nat.zero_le _
    | some e =>
      show (if colE e = false then [] else kidG es (es.length + 1) (j + 1) []).length ≤ _
      split
      · exact Nat.zero_le _
      · exact Nat.le_trans (kidG_lenP es _ _ [] (by omega) (Nat.zero_le _)) this
  clear HP3 hK
  go_wp2_with fail
  refine cK.mono ?_
  rintro e9 w4 ⟨ka, kn, kc, rfl, hkow, hb4⟩
  have HB4 : Hid (Below w.heap.size w w4) := HB3.out.trans (hb4.mono HB3.out.size)
  have HO4 : Hid (w4.ownsRow w.heap.size 54 3 (.slice oa on oc) (pathF es f j).length (cellsP (pathF es f j))) := row_same HO3.out (fun k _ hk => hb4.block k hk)
  have HK4 : Hid (SlI w4 (.slice ka kn kc) K) := slI_own hkow
  obtain ⟨kb, kd, e5⟩ := (slI_own hkow).sl
  injection e5 with e4 e6 e7
  subst e4 e6 e7
  clear hkow hb4 cK HO3
  obtain ⟨e0, he0⟩ : ∃ e0, es[j]? = some e0 := ⟨_, List.getElem?_eq_getElem hjl⟩
  have HKD : Hid (kindAt es j = e0.kind) := by show _ = _; unfold kindAt; rw [he0]
  have HE0 : Hid (es[j]? = some e0) := he0
  clear he0
  obtain ⟨m0, hm0⟩ : ∃ m0, K.length = m0 := ⟨_, rfl⟩
  rw [hm0] at HK4 ⊢
  cases m0 with
  | zero =>
    have HE : Hid (pathF es (f + 1) i = pathF es f j) := by show _ = _; rw [HP4.out]; unfold stepU; rw [if_pos hm0, List.append_nil]
    go_wp2_with fail
    go_loopw [8] (fun kv wr => kv = .int .i64 (-1) ∧ wr = w4) (fun _ _ => 0)
    case atStart => exact ⟨rfl, rfl⟩
    case round =>
      obtain ⟨rfl, rfl⟩ := hrel
      go_wp2_with fail
      go_ret
      exact ⟨_, _, _, rfl, by rw [HE.out]; exact HO4.out, HB4.out⟩
  | succ m =>
    have hm1 : (m : Int) ≤ 1048576 := by have := HKn.out; omega
    have HM : Hid (K.length = m + 1) := hm0
    clear hm0
    go_wp2_with fail
    go_loopw [8] (fun kv wr => ∃ k : Nat, kv = .int .i64 (k : Int) ∧ k ≤ m ∧ Hid (lastK K i m = lastK K i k) ∧ Hid (Below w4.heap.size w4 wr)) (fun kv _ => (intOf kv).toNat)
    case atStart => exact ⟨m, rfl, Nat.le_refl _, rfl, Below.refl _ _⟩
    case round =>
      obtain ⟨k, rfl, hk, HLK, HBr⟩ := hrel
      cases k with
      | zero =>
        have HS : Hid (lastK K i m = 0) := HLK.out
        have HBw : Hid (Below w.heap.size w wr) := HB4.out.trans (HBr.out.mono HB4.out.size)
        have HOw : Hid (wr.ownsRow w.heap.size 54 3 (.slice oa on oc) (pathF es f j).length (cellsP (pathF es f j))) := row_same HO4.out (fun k _ hk => HBr.out.block k hk)
        have HPL : Hid ((pathF es f j).length ≤ 100000000) := by have h1 := pathF_le es f j; have h2 := HV.out.2; show _ ≤ _; omega
        obtain ⟨b, off, rfl, hbl, hE0⟩ := HV.out.1.at HBw.out HE0.out
        have c0 := hE0.c0
        clear hE0
        by_cases h3 : e0.kind = 3
        · rw [h3] at c0
          have HE : Hid (pathF es (f + 1) i = pathF es f j ++ [(⟨1, 0, ByteArray.empty⟩ : Sg)]) := by show _ = _; rw [HP4.out]; unfold stepU; rw [if_neg (by rw [HM.out]; omega), if_pos (by rw [HKD.out]; exact h3), HM.out, Nat.add_sub_cancel, HS.out]; rfl
          obtain ⟨a5, n5, c5, w5, hrun5, ho5, hb5⟩ := own_push w wr oa on oc _ (⟨1, 0, ByteArray.empty⟩ : Sg) HOw.out HBw.out HPL.out
          have HO5 : Hid (w5.ownsRow w.heap.size 54 3 (.slice a5 n5 c5) (pathF es f j ++ [(⟨1, 0, ByteArray.empty⟩ : Sg)]).length (cellsP (pathF es f j ++ [(⟨1, 0, ByteArray.empty⟩ : Sg)]))) := ho5
          have HB5 : Hid (Below w.heap.size w w5) := hb5
          clear ho5 hb5
          go_wp2_with (at_builtin; refine append_run rfl _ _ 29 rfl _ _ rfl rfl _ w5 hrun5 ?_)
          go_ret
          exact ⟨_, _, _, rfl, by rw [HE.out]; exact HO5.out, HB5.out⟩
        · have t3 : (e0.kind == 3) = false := by rw [beq_eq_false_iff_ne]; exact h3
          have HE : Hid (pathF es (f + 1) i = pathF es f j ++ [(⟨3, 0, ByteArray.empty⟩ : Sg)]) := by show _ = _; rw [HP4.out]; unfold stepU; rw [if_neg (by rw [HM.out]; omega), if_neg (by rw [HKD.out]; exact h3), HM.out, Nat.add_sub_cancel, HS.out]; rfl
          obtain ⟨a5, n5, c5, w5, hrun5, ho5, hb5⟩ := own_push w wr oa on oc _ (⟨3, 0, ByteArray.empty⟩ : Sg) HOw.out HBw.out HPL.out
          have HO5 : Hid (w5.ownsRow w.heap.size 54 3 (.slice a5 n5 c5) (pathF es f j ++ [(⟨3, 0, ByteArray.empty⟩ : Sg)]).length (cellsP (pathF es f j ++ [(⟨3, 0, ByteArray.empty⟩ : Sg)]))) := ho5
          have HB5 : Hid (Below w.heap.size w w5) := hb5
          clear ho5 hb5
          go_wp2_with (at_builtin; refine append_run rfl _ _ 29 rfl _ _ rfl rfl _ w5 hrun5 ?_)
          go_ret
          exact ⟨_, _, _, rfl, by rw [HE.out]; exact HO5.out, HB5.out⟩
      | succ q =>
        obtain ⟨n, hn⟩ : ∃ n, K[q + 1]? = some n := ⟨_, List.getElem?_eq_getElem (by have := HM.out; omega)⟩
        obtain ⟨g, rfl, hgc⟩ := HK4.out.at' HBr.out HM.out hn
        have hq0 : (0 : Int) < (q : Int) + 1 := by omega
        have hqm : (q : Int) + 1 < (m : Int) + 1 := by omega
        by_cases hin : i < n
        · have HLQ : Hid (lastK K i m = lastK K i q) := by show _ = _; rw [HLK.out, lastK, if_pos (by rw [List.getD_eq_getElem?_getD, hn]; exact hin)]
          have hin' : (i : Int) < (n : Int) := by omega
          clear hn
          go_wp2_with fail
          go_roundw
          case rel => exact ⟨q, by go_num, by omega, HLQ, HBr⟩
          case measure => simp [intOf]
        · have HS : Hid (lastK K i m = q + 1) := by show _ = _; rw [HLK.out, lastK, if_neg (by rw [List.getD_eq_getElem?_getD, hn]; exact hin)]
          have hin' : ¬ (i : Int) < (n : Int) := by omega
          clear hn
          have HBw : Hid (Below w.heap.size w wr) := HB4.out.trans (HBr.out.mono HB4.out.size)
          have HOw : Hid (wr.ownsRow w.heap.size 54 3 (.slice oa on oc) (pathF es f j).length (cellsP (pathF es f j))) := row_same HO4.out (fun k _ hk => HBr.out.block k hk)
          have HPL : Hid ((pathF es f j).length ≤ 100000000) := by have h1 := pathF_le es f j; have h2 := HV.out.2; show _ ≤ _; omega
          obtain ⟨b, off, rfl, hbl, hE0⟩ := HV.out.1.at HBw.out HE0.out
          have c0 := hE0.c0
          clear hE0
          by_cases h3 : e0.kind = 3
          · rw [h3] at c0
            have HE : Hid (pathF es (f + 1) i = pathF es f j ++ [(⟨1, (q : Int) + 1, ByteArray.empty⟩ : Sg)]) := by show _ = _; rw [HP4.out]; unfold stepU; rw [if_neg (by rw [HM.out]; omega), if_pos (by rw [HKD.out]; exact h3), HM.out, Nat.add_sub_cancel, HS.out]; rfl
            obtain ⟨a5, n5, c5, w5, hrun5, ho5, hb5⟩ := own_push w wr oa on oc _ (⟨1, (q : Int) + 1, ByteArray.empty⟩ : Sg) HOw.out HBw.out HPL.out
            have HO5 : Hid (w5.ownsRow w.heap.size 54 3 (.slice a5 n5 c5) (pathF es f j ++ [(⟨1, (q : Int) + 1, ByteArray.empty⟩ : Sg)]).length (cellsP (pathF es f j ++ [(⟨1, (q : Int) + 1, ByteArray.empty⟩ : Sg)]))) := ho5
            have HB5 : Hid (Below w.heap.size w w5) := hb5
            clear ho5 hb5
            go_wp2_with (at_builtin; refine append_run rfl _ _ 29 rfl _ _ rfl rfl _ w5 hrun5 ?_)
            go_ret
            exact ⟨_, _, _, rfl, by rw [HE.out]; exact HO5.out, HB5.out⟩
          · have t3 : (e0.kind == 3) = false := by rw [beq_eq_false_iff_ne]; exact h3
            by_cases hp : (q + 1) % 2 = 0
            · have tp : (((q : Int) + 1) % 2 == 0) = true := by rw [beq_iff_eq]; omega
              have hc : (((q + 1) / 2 : Nat) : Int) = ((q : Int) + 1) / 2 := by omega
              have HHC : Hid ((((q + 1) / 2 : Nat) : Int) = ((q : Int) + 1) / 2) := hc
              clear hc
              have HE : Hid (pathF es (f + 1) i = pathF es f j ++ [(⟨3, ((q : Int) + 1) / 2, ByteArray.empty⟩ : Sg)]) := by show _ = _; rw [HP4.out]; unfold stepU; rw [if_neg (by rw [HM.out]; omega), if_neg (by rw [HKD.out]; exact h3), HM.out, Nat.add_sub_cancel, HS.out, if_pos hp, HHC.out]
              obtain ⟨a5, n5, c5, w5, hrun5, ho5, hb5⟩ := own_push w wr oa on oc _ (⟨3, ((q : Int) + 1) / 2, ByteArray.empty⟩ : Sg) HOw.out HBw.out HPL.out
              have HO5 : Hid (w5.ownsRow w.heap.size 54 3 (.slice a5 n5 c5) (pathF es f j ++ [(⟨3, ((q : Int) + 1) / 2, ByteArray.empty⟩ : Sg)]).length (cellsP (pathF es f j ++ [(⟨3, ((q : Int) + 1) / 2, ByteArray.empty⟩ : Sg)]))) := ho5
              have HB5 : Hid (Below w.heap.size w w5) := hb5
              clear ho5 hb5
              go_wp2_with (at_builtin; refine append_run rfl _ _ 29 rfl _ _ rfl rfl _ w5 hrun5 ?_)
              go_ret
              exact ⟨_, _, _, rfl, by rw [HE.out]; exact HO5.out, HB5.out⟩
            · have tp : (((q : Int) + 1) % 2 == 0) = false := by rw [beq_eq_false_iff_ne]; omega
              obtain ⟨n2, hn2⟩ : ∃ n2, K[q]? = some n2 := ⟨_, List.getElem?_eq_getElem (by have := HM.out; omega)⟩
              have hn2l := HKL.out n2 (List.mem_of_getElem? hn2)
              obtain ⟨g2, e9, hgc2⟩ := HK4.out.at' HBr.out HM.out hn2
              injection e9 with e9
              injection e9 with e9
              subst e9
              have cY := key_any wr _ es (HV.out.1.stays HBw.out) HV.out.2 n2 hn2l
              have HN2 : Hid (K.getD (q + 1 - 1) 0 = n2) := by show _ = _; rw [Nat.add_sub_cancel, List.getD_eq_getElem?_getD, hn2]; rfl
              have hq2 : (q : Int) < (m : Int) + 1 := by omega
              clear hn2 hn2l
              go_wp2_with fail
              refine cY.mono ?_
              rintro e9 w6 ⟨rfl, hb6⟩
              have HB6 : Hid (Below w.heap.size w w6) := HBw.out.trans (hb6.mono HBw.out.size)
              have HO6 : Hid (w6.ownsRow w.heap.size 54 3 (.slice oa on oc) (pathF es f j).length (cellsP (pathF es f j))) := row_same HOw.out (fun k _ hk => hb6.block k hk)
              clear hb6 cY hgc2 hgc c0
              have HE : Hid (pathF es (f + 1) i = pathF es f j ++ [(⟨2, 0, keyN es n2⟩ : Sg)]) := by show _ = _; rw [HP4.out]; unfold stepU; rw [if_neg (by rw [HM.out]; omega), if_neg (by rw [HKD.out]; exact h3), HM.out, Nat.add_sub_cancel, HS.out, if_neg hp, HN2.out]
              obtain ⟨a5, n5, c5, w5, hrun5, ho5, hb5⟩ := own_push w w6 oa on oc _ (⟨2, 0, keyN es n2⟩ : Sg) HO6.out HB6.out HPL.out
              have HO5 : Hid (w5.ownsRow w.heap.size 54 3 (.slice a5 n5 c5) (pathF es f j ++ [(⟨2, 0, keyN es n2⟩ : Sg)]).length (cellsP (pathF es f j ++ [(⟨2, 0, keyN es n2⟩ : Sg)]))) := ho5
              have HB5 : Hid (Below w.heap.size w w5) := hb5
              clear ho5 hb5
              go_wp2_with (at_builtin; refine append_run rfl _ _ 29 rfl _ _ rfl rfl _ w5 hrun5 ?_)
              go_ret
              exact ⟨_, _, _, rfl, by rw [HE.out]; exact HO5.out, HB5.out⟩
theorem path_all : ∀ f, PathC f
  | 0 => fun _ _ _ _ _ _ _ h => absurd h (Nat.not_lt_zero _)
  | f + 1 => fun w v es i hV hl hi hf => path_step f (path_all f) w v es i hV hl hi hf
end Go.Proofs.Ytmbbmibkjnlkkaa
/- The specification's PathOf. -/
namespace Go.Proofs.Ytmbbmibkjnlkkaa
open Go.ChangeShapes Go.WideShapes Go.ChangeAt Go.RowKit
set_option maxRecDepth 100000 in
set_option maxHeartbeats 8000000 in
theorem spec_pathOf (w : World) (v : Value) (es : List Ev) (hV : SlE w v es) (hl : totE es + es.length ≤ 1048576) (i : Int) :
    Calls Try.prog 10 #[v, .int .i64 i] w fun e w' => OwnSg w (pathOf es i) e w' := by
  obtain ⟨a, c, rfl⟩ := hV.sl
  have HV : Hid (SlE w (.slice a es.length c) es) := hV
  have HL : Hid (es.length ≤ 1048576) := by show _ ≤ _; omega
  obtain ⟨nb, hnb⟩ : ∃ nb, nested es = nb := ⟨_, rfl⟩
  have cN := spec_nested w _ es hV hl nb hnb
  have HNB : Hid (nested es = nb) := hnb
  clear hV hl hnb
  go_enter Try.func10, Try.ntmps10
  go_wp2_with fail
  refine cN.mono ?_
  rintro e9 w1 ⟨rfl, hb1⟩
  have HB1 : Hid (Below w.heap.size w w1) := hb1
  clear hb1 cN
  cases nb with
  | false =>
    have HE : Hid (pathOf es i = []) := by show _ = _; unfold pathOf; rw [if_pos (.inl HNB.out)]
    go_wp2_with fail
    go_ret
    exact ⟨_, _, _, rfl, by rw [HE.out]; exact ⟨rfl, .inl ⟨rfl, rfl⟩⟩, HB1.out⟩
  | true =>
    by_cases h0 : i < 0
    · have HE : Hid (pathOf es i = []) := by show _ = _; unfold pathOf; rw [if_pos (.inr (.inl h0))]
      go_wp2_with fail
      go_ret
      exact ⟨_, _, _, rfl, by rw [HE.out]; exact ⟨rfl, .inl ⟨rfl, rfl⟩⟩, HB1.out⟩
    by_cases h1 : (es.length : Int) ≤ i
    · have HE : Hid (pathOf es i = []) := by show _ = _; unfold pathOf; rw [if_pos (.inr (.inr h1))]
      have h1' : i ≥ (es.length : Int) := h1
      go_wp2_with fail
      go_ret
      exact ⟨_, _, _, rfl, by rw [HE.out]; exact ⟨rfl, .inl ⟨rfl, rfl⟩⟩, HB1.out⟩
    obtain ⟨k, hk⟩ : ∃ k : Nat, i = (k : Int) := ⟨i.toNat, by omega⟩
    subst hk
    have hkl : k < es.length := by omega
    have h1' : ¬ (k : Int) ≥ (es.length : Int) := h1
    have hl' : (es.length : Int) ≤ 1048576 := by have := HL.out; omega
    have HKR : Hid (pathOf es k = pathF es (k + 1) k) := by show _ = _; unfold pathOf; rw [if_neg (by rw [HNB.out]; simp; omega)]; rfl
    have cE := path_all (k + 1) w1 _ es k (HV.out.stays HB1.out) HL.out hkl (Nat.lt_succ_self k)
    clear h0 h1
    go_wp2_with fail
    refine cE.mono ?_
    rintro e9 w2 ⟨oa, on, oc, rfl, hown, hb2⟩
    have HO2 : Hid (w2.ownsRow w.heap.size 54 3 (.slice oa on oc) (pathF es (k + 1) k).length (cellsP (pathF es (k + 1) k))) := row_low hown HB1.out.size
    have HB2 : Hid (Below w.heap.size w w2) := HB1.out.trans (hb2.mono HB1.out.size)
    clear hb2 cE hown
    go_wp2_with fail
    go_ret
    exact ⟨_, _, _, rfl, by rw [HKR.out]; exact HO2.out, HB2.out⟩
end Go.Proofs.Ytmbbmibkjnlkkaa
/- Nodes within events: what is open at a place, where a node ends, and what stands around it. -/
namespace Go.Proofs.Ytmbbmibkjnlkkaa
open Go.RowKit
/-- The collections that are open ahead of the place k, the innermost first. -/
def stk (l : List Ev) : Nat → List Nat
  | 0 => []
  | k + 1 => match l[k]? with
    | none => stk l k
    | some e => if colE e = true then k :: stk l k else if e.kind = 7 then (stk l k).tail else stk l k
def headI (s : List Nat) : Int := match s with
  | [] => -1
  | a :: _ => (a : Int)
theorem stk_col {l : List Ev} {k : Nat} {e : Ev} (h : l[k]? = some e) (hc : colE e = true) : stk l (k + 1) = k :: stk l k := by
  rw [stk, h]; simp [hc]
theorem col_not7 {e : Ev} (hc : colE e = true) : e.kind ≠ 7 := by
  unfold colE at hc
  simp at hc
  omega
theorem stk_end {l : List Ev} {k : Nat} {e : Ev} (h : l[k]? = some e) (h7 : e.kind = 7) : stk l (k + 1) = (stk l k).tail := by
  have hc : colE e = false := by
    cases h' : colE e
    · rfl
    · exact absurd h7 (col_not7 h')
  rw [stk, h]; simp [hc, h7]
theorem stk_else {l : List Ev} {k : Nat} {e : Ev} (h : l[k]? = some e) (hc : colE e = false) (h7 : e.kind ≠ 7) : stk l (k + 1) = stk l k := by
  rw [stk, h]; simp [hc, h7]
theorem stk_lt (l : List Ev) : ∀ (k : Nat), ∀ j ∈ stk l k, j < k
  | 0 => by intro j hj; simp [stk] at hj
  | k + 1 => by
    intro j hj
    have ih := stk_lt l k
    rw [stk] at hj
    split at hj
    · exact Nat.lt_succ_of_lt (ih j hj)
    · split at hj
      · rcases List.mem_cons.1 hj with rfl | h
        · exact Nat.lt_succ_self _
        · exact Nat.lt_succ_of_lt (ih j h)
      · split at hj
        · exact Nat.lt_succ_of_lt (ih j (List.mem_of_mem_tail hj))
        · exact Nat.lt_succ_of_lt (ih j hj)
theorem stk_down (l : List Ev) : ∀ (k : Nat), (stk l k).Pairwise (fun a b => b < a)
  | 0 => by simp [stk]
  | k + 1 => by
    have ih := stk_down l k
    rw [stk]
    split
    · exact ih
    · split
      · rw [List.pairwise_cons]
        exact ⟨fun a ha => stk_lt l k a ha, ih⟩
      · split
        · exact ih.tail
        · exact ih
theorem stk_is (l : List Ev) : ∀ (k : Nat), ∀ j ∈ stk l k, ∃ e, l[j]? = some e ∧ colE e = true
  | 0 => by intro j hj; simp [stk] at hj
  | k + 1 => by
    intro j hj
    have ih := stk_is l k
    rw [stk] at hj
    split at hj
    · exact ih j hj
    · rename_i e he
      split at hj
      · rename_i hc
        rcases List.mem_cons.1 hj with rfl | h
        · exact ⟨e, he, hc⟩
        · exact ih j h
      · split at hj
        · exact ih j (List.mem_of_mem_tail hj)
        · exact ih j hj
/-- What is around is what is open. -/
theorem upG_stk (l : List Ev) : ∀ (k o : Nat), k ≤ l.length → upG l k (o : Int) = headI ((stk l k).drop o)
  | 0, o, _ => by rw [upG]; simp [stk, headI]
  | k + 1, o, hk => by
    obtain ⟨e, he⟩ : ∃ e, l[k]? = some e := ⟨_, List.getElem?_eq_getElem (by omega)⟩
    have ih := fun o => upG_stk l k o (by omega)
    rw [upG, he]
    by_cases h7 : e.kind = 7
    · have := ih (o + 1)
      simp only [h7, if_true]
      rw [stk_end he h7, List.drop_tail, ← this]
      congr 1
    · simp only [if_neg h7]
      by_cases hc : colE e = true
      · simp only [if_pos hc]
        rw [stk_col he hc]
        cases o with
        | zero => simp [headI]
        | succ o =>
          rw [if_neg (by omega), List.drop_succ_cons, ← ih o]
          congr 1
          omega
      · have hc' : colE e = false := by simpa using hc
        simp only [if_neg hc]
        rw [stk_else he hc' h7, ih o]
theorem up_head (l : List Ev) (k : Nat) (hk : k ≤ l.length) : upG l k 0 = headI (stk l k) := by
  have := upG_stk l k 0 hk
  simpa using this
theorem opn_col {e : Ev} {o : Int} (hc : colE e = true) : opn e o = o + 1 := by unfold opn; rw [if_pos hc]
theorem opn_end {e : Ev} {o : Int} (h7 : e.kind = 7) : opn e o = o - 1 := by
  unfold opn
  rw [if_neg (fun hc => col_not7 hc h7), if_pos h7]
theorem opn_else {e : Ev} {o : Int} (hc : colE e = false) (h7 : e.kind ≠ 7) : opn e o = o := by
  unfold opn
  rw [if_neg (by simp [hc]), if_neg h7]
theorem endG_step {l : List Ev} {k : Nat} {e : Ev} {o : Int} (h : l[k]? = some e) : endG (l.drop k) k o = if opn e o = 0 then (k : Int) else endG (l.drop (k + 1)) (k + 1) (opn e o) := by
  rw [drop_ev h, endG]
theorem col_node {e : Ev} (hc : colE e = true) : nodE e = true := by
  unfold colE at hc
  unfold nodE
  simp at hc ⊢
  omega
theorem endN_node {l : List Ev} {k : Nat} {e : Ev} (h : l[k]? = some e) (hn : nodE e = true) : endN l k = endG (l.drop k) k 0 := by
  unfold endN
  rw [h]
  simp [hn]
theorem endN_leaf {l : List Ev} {k : Nat} {e : Ev} (h : l[k]? = some e) (hn : nodE e = true) (hc : colE e = false) : endN l k = (k : Int) := by
  rw [endN_node h hn, endG_step h, if_pos]
  refine opn_else hc ?_
  unfold nodE at hn
  simp at hn
  omega
theorem endN_col {l : List Ev} {k : Nat} {e : Ev} (h : l[k]? = some e) (hc : colE e = true) : endN l k = endG (l.drop (k + 1)) (k + 1) 1 := by
  rw [endN_node h (col_node hc), endG_step h, opn_col hc, if_neg (by omega)]
  rfl
/-- What is open ends where the count says. -/
theorem end_in (l : List Ev) : ∀ (k p j : Nat), k ≤ l.length → (stk l k)[p]? = some j → endN l j = endG (l.drop k) k ((p : Int) + 1) ∧ (stk l k).drop (p + 1) = stk l j
  | 0, p, j, _, h => by simp [stk] at h
  | k + 1, p, j, hk, h => by
    obtain ⟨e, he⟩ : ∃ e, l[k]? = some e := ⟨_, List.getElem?_eq_getElem (by omega)⟩
    have ih := fun p => end_in l k p j (by omega)
    by_cases hc : colE e = true
    · rw [stk_col he hc] at h ⊢
      cases p with
      | zero =>
        simp at h
        subst h
        exact ⟨by rw [endN_col he hc]; rfl, rfl⟩
      | succ p =>
        simp at h
        obtain ⟨i1, i2⟩ := ih p h
        refine ⟨?_, by rw [List.drop_succ_cons]; exact i2⟩
        rw [i1, endG_step he, opn_col hc, if_neg (by omega)]
        congr 1
    · have hc' : colE e = false := by simpa using hc
      by_cases h7 : e.kind = 7
      · rw [stk_end he h7] at h ⊢
        rw [List.getElem?_tail] at h
        obtain ⟨i1, i2⟩ := ih (p + 1) h
        refine ⟨?_, by rw [List.drop_tail]; exact i2⟩
        rw [i1, endG_step he, opn_end h7, if_neg (by omega)]
        congr 1
        omega
      · rw [stk_else he hc' h7] at h ⊢
        obtain ⟨i1, i2⟩ := ih p h
        refine ⟨?_, i2⟩
        rw [i1, endG_step he, opn_else hc' h7, if_neg (by omega)]
/-- What is open no more has ended. -/
theorem end_out (l : List Ev) (j : Nat) {e0 : Ev} (h0 : l[j]? = some e0) (hc0 : colE e0 = true) : ∀ (k : Nat), j < k → k ≤ l.length → j ∉ stk l k → (j : Int) < endN l j ∧ endN l j < k
  | 0, hj, _, _ => by omega
  | k + 1, hj, hk, hn => by
    obtain ⟨e, he⟩ : ∃ e, l[k]? = some e := ⟨_, List.getElem?_eq_getElem (by omega)⟩
    by_cases hjk : j = k
    · subst hjk
      rw [h0] at he
      injection he with he
      subst he
      rw [stk_col h0 hc0] at hn
      simp at hn
    · have hlt : j < k := by omega
      by_cases hm : j ∈ stk l k
      · obtain ⟨p, hp⟩ := List.getElem?_of_mem hm
        obtain ⟨i1, _⟩ := end_in l k p j (by omega) hp
        by_cases hc : colE e = true
        · rw [stk_col he hc] at hn
          exact absurd (List.mem_cons_of_mem _ hm) hn
        · have hc' : colE e = false := by simpa using hc
          by_cases h7 : e.kind = 7
          · rw [stk_end he h7] at hn
            cases p with
            | zero =>
              rw [endG_step he, opn_end h7, if_pos (by simp)] at i1
              omega
            | succ p =>
              rw [← List.getElem?_tail] at hp
              exact absurd (List.mem_of_getElem? hp) hn
          · rw [stk_else he hc' h7] at hn
            exact absurd hm hn
      · have := end_out l j h0 hc0 k hlt (by omega) hm
        omega
/-- What ends at k is what is innermost there, and an end stands there. -/
theorem endN_hit {l : List Ev} {j k : Nat} {e e0 : Ev} (h0 : l[j]? = some e0) (hn : nodE e0 = true) (hjk : j < k) (he : l[k]? = some e) (h : endN l j = (k : Int)) : e.kind = 7 ∧ (stk l k).head? = some j := by
  have hk : k < l.length := (List.getElem?_eq_some_iff.1 he).1
  by_cases hc0 : colE e0 = true
  · by_cases hm : j ∈ stk l k
    · obtain ⟨p, hp⟩ := List.getElem?_of_mem hm
      obtain ⟨i1, _⟩ := end_in l k p j (by omega) hp
      rw [h, endG_step he] at i1
      by_cases hz : opn e ((p : Int) + 1) = 0
      · unfold opn at hz
        split at hz
        · omega
        · split at hz
          · rename_i h7
            have : p = 0 := by omega
            subst this
            exact ⟨h7, by rw [List.head?_eq_getElem?]; exact hp⟩
          · omega
      · rw [if_neg hz] at i1
        rcases endG_le (l.drop (k + 1)) (k + 1) (opn e ((p : Int) + 1)) with h1 | h1
        · rw [h1] at i1; omega
        · rw [← i1] at h1; omega
    · have := end_out l j h0 hc0 k hjk (by omega) hm
      omega
  · have := endN_leaf h0 hn (by simpa using hc0)
    omega
theorem endN_top {l : List Ev} {k j : Nat} {r : List Nat} {e : Ev} (he : l[k]? = some e) (h7 : e.kind = 7) (hs : stk l k = j :: r) : endN l j = (k : Int) := by
  have hk : k < l.length := (List.getElem?_eq_some_iff.1 he).1
  obtain ⟨i1, _⟩ := end_in l k 0 j (by omega) (by rw [hs]; rfl)
  rw [i1, endG_step he, opn_end h7, if_pos (by simp)]
/-- Whether a node is open at k. -/
theorem open_iff {l : List Ev} {j k : Nat} {e0 : Ev} (h0 : l[j]? = some e0) (hn : nodE e0 = true) (hjk : j < k) (hk : k ≤ l.length) : j ∈ stk l k ↔ (endN l j < 0 ∨ (k : Int) ≤ endN l j) := by
  constructor
  · intro hm
    obtain ⟨p, hp⟩ := List.getElem?_of_mem hm
    obtain ⟨i1, _⟩ := end_in l k p j hk hp
    rcases endG_le (l.drop k) k ((p : Int) + 1) with h | h
    · rw [i1, h]; left; omega
    · rw [i1]; right; omega
  · intro h
    apply Classical.byContradiction
    intro hm
    by_cases hc0 : colE e0 = true
    · have := end_out l j h0 hc0 k hjk hk hm
      omega
    · have := endN_leaf h0 hn (by simpa using hc0)
      omega
end Go.Proofs.Ytmbbmibkjnlkkaa

/- Several texts in one: Gnc Gnd Gbd Gho. -/
import Derived.Test.YtkdlakcmhdiojaaZqba
import Derived.Test.YtkdlakcmhdiojaaGnw
import Derived.Test.YtkdlakcmhdiojaaZqbd
import Derived.Test.YtkdlakcmhdiojaaZqag
import Derived.Test.YtkdlakcmhdiojaaZqai
/- The program's Compose. -/
namespace Go.Proofs.Ytkdlakcmhdiojaa
open Go.ChangeShapes Go.WideShapes Go.ChangeAt Go.RowKit Go.Deep Go.Maps
set_option maxHeartbeats 8000000 in
set_option maxRecDepth 100000 in
theorem countNodes_any (w : World) (v : Value) (l : List Ev) (hS : SlE w v l) (hl : l.length ≤ 1048576) :
    Calls Try.prog 26 #[v] w fun e w' => e = .returned (.int .i64 (cntR l l.length : Int)) ∧ Below w.heap.size w w' := by
  obtain ⟨la, lc, rfl⟩ := hS.sl
  have HV := hidG hS
  have hlI : (l.length : Int) ≤ 1048576 := by omega
  clear hS hl
  go_enter Try.func26, Try.ntmps26
  go_wp2_with fail
  go_loopw [3, 8] (fun nv kv wr => ∃ (k : Nat), nv = .int .i64 (cntR l k : Int) ∧ kv = .int .i64 (k : Int) ∧ k ≤ l.length ∧ Hid (Below w.heap.size w wr)) (fun _ kv _ => l.length - (intOf kv).toNat)
  case atStart => exact ⟨0, rfl, rfl, Nat.zero_le _, Below.refl _ _⟩
  case round =>
    obtain ⟨k, rfl, rfl, hk, HB⟩ := hrel
    obtain ⟨c, hc⟩ : ∃ c, cntR l k = c := ⟨_, rfl⟩
    have hcI : (c : Int) ≤ 1048576 := by rw [← hc]; have := cntR_le l k; omega
    rw [hc]
    by_cases hlt : k < l.length
    · have hltI : (k : Int) < (l.length : Int) := by omega
      obtain ⟨e, he⟩ : ∃ e, l[k]? = some e := ⟨_, List.getElem?_eq_getElem hlt⟩
      have hcr := cnt_real he
      unfold colE at hcr
      obtain ⟨b, off, hab, hbl, hE⟩ := HV.out.at HB.out he
      subst hab
      obtain ⟨c0, c1, c2, c3, c4, c5, c6, c7⟩ := hE
      obtain ⟨kind, style, flag, text, anchor, tag, at_, code⟩ := e
      simp only at c0 c1 c2 c3 c4 c5 c6 c7 hcr
      have HB2 : Hid (Below w.heap.size w (wr.alloc (.cells #[.int .i64 kind, .int .i64 style, .bool flag, .string text, .string anchor, .string tag, .int .i64 at_, .int .i64 code] 47))) := HB.out.alloc HB.out.size _
      have HR := hidG hcr
      have HC := hidG hc
      have HLT := hidG hlt
      clear he hbl hcr hc hk HB
      by_cases h3 : kind = 3
      · have t3 : (kind == 3) = true := by rw [h3]; rfl
        have HN : Hid (cntR l (k + 1) = c + 1) := by show _ = _; rw [cntR_yes (HR.out.trans (by rw [decide_eq_true h3]; rfl)), HC.out]
        clear h3 HR
        go_wp2_with fail
        go_roundw
        case rel => exact ⟨k + 1, by rw [HN.out]; go_num, by go_num, HLT.out, HB2⟩
        case measure => have := HLT.out; simp [intOf]; omega
      · have t3 : (kind == 3) = false := by rw [beq_eq_false_iff_ne]; exact h3
        by_cases h4 : kind = 4
        · have t4 : (kind == 4) = true := by rw [h4]; rfl
          have HN : Hid (cntR l (k + 1) = c + 1) := by show _ = _; rw [cntR_yes (HR.out.trans (by rw [decide_eq_true h4]; simp)), HC.out]
          clear h3 h4 HR
          go_wp2_with fail
          go_roundw
          case rel => exact ⟨k + 1, by rw [HN.out]; go_num, by go_num, HLT.out, HB2⟩
          case measure => have := HLT.out; simp [intOf]; omega
        · have t4 : (kind == 4) = false := by rw [beq_eq_false_iff_ne]; exact h4
          by_cases h5 : kind = 5
          · have t5 : (kind == 5) = true := by rw [h5]; rfl
            have HN : Hid (cntR l (k + 1) = c + 1) := by show _ = _; rw [cntR_yes (HR.out.trans (by rw [decide_eq_true h5]; simp)), HC.out]
            clear h3 h4 h5 HR
            go_wp2_with fail
            go_roundw
            case rel => exact ⟨k + 1, by rw [HN.out]; go_num, by go_num, HLT.out, HB2⟩
            case measure => have := HLT.out; simp [intOf]; omega
          · have t5 : (kind == 5) = false := by rw [beq_eq_false_iff_ne]; exact h5
            have HN : Hid (cntR l (k + 1) = c) := by show _ = _; rw [cntR_no (HR.out.trans (by rw [decide_eq_false h3, decide_eq_false h4, decide_eq_false h5]; rfl)), HC.out]
            clear h3 h4 h5 HR
            go_wp2_with fail
            go_roundw
            case rel => exact ⟨k + 1, by rw [HN.out], by go_num, HLT.out, HB2⟩
            case measure => have := HLT.out; simp [intOf]; omega
    · obtain rfl : k = l.length := by omega
      have hge : ¬ (l.length : Int) < (l.length : Int) := by omega
      have HC := hidG hc
      clear hc hk hlt
      go_wp2_with fail
      go_ret
      exact ⟨ret_i (congrArg (fun n : Nat => (n : Int)) HC.out.symm), HB.out⟩
theorem knF_zero (l : List Ev) (mb : List Nat) : knF l 0 mb = fun _ => none := by
  funext i
  unfold knF
  rw [if_neg (by omega)]
set_option maxHeartbeats 8000000 in
set_option maxRecDepth 100000 in
theorem newLoom_any (w : World) (a : Option Addr) (m c : Nat) (l : List Ev) :
    Calls Try.prog 27 #[.slice a m c] w fun e w' => ∃ B T B1 B2 K, e = .returned (.pointer (some ⟨B, 0, none⟩)) ∧ LmP w B T B1 B2 K (.slice a m c) l 0 0 w' := by
  have hmm := @run_makeMap Try.prog
  have cT := newTies_any w a m c
  go_enter Try.func27, Try.ntmps27
  go_wp2_with fail
  refine cT.mono ?_
  rintro e w1 ⟨T, B1, B2, rfl, hT⟩
  have HT := hidG hT
  obtain ⟨w2, hw2⟩ : ∃ w2, w1.alloc (.map #[] 0) = w2 := ⟨_, rfl⟩
  have s2 : w2.heap.size = w1.heap.size + 1 := by rw [← hw2]; simp
  have b2 : Below w1.heap.size w1 w2 := by rw [← hw2]; exact al_belowG w1 _
  obtain ⟨w3, hw3⟩ : ∃ w3, w2.alloc (.cells #[.map none, .slice none 0 0, .pointer (some ⟨T, 0, none⟩), .map (some w1.heap.size), .slice none 0 0] 79) = w3 := ⟨_, rfl⟩
  have b3 : Below w2.heap.size w2 w3 := by rw [← hw3]; exact al_belowG w2 _
  have hE : w3.heap[w2.heap.size]? = some (.cells #[.map none, .slice none 0 0, .pointer (some ⟨T, 0, none⟩), .map (some w1.heap.size), .slice none 0 0] 79 (0, 0)) := by rw [← hw3]; exact heap_alloc_new w2 _
  have hK : MapM Try.prog 3 dkey ptr w3 w1.heap.size 0 (fun _ => none) := by
    refine (MapM.made w1 Try.prog 3 dkey ptr).same ?_
    rw [hw2, b3.block _ (by omega)]
  have hws := hT.below.size
  have hm1 : B1 < w1.heap.size := by obtain ⟨_, _, h⟩ := hT.nm; exact h.lt
  have hm2 : B2 < w1.heap.size := by obtain ⟨_, _, h⟩ := hT.df; exact h.lt
  have HO : Hid (LmP w (w1.heap.size + 1) T B1 B2 w1.heap.size (.slice a m c) l 0 0 w3) := by
    refine ⟨[], .map none, .slice none 0 0, .slice none 0 0, [], rfl, ?_⟩
    rw [s2] at hE
    refine ⟨(hT.stays b2).stays b3, ⟨hE, ⟨none, 0, rfl⟩, ⟨rfl, .inl ⟨rfl, rfl⟩⟩, .inl ⟨rfl, rfl⟩⟩, ⟨0, Nat.le_refl _, by rw [knF_zero]; exact hK⟩, ⟨rfl, .inl ⟨rfl, rfl⟩⟩, rfl, rfl, rfl, List.nodup_nil, fun m n b kv c h => (by simp [ndsR, realsTo] at h), fun i j a b _ h => by simp at h, fun i a h => by simp at h, far_nil _, ⟨by omega, hws, fun b h => (by cases h)⟩, ⟨by omega, by omega, by simp, by simp, by simp⟩⟩
  have HW : Hid (w2.alloc (.cells #[.map none, .slice none 0 0, .pointer (some ⟨T, 0, none⟩), .map (some w1.heap.size), .slice none 0 0] 79) = w3) := hw3
  clear cT hT b2 b3 hE hK hw3 s2 hws hm1 hm2
  subst hw2
  go_wp2_with fail
  go_ret
  refine ⟨w1.heap.size + 1, T, B1, B2, w1.heap.size, rfl, ?_⟩
  rw [HW.out]
  exact HO.out
end Go.Proofs.Ytkdlakcmhdiojaa
/- The program's Compose: every node told, the graph made. -/
namespace Go.Proofs.Ytkdlakcmhdiojaa
open Go.ChangeShapes Go.WideShapes Go.ChangeAt Go.RowKit Go.Deep Go.Maps
/-- The loom behind so many nodes. -/
def LmN (w0 : World) (B T B1 B2 K : Nat) (lv : Value) (l : List Ev) (q : Nat) (w : World) : Prop := ∃ k, k ≤ l.length ∧ (nodesTo l k).length = q ∧ LmP w0 B T B1 B2 K lv l q k w
theorem cnt_fold : ∀ (L : List Sp) (a : Nat), L.foldl (fun (n : Nat) (_ : Sp) => n + 1) a = a + L.length
  | [], a => rfl
  | _ :: t, a => by rw [List.foldl_cons, cnt_fold t, List.length_cons]; omega
theorem tellLoom {w0 : World} {B T B1 B2 K : Nat} {lv : Value} {l : List Ev} (hw : whole l = true) (hS : SlE w0 lv l) (hl : totE l + l.length ≤ 1048576) : TellC 29 (.pointer (some ⟨B, 0, none⟩)) (spansF l) (fun (n : Nat) (_ : Sp) => n + 1) (LmN w0 B T B1 B2 K lv l) 0 :=
  ⟨enters_of Try.func29 (by kernel_rfl) rfl, fun a w w' ⟨k, h1, h2, h3⟩ hb => ⟨k, h1, h2, h3.stays hb⟩, fun q n w hx hI => by
    have hql := (List.getElem?_eq_some_iff.1 hx).1
    have hsl := spansF_le l
    have hlen : ((spansF l).take q).length = q := by rw [List.length_take]; omega
    rw [cnt_fold, hlen, Nat.zero_add] at hI ⊢
    obtain ⟨k, h1, h2, h3⟩ := hI
    unfold spansF at hx
    rw [List.getElem?_map] at hx
    cases hj : (nodesTo l l.length)[q]? with
    | none => rw [hj] at hx; cases hx
    | some j =>
      rw [hj] at hx
      obtain rfl : fin l j = n := by simpa using hx
      obtain ⟨g1, g2, g3, g4, g5⟩ := next_node h2 hj
      have h4 := h3.gap g1 g4
      by_cases hu : upG l j 0 = -1
      · refine (loomTake_root hw h4 hS hl g2 g3 (by omega) hu).mono ?_
        rintro r w' ⟨rfl, h5, h6⟩
        exact ⟨rfl, ⟨j + 1, g2, g5, h5⟩, h6⟩
      · obtain ⟨u, u1, u2, u3, u4, u5⟩ := up_col g2 hu
        refine (loomTake_kid hw h4 hS hl g2 g3 (by omega) u1 u2 u3 u4 u5).mono ?_
        rintro r w' ⟨rfl, h5, h6⟩
        exact ⟨rfl, ⟨j + 1, g2, g5, h5⟩, h6⟩⟩
theorem LmN.done {w0 w : World} {B T B1 B2 K : Nat} {lv : Value} {l : List Ev} (h : LmN w0 B T B1 B2 K lv l (nodesTo l l.length).length w) : ∃ q, LmP w0 B T B1 B2 K lv l q l.length w := by
  obtain ⟨k, h1, h2, h3⟩ := h
  refine ⟨_, h3.gap h1 (fun i h4 h5 => ?_)⟩
  cases hb : nodB l i with
  | false => rfl
  | true =>
    have h6 := nodes_mono (l := l) (i - k) k
    have h7 := nodes_mono (l := l) (l.length - (i + 1)) (i + 1)
    rw [show k + (i - k) = i by omega] at h6
    rw [show i + 1 + (l.length - (i + 1)) = l.length by omega, nodesTo_yes hb, List.length_append, List.length_singleton] at h7
    omega
theorem LmP.below {w0 w : World} {B T B1 B2 K : Nat} {lv : Value} {l : List Ev} {q k : Nat} (h : LmP w0 B T B1 B2 K lv l q k w) : Below w0.heap.size w0 w := by
  obtain ⟨_, _, _, _, _, _, h2⟩ := h.ex
  exact h2.ties.below
/-- What is asked of impl.Compose. -/
def ComOwn (w : World) (g : Gr) (ok : Bool) (e : Ending) (w' : World) : Prop := (∃ nv rv vs, e = .returned (.tuple #[.agg #[nv, rv], .bool ok]) ∧ isSlG nv ∧ isSlG rv ∧ GOwn w.heap.size w' nv rv g vs) ∧ Below w.heap.size w w'
def ImplCo : Prop := ∀ (w : World) (v : Value) (l : List Ev), SlE w v l → totE l + l.length ≤ 1048576 → (∀ e ∈ l, wfE e) → ∀ (g : Gr) (ok : Bool), composeP l = (g, ok) → Calls Try.prog 8 #[v] w fun e w' => ComOwn w g ok e w'
theorem own_none (lo : Nat) (w : World) : GOwn lo w (.slice none 0 0) (.slice none 0 0) ⟨[], []⟩ [] := ⟨⟨rfl, .inl ⟨rfl, rfl⟩⟩, KidsOwn.nil _ _, ⟨rfl, .inl ⟨rfl, rfl⟩⟩, fun i a x h => by simp at h⟩
theorem comO_none {w w1 : World} {g : Gr} {ok : Bool} (h : g = ⟨[], []⟩ ∧ ok = false) (hb : Below w.heap.size w w1) : ComOwn w g ok (.returned (.tuple #[.agg #[.slice none 0 0, .slice none 0 0], .bool false])) w1 := by
  obtain ⟨rfl, rfl⟩ := h
  exact ⟨⟨_, _, [], rfl, ⟨_, _, _, rfl⟩, ⟨_, _, _, rfl⟩, own_none _ _⟩, hb⟩
set_option maxHeartbeats 8000000 in
set_option maxRecDepth 100000 in
theorem implCo : ImplCo := by
  intro w v l hS hl hf g ok hg
  obtain ⟨la, lc, rfl⟩ := hS.sl
  have HV := hidG hS
  have HT := hidG hl
  have HF := hidG hf
  have HG := hidG hg
  have hlI : (l.length : Int) ≤ 1048576 := by omega
  obtain ⟨V, hV⟩ : ∃ V, w.alloc (.cells #[.slice none 0 0, .slice none 0 0] 27) = V := ⟨_, rfl⟩
  have HB0 : Hid (Below w.heap.size w V) := by show Below _ _ _; rw [← hV]; exact al_belowG w _
  have HE0 : Hid (V.heap[w.heap.size]? = some (.cells #[.slice none 0 0, .slice none 0 0] 27 (0, 0))) := by show _ = _; rw [← hV]; exact heap_alloc_new w _
  have HS0 : Hid (V.heap.size = w.heap.size + 1) := by show _ = _; rw [← hV]; show (w.heap.push _).size = _; simp
  have HQ : Hid (∀ x, Below V.heap.size V x → x.heap[w.heap.size]? = some (.cells #[.slice none 0 0, .slice none 0 0] 27 (0, 0))) := fun x hb => (hb.block w.heap.size (by rw [HS0.out]; exact Nat.lt_succ_self _)).trans HE0.out
  have HVV := hidG hV
  obtain ⟨wb, hwb⟩ : ∃ b, whole l = b := ⟨_, rfl⟩
  have cW := implWhole V _ l (HV.out.stays HB0.out) HT.out HF.out
  rw [hwb] at cW
  have HWB := hidG hwb
  clear hS hl hf hg hV hwb
  go_enter Try.func8, Try.ntmps8
  go_wp2_with fail
  rw [HVV.out]
  refine cW.mono ?_
  rintro e9 w1 ⟨rfl, hb1⟩
  have HB1 := hidG hb1
  clear hb1 cW
  cases wb with
  | false =>
    have HO := hidG (com_no HG.out (fun h => by rw [HWB.out] at h; exact absurd h.1 (by decide)))
    have hq := HQ.out w1 HB1.out
    have HQ1 := hidG hq
    have q0 := n2_0 hq
    have q1 := n2_1 hq
    have q2 := n2_f hq 0
    have q3 := n2_f hq 1
    clear hq
    go_wp2_with fail
    have hF := n2_set1 (n2_set0 HQ1.out (.slice none 0 0)) (.slice none 0 0)
    try simp only [Exit.inBlock, Exit.then]
    refine bodyPost_ret (results_row_bool rfl _ _ w.heap.size 27 _ (0, 0) _ _ rfl rfl hF Try.underlying27 rfl (by kernel_rfl)) rfl ?_
    exact comO_none HO.out (((HB0.out.trans (HB1.out.mono HB0.out.size)).setCell (Nat.le_refl _) _).setCell (Nat.le_refl _) _)
  | true =>
    obtain ⟨c, hc⟩ : ∃ c, cntR l l.length = c := ⟨_, rfl⟩
    have hcI : (c : Int) ≤ 1048576 := by rw [← hc]; have := cntR_le l l.length; omega
    have cC := countNodes_any w1 _ l (HV.out.stays (HB0.out.trans (HB1.out.mono HB0.out.size))) (by omega)
    rw [hc] at cC
    have HC := hidG hc
    clear hc
    go_wp2_with fail
    refine cC.mono ?_
    rintro e9 w2 ⟨rfl, hb2⟩
    have HB2 := hidG (HB1.out.trans (hb2.mono HB1.out.size))
    have HBF := hidG (HB0.out.trans (HB2.out.mono HB0.out.size))
    clear hb2 cC HB1
    by_cases hc3 : 3000 < c
    · have hc3I : (c : Int) > 3000 := by omega
      have HO := hidG (com_no HG.out (fun h => by have h2 := h.2; rw [HC.out] at h2; omega))
      have hq := HQ.out w2 HB2.out
      have HQ1 := hidG hq
      have q0 := n2_0 hq
      have q1 := n2_1 hq
      have q2 := n2_f hq 0
      have q3 := n2_f hq 1
      clear hq hc3
      go_wp2_with fail
      have hF := n2_set1 (n2_set0 HQ1.out (.slice none 0 0)) (.slice none 0 0)
      try simp only [Exit.inBlock, Exit.then]
      refine bodyPost_ret (results_row_bool rfl _ _ w.heap.size 27 _ (0, 0) _ _ rfl rfl hF Try.underlying27 rfl (by kernel_rfl)) rfl ?_
      exact comO_none HO.out ((HBF.out.setCell (Nat.le_refl _) _).setCell (Nat.le_refl _) _)
    · have hc3I : ¬ (c : Int) > 3000 := by omega
      have HO := hidG (com_yes HG.out ⟨HWB.out, by rw [HC.out]; omega⟩)
      have cL := newLoom_any w2 la l.length lc l
      clear hc3
      go_wp2_with fail
      refine cL.mono ?_
      rintro e9 w3 ⟨B, T, B1, B2, K, rfl, hP⟩
      have HP3 := hidG (show LmN w2 B T B1 B2 K (.slice la l.length lc) l 0 w3 from ⟨0, Nat.zero_le _, rfl, hP⟩)
      have HS3 := hidG (HV.out.stays HBF.out)
      have hb3 := hP.below
      have cE := eachNode_any _ _ _ _ 0 w3 _ l (HS3.out.stays hb3) HT.out HF.out (tellLoom (B := B) (T := T) (B1 := B1) (B2 := B2) (K := K) HWB.out HS3.out HT.out) HP3.out
      rw [(whole_parts HWB.out).1] at cE
      simp only [if_true] at cE
      clear cL hP hb3
      go_wp2_with fail
      refine cE.mono ?_
      rintro e9 w4 ⟨rfl, h4⟩
      have h5 : LmN w2 B T B1 B2 K (.slice la l.length lc) l (nodesTo l l.length).length w4 := by
        unfold gat at h4
        rw [cnt_fold, List.length_map, Nat.zero_add] at h4
        exact h4
      obtain ⟨q, h6⟩ := h5.done
      have HB4 := hidG (HB2.out.trans (h6.below.mono HB2.out.size))
      have cG := loomGraph_any HWB.out (by omega) h6
      clear cE h4 h5 h6
      go_wp2_with fail
      refine cG.mono ?_
      rintro e9 w5 ⟨⟨nv, rv, vs, rfl, ⟨na, nn, nc, rfl⟩, ⟨ra, rn, rc, rfl⟩, hO⟩, hb5⟩
      have hq := HQ.out w5 (HB4.out.trans (hb5.mono HB4.out.size))
      have HQ1 := hidG hq
      have q0 := n2_0 hq
      have q1 := n2_1 hq
      have q2 := n2_f hq 0
      have q3 := n2_f hq 1
      have HOW := hidG hO
      have HB5 := hidG (HB0.out.trans ((HB4.out.trans (hb5.mono HB4.out.size)).mono HB0.out.size))
      have HPB : Hid (w.heap.size < w4.heap.size) := by show _ < _; have h1 := HS0.out; have h2 := HB4.out.size; omega
      clear hq hO hb5 cG
      go_wp2_with fail
      have hF := n2_set1 (n2_set0 HQ1.out (.slice na nn nc)) (.slice ra rn rc)
      try simp only [Exit.inBlock, Exit.then]
      refine bodyPost_ret (results_row_bool rfl _ _ w.heap.size 27 _ (0, 0) _ _ rfl rfl hF Try.underlying27 rfl (by kernel_rfl)) rfl ?_
      obtain ⟨rfl, rfl⟩ := HO.out
      exact ⟨⟨_, _, vs, rfl, ⟨_, _, _, rfl⟩, ⟨_, _, _, rfl⟩, ((HOW.out.setLow HPB.out _ _).setLow HPB.out _ _).lower (Nat.le_of_lt HPB.out)⟩, (HB5.out.setCell (Nat.le_refl _) _).setCell (Nat.le_refl _) _⟩
end Go.Proofs.Ytkdlakcmhdiojaa
/- How great a composed graph may be. -/
namespace Go.Proofs.Ytkdlakcmhdiojaa
open Go.RowKit
def ite1 (b : Bool) : Nat := if b = true then 1 else 0
theorem kids_step (l : List Ev) (u : Int) (k : Nat) : (kidsTo l u (k + 1)).length = (kidsTo l u k).length + ite1 (inAt l u k) := by
  cases h : inAt l u k with
  | true => rw [kidsTo_yes h, List.length_append]; rfl
  | false => rw [kidsTo_no h]; rfl
theorem one_in (l : List Ev) (k : Nat) : ∀ us : List Int, us.Nodup → (us.map (fun u => ite1 (inAt l u k))).sum ≤ 1
  | [], _ => by simp
  | u :: t, h => by
    rw [List.nodup_cons] at h
    rw [List.map_cons, List.sum_cons]
    have ih := one_in l k t h.2
    cases hi : inAt l u k with
    | false => unfold ite1; simp; exact ih
    | true =>
      have hz : (t.map (fun v => ite1 (inAt l v k))).sum = 0 := by
        have : ∀ v ∈ t, ite1 (inAt l v k) = 0 := fun v hv => by
          have hne : v ≠ u := fun e => h.1 (e ▸ hv)
          unfold inAt at hi ⊢
          rw [Bool.and_eq_true] at hi
          have hu := of_decide_eq_true hi.2
          rw [hu, decide_eq_false (fun e => hne e.symm), Bool.and_false]
          rfl
        clear ih h
        induction t with
        | nil => rfl
        | cons a s ih => rw [List.map_cons, List.sum_cons, this a (List.mem_cons_self), ih (fun v hv => this v (List.mem_cons_of_mem _ hv))]
      rw [hz]
      unfold ite1
      simp
theorem sum_add (f g : Int → Nat) : ∀ us : List Int, (us.map (fun u => f u + g u)).sum = (us.map f).sum + (us.map g).sum
  | [] => rfl
  | u :: t => by
    have := sum_add f g t
    simp only [List.map_cons, List.sum_cons]
    omega
theorem kids_all (l : List Ev) (us : List Int) (h : us.Nodup) : ∀ k, (us.map (fun u => (kidsTo l u k).length)).sum ≤ k
  | 0 => by
    have : ∀ us : List Int, (us.map (fun u => (kidsTo l u 0).length)).sum = 0 := fun us => by
      induction us with
      | nil => rfl
      | cons a s ih => rw [List.map_cons, List.sum_cons, ih]; rfl
    rw [this]
    exact Nat.le_refl _
  | k + 1 => by
    have ih := kids_all l us h k
    have h1 := one_in l k us h
    have e : us.map (fun u => (kidsTo l u (k + 1)).length) = us.map (fun u => (kidsTo l u k).length + ite1 (inAt l u k)) := List.map_congr_left (fun u _ => kids_step l u k)
    rw [e, sum_add]
    omega
def ttE (l : List Ev) (j : Nat) : Nat := match l[j]? with
  | some e => e.tag.size + e.text.size
  | none => 0
theorem tt_all (l : List Ev) : ∀ k, k ≤ l.length → ((realsTo l k).map (ttE l)).sum ≤ totE (l.take k)
  | 0, _ => by simp [realsTo]
  | k + 1, hk => by
    have ih := tt_all l k (by omega)
    obtain ⟨e, he⟩ : ∃ e, l[k]? = some e := ⟨_, List.getElem?_eq_getElem (by omega)⟩
    rw [totE_take he]
    cases hr : realB l k with
    | false => rw [realsTo_no hr]; omega
    | true =>
      rw [realsTo_yes hr, List.map_append, List.sum_append]
      have : ttE l k ≤ e.tot := by unfold ttE; rw [he]; unfold Ev.tot; simp only []; omega
      simp only [List.map_cons, List.map_nil, List.sum_cons, List.sum_nil]
      omega
theorem totN_map (l : List Ev) (k : Nat) : ∀ L : List Nat, totN (L.map (fun j => ndOf l j (kidsTo l (j : Int) k))) = (L.map (ttE l)).sum + ((L.map (fun (j : Nat) => (j : Int))).map (fun u => (kidsTo l u k).length)).sum
  | [] => rfl
  | j :: t => by
    have ih := totN_map l k t
    have h1 : (ndOf l j (kidsTo l (j : Int) k)).tot = ttE l j + (kidsTo l (j : Int) k).length := by
      cases hl : l[j]? with
      | some e => rw [ndOf_at hl]; unfold ttE; rw [hl]; rfl
      | none => unfold ndOf ttE; rw [hl]; rfl
    simp only [List.map_cons, List.sum_cons, totN, ih, h1]
    omega
theorem com_tot (l : List Ev) : totN (knotsTo l l.length) + (kidsTo l (-1) l.length).length ≤ totE l + l.length := by
  unfold knotsTo
  rw [totN_map]
  have h1 := tt_all l l.length (Nat.le_refl _)
  rw [List.take_length] at h1
  have hnd : ((-1 : Int) :: (realsTo l l.length).map (fun (j : Nat) => (j : Int))).Nodup := by
    rw [List.nodup_cons]
    refine ⟨fun hm => ?_, ?_⟩
    · obtain ⟨j, _, e⟩ := List.mem_map.1 hm
      omega
    · have hr : (realsTo l l.length).Nodup := (List.nodup_range).filter _
      exact List.pairwise_map.2 (hr.imp (fun hne e => hne (by omega)))
  have h2 := kids_all l _ hnd l.length
  rw [List.map_cons, List.sum_cons] at h2
  omega
end Go.Proofs.Ytkdlakcmhdiojaa
/- Marks on a graph found again: the laws' heldNodeS and heldGraph. -/
namespace Go.Proofs.Ytkdlakcmhdiojaa
open Go.ChangeShapes Go.WideShapes Go.ChangeAt Go.RowKit Go.Deep
theorem markNs_at : ∀ {k : Nat} {ns : List Nd} {j : Nat} {n : Nd}, ns[j]? = some n → (markNs k ns)[j]? = some (markNd (k + cntNs (ns.take j)) n)
  | _, [], _, _, h => by simp at h
  | k, a :: t, 0, n, h => by
    obtain rfl : a = n := by simpa using h
    simp [markNs, cntNs]
  | k, a :: t, j + 1, n, h => by
    have := markNs_at (k := k + 3 + a.kids.length) (ns := t) (j := j) (n := n) (by simpa using h)
    rw [markNs, List.getElem?_cons_succ, this, List.take_succ_cons, cntNs, show k + 3 + a.kids.length + cntNs (t.take j) = k + (3 + a.kids.length + cntNs (t.take j)) by omega]
theorem cntNs_take {ns : List Nd} {j : Nat} {n : Nd} (h : ns[j]? = some n) : cntNs (ns.take (j + 1)) = cntNs (ns.take j) + (3 + n.kids.length) := by
  rw [List.take_add_one, h]
  show cntNs (_ ++ [n]) = _
  rw [cntNs_app]
  rfl
theorem cntNs_le : ∀ (ns : List Nd) (j : Nat), cntNs (ns.take j) ≤ cntNs ns
  | [], j => by simp
  | n :: t, 0 => by simp [cntNs]
  | n :: t, j + 1 => by
    have := cntNs_le t j
    rw [List.take_succ_cons, cntNs, cntNs]
    omega
set_option maxHeartbeats 8000000 in
theorem heldNs_any (w : World) (nv : Value) (ns : List Nd) (k : Nat) (hV : NlAt w nv (markNs k ns)) (ht : ns.length + totN ns ≤ 1048576) (k0 : 0 < k) (k1 : k ≤ 1000) :
    Calls Try.prog 37 #[nv, .int .i64 (k : Int)] w fun e w' => e = .returned (.int .i64 ((k + cntNs ns : Nat) : Int)) ∧ Below w.heap.size w w' := by
  obtain ⟨a, c, rfl⟩ := hV.sl
  have HV : Hid (NlAt w (.slice a (markNs k ns).length c) (markNs k ns)) := hV
  have HCT : Hid (cntNs ns ≤ 4000000) := by show _ ≤ _; have := cntNs_tot ns; omega
  have HKL : Hid (∀ n ∈ ns, n.kids.length ≤ 1048576) := fun n hn => by have := totN_mem hn; unfold Nd.tot at this; omega
  have hnl : (ns.length : Int) ≤ 1048576 := by omega
  rw [markNs_len]
  clear hV ht
  go_enter Try.func37, Try.ntmps37
  go_wp2_with fail
  go_loopw [1, 5] (fun kk i wr => ∃ (j : Nat), j ≤ ns.length ∧ i = .int .i64 (j : Int) ∧ kk = .int .i64 ((k + cntNs (ns.take j) : Nat) : Int) ∧ Hid (Below w.heap.size w wr)) (fun _ i _ => ns.length - (intOf i).toNat)
  case atStart => exact ⟨0, Nat.zero_le _, rfl, by simp [cntNs], Below.refl _ _⟩
  case round =>
    obtain ⟨j, hj, rfl, rfl, HB0⟩ := hrel
    by_cases hlt : j < ns.length
    · have hlt' : (j : Int) < (ns.length : Int) := by omega
      obtain ⟨n, hx⟩ : ∃ n, ns[j]? = some n := ⟨_, List.getElem?_eq_getElem hlt⟩
      obtain ⟨b, off, kv, rfl, hbl, hnd⟩ := HV.out.at (markNs_at (k := k) hx)
      obtain ⟨K, hK⟩ : ∃ K, k + cntNs (ns.take j) = K := ⟨_, rfl⟩
      rw [hK] at hnd ⊢
      have hct := cntNs_take hx
      have hle := cntNs_le ns j
      have hK1 : K ≤ 4001000 := by have := HCT.out; omega
      have hK0 : 0 < K := by omega
      have hkl := HKL.out n (List.mem_of_getElem? hx)
      obtain ⟨ka, kc, hkv⟩ := hnd.kids.sl
      obtain rfl : kv = .slice ka (mkN (K + 3) n.kids.length).length kc := hkv
      obtain ⟨M, hM⟩ : ∃ M, K + 3 + n.kids.length = M := ⟨_, rfl⟩
      have HN : Hid (k + cntNs (ns.take (j + 1)) = M) := by show _ = _; omega
      have HC : Hid (∀ wx, Below w.heap.size w wx → wx.cell? ⟨b, off + j * 4, none⟩ = some (.int .i64 (K : Int)) ∧ wx.cell? ⟨b, off + j * 4 + 1, none⟩ = some (.string (mT (K + 1))) ∧ wx.cell? ⟨b, off + j * 4 + 2, none⟩ = some (.string (mT (K + 2))) ∧ wx.cell? ⟨b, off + j * 4 + 3, none⟩ = some (.slice ka n.kids.length kc) ∧ IlAt wx (.slice ka n.kids.length kc) (mkN (K + 3) n.kids.length)) := fun wx hb => by
        have h := hnd.later hbl hb
        have h3 := h.c3
        have h4 : IlAt wx _ (mkN (K + 3) n.kids.length) := h.kids
        rw [mkN_len] at h3 h4
        exact ⟨h.c0, h.c1, h.c2, h3, h4⟩
      have c1 : Hid (∀ w', Calls Try.prog 34 #[.int .i64 ((K : Int) + 1)] w' fun e w'' => e = .returned (.string (mT (K + 1))) ∧ Below w'.heap.size w' w'') := fun w' => markText_any (K + 1) w' (by omega) (by omega)
      have c2 : Hid (∀ w', Calls Try.prog 34 #[.int .i64 ((K : Int) + 1 + 1)] w' fun e w'' => e = .returned (.string (mT (K + 2))) ∧ Below w'.heap.size w' w'') := fun w' => markText_any (K + 2) w' (by omega) (by omega)
      have c3 : Hid (∀ w', IlAt w' (.slice ka n.kids.length kc) (mkN (K + 3) n.kids.length) → Calls Try.prog 38 #[.slice ka n.kids.length kc, .int .i64 ((K : Int) + 1 + 1 + 1)] w' fun e w'' => e = .returned (.int .i64 (M : Int)) ∧ Below w'.heap.size w' w'') := fun w' h => by
        have := heldX_any w' _ n.kids.length (K + 3) h hkl (by omega)
        rw [hM] at this
        exact this
      have t0 : ((K : Int) != (K : Int)) = false := by simp
      have hKI : (K : Int) ≤ 4001000 := by omega
      have hMI : ¬ (M : Int) < 0 := by omega
      obtain ⟨q0, _, _, _, _⟩ := HC.out wr HB0.out
      clear hx hnd hK hct hle hK1 hK0 hkl hM hbl k0 k1 hj
      have d3 : ∀ m : Bw wr, m.val.cell? ⟨b, off + j * 4 + 1, none⟩ = some (.string (mT (K + 1))) := fun m => (HC.out m.val (HB0.out.trans (m.ok.mono HB0.out.size))).2.1
      have hM := Bw.calls (w := wr) (fun w' _ => c1.out w')
      have hne := Bw.some wr
      have ts : ((mT (K + 1)).toList != (mT (K + 1)).toList) = false := by simp
      go_wp2_with fail
      refine wp_region_bw (w0 := wr) (by kernel_rfl) (by kernel_rfl) (Below.refl _ _) ?_
      repeat (go_big_quiet_step ((go_at_call 34; exact hM _)))
      refine wpQuiet_nil ?_
      rintro _ ⟨m, rfl⟩
      have HB1 : Hid (Below w.heap.size w m.val) := HB0.out.trans (m.ok.mono HB0.out.size)
      generalize m.val = w1 at *
      clear d3 hM hne HB0 ts q0
      have d4 : ∀ m : Bw w1, m.val.cell? ⟨b, off + j * 4 + 2, none⟩ = some (.string (mT (K + 2))) := fun m => (HC.out m.val (HB1.out.trans (m.ok.mono HB1.out.size))).2.2.1
      have hM := Bw.calls (w := w1) (fun w' _ => c2.out w')
      have hne := Bw.some w1
      have ts : ((mT (K + 2)).toList != (mT (K + 2)).toList) = false := by simp
      go_wp2_with fail
      refine wp_region_bw (w0 := w1) (by kernel_rfl) (by kernel_rfl) (Below.refl _ _) ?_
      repeat (go_big_quiet_step ((go_at_call 34; exact hM _)))
      refine wpQuiet_nil ?_
      rintro _ ⟨m, rfl⟩
      have HB2 : Hid (Below w.heap.size w m.val) := HB1.out.trans (m.ok.mono HB1.out.size)
      generalize m.val = w2 at *
      clear d4 hM hne HB1 ts
      obtain ⟨_, _, _, q3, q4⟩ := HC.out w2 HB2.out
      have c3' := c3.out w2 q4
      clear q4
      go_wp2_with fail
      refine c3'.mono ?_
      rintro e w3 ⟨rfl, hb3⟩
      have HB3 : Hid (Below w.heap.size w w3) := HB2.out.trans (hb3.mono HB2.out.size)
      clear c3' hb3 q3 HB2
      go_wp2_with fail
      go_roundw
      case rel => exact ⟨j + 1, hlt, by go_num, by congr 1; have := HN.out; omega, HB3⟩
      case measure => simp [intOf]; omega
    · obtain rfl : j = ns.length := by omega
      rw [List.take_length]
      go_wp2_with fail
      go_ret
      exact ⟨rfl, HB0.out⟩
set_option maxHeartbeats 4000000 in
theorem heldG_any (w : World) (nv rv : Value) (g : Gr) (k : Nat) (hV : GrAt w nv rv (markGr k g)) (ht : g.tot ≤ 1048576) (k0 : 0 < k) (k1 : k ≤ 1000) :
    Calls Try.prog 13 #[.agg #[nv, rv], .int .i64 (k : Int)] w fun e w' => e = .returned (.int .i64 ((k + cntGr g : Nat) : Int)) ∧ Below w.heap.size w w' := by
  have htt : g.nodes.length + totN g.nodes + g.roots.length ≤ 1048576 := ht
  have hN : NlAt w nv (markNs k g.nodes) := hV.1
  have hR : IlAt w rv (mkN (k + cntNs g.nodes) g.roots.length) := hV.2
  obtain ⟨na, nc, rfl⟩ := hN.sl
  obtain ⟨ra, rc, rfl⟩ := hR.sl
  rw [markNs_len] at hN ⊢
  rw [mkN_len] at hR ⊢
  obtain ⟨V, hVW⟩ : ∃ V, w.alloc (.cells #[.slice na g.nodes.length nc, .slice ra g.roots.length rc] 27) = V := ⟨_, rfl⟩
  have HB0 : Hid (Below w.heap.size w V) := by show Below _ _ _; rw [← hVW]; exact (Below.refl _ w).alloc (Nat.le_refl _) _
  have HS : Hid (V.heap.size = w.heap.size + 1) := by show _ = _; rw [← hVW]; show (w.heap.push _).size = _; simp
  have HE : Hid (V.heap[w.heap.size]? = some (.cells #[.slice na g.nodes.length nc, .slice ra g.roots.length rc] 27 (0, 0))) := by show _ = _; rw [← hVW]; exact heap_alloc_new w _
  have hct := cntNs_tot g.nodes
  have cN := heldNs_any V _ g.nodes k (hN.later HB0.out) (by omega) k0 k1
  obtain ⟨m, hm⟩ : ∃ m, k + cntNs g.nodes = m := ⟨_, rfl⟩
  rw [hm] at cN hR
  have hmb : m ≤ 5000000 := by omega
  obtain ⟨M, hM⟩ : ∃ M, m + g.roots.length = M := ⟨_, rfl⟩
  have HCG : Hid ((M : Int) = ((k + cntGr g : Nat) : Int)) := by show _ = _; unfold cntGr; omega
  have cR : Hid (∀ x, Below w.heap.size w x → Calls Try.prog 38 #[.slice ra g.roots.length rc, .int .i64 (m : Int)] x fun e w'' => e = .returned (.int .i64 (M : Int)) ∧ Below x.heap.size x w'') := fun x hb => by
    have := heldX_any x _ g.roots.length m (hR.later hb) (by omega) (by omega)
    rw [hM] at this
    exact this
  have q0 := n2_0 HE.out
  have HV : Hid (w.alloc (.cells #[.slice na g.nodes.length nc, .slice ra g.roots.length rc] 27) = V) := hVW
  have hm0 : ¬ (m : Int) < 0 := by omega
  have hM0 : ¬ (M : Int) < 0 := by omega
  rw [← hVW] at q0
  clear hV hN hR hVW ht htt hct hm hM hmb k0 k1
  go_enter Try.func13, Try.ntmps13
  go_wp2_with fail
  rw [HV.out]
  refine cN.mono ?_
  rintro e w1 ⟨rfl, hb1⟩
  have HB1 : Hid (Below w.heap.size w w1) := HB0.out.trans (hb1.mono HB0.out.size)
  have q1 := n2_1 ((hb1.block w.heap.size (by rw [HS.out]; exact Nat.lt_succ_self _)).trans HE.out)
  have cR1 := cR.out w1 HB1.out
  clear cN hb1 q0 cR
  go_wp2_with fail
  refine cR1.mono ?_
  rintro e w2 ⟨rfl, hb2⟩
  have HB2 : Hid (Below w.heap.size w w2) := HB1.out.trans (hb2.mono HB1.out.size)
  clear cR1 hb2 q1
  go_wp2_with fail
  go_ret
  exact ⟨congrArg (fun z => Ending.returned (.int .i64 z)) HCG.out, HB2.out⟩
end Go.Proofs.Ytkdlakcmhdiojaa

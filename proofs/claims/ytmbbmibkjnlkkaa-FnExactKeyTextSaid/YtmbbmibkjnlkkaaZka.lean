/- Several texts in one: Isp Sup Sno Srt Lne Ien Jec Ifn Pnj Mpg Iti Itj Ik1 Ik2 Ik3 Ik4 Ik5 Ik6 Itl Jrd Jre Jky Jkp. -/
import Derived.Test.YtmbbmibkjnlkkaaIns
import Derived.Test.YtmbbmibkjnlkkaaPnf
import Derived.Test.YtmbbmibkjnlkkaaInt
import Derived.Test.YtmbbmibkjnlkkaaSne
import Derived.Test.YtmbbmibkjnlkkaaSnt
import Derived.Test.YtmbbmibkjnlkkaaSdf
import Derived.Test.YtmbbmibkjnlkkaaSks
import Derived.Test.YtmbbmibkjnlkkaaTeq
import Derived.Test.YtmbbmibkjnlkkaaOev
import Derived.Deep.RegionHeld3
import Derived.Test.YtmbbmibkjnlkkaaBwr
import Derived.Maps.OwnSet
import Derived.Below
import Derived.Laws.EntriesVeiled
import Derived.Test.YtmbbmibkjnlkkaaHsu
import Derived.Test.YtmbbmibkjnlkkaaLkt
/- The contracts of impl.spansOf and impl.eachNode. -/
namespace Go.Proofs.Ytmbbmibkjnlkkaa
open Go.ChangeShapes Go.WideShapes Go.ChangeAt Go.RowKit
theorem spans_le (es : List Ev) (k : Nat) : (spansTo es k).length ≤ k := by
  unfold spansTo
  rw [List.length_map]
  exact nodesTo_le es k
theorem stk_le (es : List Ev) : ∀ k, (stk es k).length ≤ k
  | 0 => Nat.le_refl _
  | k + 1 => by
    have ih := stk_le es k
    rw [stk]
    split
    · omega
    · split
      · rw [List.length_cons]; omega
      · split
        · rw [List.length_tail]; omega
        · omega
theorem begin_at (b : Nat) (es : List Ev) (k : Nat) (hk : k < es.length) (w : World) (hG : Ng b (spansTo es k) (opensTo es k) w) (hl : es.length ≤ 1048576) :
    Calls Try.prog 53 #[.pointer (some ⟨b, 0, none⟩), .int .i64 (k : Int)] w fun e w' => e = .returned (.tuple #[]) ∧ Ng b (spansTo es k ++ [⟨k, -1, headI (stk es k)⟩]) ((spansTo es k).length :: opensTo es k) w' ∧ Below b w w' := by
  have hsl := spans_le es k
  have hkl := stk_le es k
  cases hs : stk es k with
  | nil =>
    have ho : opensTo es k = [] := by unfold opensTo; rw [hs]; rfl
    rw [ho] at hG ⊢
    exact begin_none b _ k w hG (by omega)
  | cons j q =>
    have ho : opensTo es k = openAt es j :: q.map (openAt es) := by unfold opensTo; rw [hs]; rfl
    obtain ⟨s, hs1, hs2⟩ := opens_top hs
    rw [ho] at hG ⊢
    have := begin_some b _ (openAt es j) (q.map (openAt es)) s k w hG (by omega) (by rw [List.length_map]; rw [hs] at hkl; simp at hkl; omega) hs1
    rw [hs2] at this
    exact this
theorem col_step (b : Nat) (es : List Ev) (k : Nat) (e : Ev) (he : es[k]? = some e) (hc : e.kind = 3 ∨ e.kind = 4) (hl : es.length ≤ 1048576) (w : World) (hG : Ng b (spansTo es k) (opensTo es k) w) :
    Calls Try.prog 53 #[.pointer (some ⟨b, 0, none⟩), .int .i64 (k : Int)] w fun r w' => r = .returned (.tuple #[]) ∧ Ng b (spansTo es (k + 1)) (opensTo es (k + 1)) w' ∧ Below b w w' := by
  have hc' : colE e = true := by unfold colE; simp; omega
  rw [spans_col he hc', opens_col he hc']
  exact begin_at b es k (List.getElem?_eq_some_iff.1 he).1 w hG hl
theorem leaf_step (b : Nat) (es : List Ev) (k : Nat) (e : Ev) (he : es[k]? = some e) (hc : e.kind = 5 ∨ e.kind = 6) (hl : es.length ≤ 1048576) (w : World) (hG : Ng b (spansTo es k ++ [⟨k, -1, headI (stk es k)⟩]) ((spansTo es k).length :: opensTo es k) w) :
    Calls Try.prog 54 #[.pointer (some ⟨b, 0, none⟩), .int .i64 (k : Int)] w fun r w' => r = .returned (.tuple #[]) ∧ Ng b (spansTo es (k + 1)) (opensTo es (k + 1)) w' ∧ Below b w w' := by
  have hk := (List.getElem?_eq_some_iff.1 he).1
  have hsl := spans_le es k
  have hkl := stk_le es k
  have hcf : colE e = false := by unfold colE; simp; omega
  have hol : (opensTo es k).length ≤ k := by unfold opensTo; rw [List.length_map]; exact hkl
  have := nend_any b (spansTo es k ++ [⟨k, -1, headI (stk es k)⟩]) (spansTo es k).length (opensTo es k) ⟨k, -1, headI (stk es k)⟩ k w hG (by simp; omega) (by omega) (by simp)
  rw [spans_leaf he hc, opens_else he hcf (by omega)]
  have hset : (spansTo es k ++ [(⟨k, -1, headI (stk es k)⟩ : Sp)]).set (spansTo es k).length (⟨k, (k : Int), headI (stk es k)⟩ : Sp) = spansTo es k ++ [⟨k, (k : Int), headI (stk es k)⟩] := by
    rw [List.set_append_right _ _ (Nat.le_refl _)]
    simp
  simp only [] at this
  rw [hset] at this
  exact this
theorem end_step (b : Nat) (es : List Ev) (hN : nested es = true) (k : Nat) (e : Ev) (he : es[k]? = some e) (h7 : e.kind = 7) (hl : es.length ≤ 1048576) (w : World) (hG : Ng b (spansTo es k) (opensTo es k) w) :
    Calls Try.prog 54 #[.pointer (some ⟨b, 0, none⟩), .int .i64 (k : Int)] w fun r w' => r = .returned (.tuple #[]) ∧ Ng b (spansTo es (k + 1)) (opensTo es (k + 1)) w' ∧ Below b w w' := by
  have hk := (List.getElem?_eq_some_iff.1 he).1
  have hsl := spans_le es k
  have hkl := stk_le es k
  have hne := (ns_at hN he).end_ h7
  cases hs : stk es k with
  | nil => exact absurd hs hne
  | cons j q =>
    obtain ⟨h1, h2⟩ := spans_end he h7 hs
    have h3 := opens_end he h7 hs
    rw [h3] at hG
    have hol : (opensTo es k).length ≤ k := by unfold opensTo; rw [List.length_map]; exact hkl
    rw [h3, List.length_cons] at hol
    have := nend_any b _ _ _ _ k w hG (by omega) (by omega) h1
    rw [h2]
    exact this
def OwnS (w : World) (l : List Sp) (e : Ending) (w' : World) : Prop := ∃ a n c, e = .returned (.slice a n c) ∧ w'.ownsRow w.heap.size 64 3 (.slice a n c) l.length (rowsS l) ∧ Below w.heap.size w w'
theorem row_lowS {w : World} {lo lo' e sz : Nat} {v : Value} {n : Nat} {xs : List Value} (h : w.ownsRow lo e sz v n xs) (hl : lo' ≤ lo) : w.ownsRow lo' e sz v n xs := by
  refine ⟨h.1, ?_⟩
  rcases h.2 with hn | ⟨g, cap, cur, e1, e2, rest⟩
  · exact .inl hn
  · exact .inr ⟨g, cap, cur, e1, by omega, rest⟩
set_option maxHeartbeats 8000000 in
theorem spansOf_any (w : World) (v : Value) (es : List Ev) (hV : SlE w v es) (hl : es.length ≤ 1048576) (hN : nested es = true) : Calls Try.prog 45 #[v] w (OwnS w (spansF es)) := by
  obtain ⟨a, c, rfl⟩ := hV.sl
  have HV : Hid (SlE w (.slice a es.length c) es) := hV
  have HL : Hid (es.length ≤ 1048576) := hl
  have HN : Hid (nested es = true) := hN
  have hlen : (es.length : Int) ≤ 1048576 := by omega
  have HI0 : Hid (Ng w.heap.size (spansTo es 0) (opensTo es 0) (w.alloc (.cells #[.slice none 0 0, .slice none 0 0] 97)) ∧ Below w.heap.size w (w.alloc (.cells #[.slice none 0 0, .slice none 0 0] 97))) :=
    ⟨⟨none, 0, 0, none, 0, 0, heap_alloc_new w _, ⟨rfl, .inl ⟨rfl, rfl⟩⟩, ⟨rfl, .inl ⟨rfl, rfl⟩⟩⟩, (Below.refl _ w).alloc (Nat.le_refl _) _⟩
  clear hV hl hN
  go_enter Try.func45, Try.ntmps45
  go_wp2_with fail
  go_loopw [8] (fun kv wr => ∃ k : Nat, kv = .int .i64 (k : Int) ∧ k ≤ es.length ∧ Hid (Ng w.heap.size (spansTo es k) (opensTo es k) wr ∧ Below w.heap.size w wr)) (fun kv _ => es.length - (intOf kv).toNat)
  case atStart => exact ⟨0, rfl, Nat.zero_le _, HI0⟩
  case round =>
    clear HI0
    obtain ⟨k, rfl, hk, HIN⟩ := hrel
    by_cases hlt : k < es.length
    · obtain ⟨e, hx⟩ : ∃ e, es[k]? = some e := ⟨_, List.getElem?_eq_getElem hlt⟩
      have HX : Hid (es[k]? = some e) := hx
      obtain ⟨bb, off, rfl, _, ⟨c0, c1, c2, c3, c4, c5, c6, c7⟩⟩ := HV.out.at HIN.out.2 hx
      have hlt' : (k : Int) < (es.length : Int) := by omega
      have HLT : Hid (k < es.length) := hlt
      clear hx hlt hk
      obtain ⟨kind, style, flag, text, anchor, tag, at_, code⟩ := e
      simp only at c0 c1 c2 c3 c4 c5 c6 c7
      obtain ⟨W, hW⟩ : ∃ W, wr.alloc (.cells #[.int .i64 kind, .int .i64 style, .bool flag, .string text, .string anchor, .string tag, .int .i64 at_, .int .i64 code] 38) = W := ⟨_, rfl⟩
      have HBW : Hid (Below wr.heap.size wr W) := by show Below _ _ _; rw [← hW]; exact (Below.refl _ wr).alloc (Nat.le_refl _) _
      have HG : Hid (Ng w.heap.size (spansTo es k) (opensTo es k) W) := HIN.out.1.stays HBW.out
      have HB : Hid (Below w.heap.size w W) := HIN.out.2.trans (HBW.out.mono HIN.out.2.size)
      have q0 : W.cell? ⟨wr.heap.size, 0, none⟩ = some (.int .i64 kind) := by rw [← hW]; exact (ev_at (heap_alloc_new wr _)).1
      have HW : Hid (wr.alloc (.cells #[.int .i64 kind, .int .i64 style, .bool flag, .string text, .string anchor, .string tag, .int .i64 at_, .int .i64 code] 38) = W) := hW
      clear hW HBW HIN
      by_cases h3 : kind = 3
      · subst h3
        have hC := col_step w.heap.size es k _ HX.out (.inl rfl) HL.out W HG.out
        go_wp2_with fail
        rw [HW.out]
        clear c0 c1 c2 c3 c4 c5 c6 c7 HW
        go_wp2_with fail
        refine hC.mono ?_
        rintro r w1 ⟨rfl, hg1, hb1⟩
        have HO : Hid (Ng w.heap.size (spansTo es (k + 1)) (opensTo es (k + 1)) w1 ∧ Below w.heap.size w w1) := ⟨hg1, HB.out.trans hb1⟩
        clear hC hg1 hb1 q0
        go_wp2_with fail
        go_roundw
        case rel => exact ⟨k + 1, by go_num, HLT.out, HO⟩
        case measure => have := HLT.out; simp [intOf]; omega
      have t3 : (kind == 3) = false := by rw [beq_eq_false_iff_ne]; exact h3
      by_cases h4 : kind = 4
      · subst h4
        have hC := col_step w.heap.size es k _ HX.out (.inr rfl) HL.out W HG.out
        go_wp2_with fail
        rw [HW.out]
        clear c0 c1 c2 c3 c4 c5 c6 c7 HW
        go_wp2_with fail
        refine hC.mono ?_
        rintro r w1 ⟨rfl, hg1, hb1⟩
        have HO : Hid (Ng w.heap.size (spansTo es (k + 1)) (opensTo es (k + 1)) w1 ∧ Below w.heap.size w w1) := ⟨hg1, HB.out.trans hb1⟩
        clear hC hg1 hb1 q0
        go_wp2_with fail
        go_roundw
        case rel => exact ⟨k + 1, by go_num, HLT.out, HO⟩
        case measure => have := HLT.out; simp [intOf]; omega
      have t4 : (kind == 4) = false := by rw [beq_eq_false_iff_ne]; exact h4
      by_cases h5 : kind = 5
      · subst h5
        have hC := begin_at w.heap.size es k HLT.out W HG.out HL.out
        go_wp2_with fail
        rw [HW.out]
        clear c0 c1 c2 c3 c4 c5 c6 c7 HW
        go_wp2_with fail
        refine hC.mono ?_
        rintro r w1 ⟨rfl, hg1, hb1⟩
        have hD := leaf_step w.heap.size es k _ HX.out (.inl rfl) HL.out w1 hg1
        have HB1 : Hid (Below w.heap.size w w1) := HB.out.trans hb1
        clear hC hg1 hb1 q0
        go_wp2_with fail
        refine hD.mono ?_
        rintro r w2 ⟨rfl, hg2, hb2⟩
        have HO : Hid (Ng w.heap.size (spansTo es (k + 1)) (opensTo es (k + 1)) w2 ∧ Below w.heap.size w w2) := ⟨hg2, HB1.out.trans hb2⟩
        clear hD hg2 hb2
        go_wp2_with fail
        go_roundw
        case rel => exact ⟨k + 1, by go_num, HLT.out, HO⟩
        case measure => have := HLT.out; simp [intOf]; omega
      have t5 : (kind == 5) = false := by rw [beq_eq_false_iff_ne]; exact h5
      by_cases h6 : kind = 6
      · subst h6
        have hC := begin_at w.heap.size es k HLT.out W HG.out HL.out
        go_wp2_with fail
        rw [HW.out]
        clear c0 c1 c2 c3 c4 c5 c6 c7 HW
        go_wp2_with fail
        refine hC.mono ?_
        rintro r w1 ⟨rfl, hg1, hb1⟩
        have hD := leaf_step w.heap.size es k _ HX.out (.inr rfl) HL.out w1 hg1
        have HB1 : Hid (Below w.heap.size w w1) := HB.out.trans hb1
        clear hC hg1 hb1 q0
        go_wp2_with fail
        refine hD.mono ?_
        rintro r w2 ⟨rfl, hg2, hb2⟩
        have HO : Hid (Ng w.heap.size (spansTo es (k + 1)) (opensTo es (k + 1)) w2 ∧ Below w.heap.size w w2) := ⟨hg2, HB1.out.trans hb2⟩
        clear hD hg2 hb2
        go_wp2_with fail
        go_roundw
        case rel => exact ⟨k + 1, by go_num, HLT.out, HO⟩
        case measure => have := HLT.out; simp [intOf]; omega
      have t6 : (kind == 6) = false := by rw [beq_eq_false_iff_ne]; exact h6
      by_cases h7 : kind = 7
      · subst h7
        have hC := end_step w.heap.size es HN.out k _ HX.out rfl HL.out W HG.out
        go_wp2_with fail
        rw [HW.out]
        clear c0 c1 c2 c3 c4 c5 c6 c7 HW
        go_wp2_with fail
        refine hC.mono ?_
        rintro r w1 ⟨rfl, hg1, hb1⟩
        have HO : Hid (Ng w.heap.size (spansTo es (k + 1)) (opensTo es (k + 1)) w1 ∧ Below w.heap.size w w1) := ⟨hg1, HB.out.trans hb1⟩
        clear hC hg1 hb1 q0
        go_wp2_with fail
        go_roundw
        case rel => exact ⟨k + 1, by go_num, HLT.out, HO⟩
        case measure => have := HLT.out; simp [intOf]; omega
      have t7 : (kind == 7) = false := by rw [beq_eq_false_iff_ne]; exact h7
      have HO : Hid (Ng w.heap.size (spansTo es (k + 1)) (opensTo es (k + 1)) W ∧ Below w.heap.size w W) := by
        refine ⟨?_, HB.out⟩
        have hnn : nodE ⟨kind, style, flag, text, anchor, tag, at_, code⟩ = false := by
          unfold nodE
          simp
          omega
        rw [spans_else HX.out hnn h7, opens_else HX.out (by unfold colE; simp; omega) h7]
        exact HG.out
      clear h3 h4 h5 h6 h7
      go_wp2_with fail
      rw [HW.out]
      clear c0 c1 c2 c3 c4 c5 c6 c7 HW
      go_wp2_with fail
      go_roundw
      case rel => exact ⟨k + 1, by go_num, HLT.out, HO⟩
      case measure => have := HLT.out; simp [intOf]; omega
    · have hlt' : ¬ (k : Int) < (es.length : Int) := by omega
      have hke : k = es.length := by omega
      subst hke
      obtain ⟨hG, hB⟩ := HIN.out
      rw [spans_all] at hG
      obtain ⟨sa, sn, sc, oa, on, oc, h1, h2, h3⟩ := hG
      have c0 := h1.c0
      have HO : Hid (OwnS w (spansF es) (.returned (.slice sa sn sc)) wr) := ⟨sa, sn, sc, rfl, row_lowS h2 (Nat.le_succ _), hB⟩
      clear h1 h2 h3 hB HIN hk hlt
      go_wp2_with fail
      go_ret
      exact HO.out
end Go.Proofs.Ytmbbmibkjnlkkaa
/- The specification's nodes within events: the collection around. -/
namespace Go.Proofs.Ytmbbmibkjnlkkaa
open Go.ChangeShapes Go.WideShapes Go.ChangeAt Go.RowKit
set_option maxRecDepth 100000 in
set_option maxHeartbeats 8000000 in
theorem up_any (w : World) (v : Value) (es : List Ev) (hV : SlE w v es) (hl : es.length ≤ 1048576) (i : Nat) (hi : i < es.length) (r : Int) (hr : upG es i 0 = r) :
    Calls Try.prog 35 #[v, .int .i64 (i : Int)] w fun e w' => e = .returned (.int .i64 r) ∧ Below w.heap.size w w' := by
  obtain ⟨a, c, rfl⟩ := hV.sl
  have HV : Hid (SlE w (.slice a es.length c) es) := hV
  obtain ⟨e0, he0⟩ : ∃ e0, es[i]? = some e0 := ⟨_, List.getElem?_eq_getElem hi⟩
  obtain ⟨b, off, rfl, hbl, _⟩ := hV.at (Below.refl _ w) he0
  have HO : Hid (upG es i 0 = r) := hr
  have hi' : (i : Int) < (es.length : Int) := by omega
  have hl' : (es.length : Int) ≤ 1048576 := by omega
  have HI : Hid (i < es.length) := hi
  clear hV hbl he0 hr hi
  go_enter Try.func35, Try.ntmps35
  go_wp2_with fail
  go_loopw [5, 6] (fun ov kv wr => ∃ (k : Nat) (o : Int), ov = .int .i64 o ∧ kv = .int .i64 ((k : Int) - 1) ∧ k ≤ i ∧ -((i - k : Nat) : Int) ≤ o ∧ o ≤ ((i - k : Nat) : Int) ∧ Hid (upG es k o = r) ∧ Hid (Below w.heap.size w wr)) (fun _ kv _ => (intOf kv + 1).toNat)
  case atStart => exact ⟨i, 0, rfl, rfl, Nat.le_refl _, by omega, by omega, HO, Below.refl _ _⟩
  case round =>
    obtain ⟨k1, o, rfl, rfl, hk, ho1, ho2, HG, HB⟩ := hrel
    clear HO
    cases k1 with
    | zero =>
      have HE : Hid ((-1 : Int) = r) := HG.out
      have hlt' : ¬ ((0 : Nat) : Int) - 1 ≥ 0 := by omega
      go_wp2_with fail
      go_ret
      exact ⟨ret_i HE.out, HB.out⟩
    | succ k =>
      have hkk : ((k + 1 : Nat) : Int) - 1 = (k : Int) := by omega
      rw [hkk]
      have hk0 : (k : Int) ≥ 0 := by omega
      have hlt : k < es.length := by have := HI.out; omega
      have hlt' : (k : Int) < (es.length : Int) := by omega
      have ho3 : -(1048576 : Int) ≤ o := by have := HI.out; omega
      have ho4 : o ≤ (1048576 : Int) := by have := HI.out; omega
      obtain ⟨e, he⟩ : ∃ e, es[k]? = some e := ⟨_, List.getElem?_eq_getElem hlt⟩
      obtain ⟨b2, off2, e2, _, hE⟩ := HV.out.at HB.out he
      injection e2 with e2
      injection e2 with e2 e3 _
      subst e2
      subst e3
      have hg := HG.out
      rw [upG, he] at hg
      have HG2 : Hid ((if e.kind = 7 then upG es k (o + 1) else if colE e = true then (if o = 0 then (k : Int) else upG es k (o - 1)) else upG es k o) = r) := hg
      have HK : Hid (k + 1 ≤ i ∧ -((i - (k + 1) : Nat) : Int) ≤ o ∧ o ≤ ((i - (k + 1) : Nat) : Int)) := ⟨hk, ho1, ho2⟩
      obtain ⟨cb, hcb⟩ : ∃ cb, colE e = cb := ⟨_, rfl⟩
      have cC := fun w' => coll_any e w' cb hcb
      have HCB : Hid (colE e = cb) := hcb
      obtain ⟨d0, d1, d2, d3, d4, d5, d6, d7⟩ := hE
      clear hg he hcb hkk hk ho1 ho2
      by_cases h7 : e.kind = 7
      · have hk7 : (e.kind == 7) = true := by rw [h7]; rfl
        have hcf : cb = false := by
          rw [← HCB.out]
          unfold colE
          rw [decide_eq_false (by omega), decide_eq_false (by omega)]
          rfl
        subst hcf
        have HE : Hid (upG es k (o + 1) = r) := by show _ = _; rw [← HG2.out, if_pos h7]
        clear h7
        go_wp2_with fail
        refine (cC _).mono ?_
        rintro e9 w2 ⟨rfl, hb2⟩
        have HB2 : Hid (Below w.heap.size w w2) := HB.out.trans (hb2.mono HB.out.size)
        clear hb2 cC d0 d1 d2 d3 d4 d5 d6 d7
        go_wp2_with fail
        go_roundw
        case rel => exact ⟨k, o + 1, rfl, rfl, by have := HK.out.1; omega, by have := HK.out; omega, by have := HK.out; omega, HE, HB2⟩
        case measure => simp [intOf]
      · have hk7 : (e.kind == 7) = false := by rw [beq_eq_false_iff_ne]; exact h7
        have HG3 : Hid ((if colE e = true then (if o = 0 then (k : Int) else upG es k (o - 1)) else upG es k o) = r) := by show _ = _; rw [← HG2.out, if_neg h7]
        clear h7
        go_wp2_with fail
        refine (cC _).mono ?_
        rintro e9 w2 ⟨rfl, hb2⟩
        have HB2 : Hid (Below w.heap.size w w2) := HB.out.trans (hb2.mono HB.out.size)
        clear hb2 cC d0 d1 d2 d3 d4 d5 d6 d7
        cases cb with
        | true =>
          by_cases hz : o = 0
          · have tz : (o == 0) = true := by rw [hz]; rfl
            have HE : Hid ((k : Int) = r) := by show _ = _; rw [← HG3.out, if_pos HCB.out, if_pos hz]
            clear hz
            go_wp2_with fail
            go_ret
            exact ⟨ret_i HE.out, HB2.out⟩
          · have tz : (o == 0) = false := by rw [beq_eq_false_iff_ne]; exact hz
            have HE : Hid (upG es k (o - 1) = r) := by show _ = _; rw [← HG3.out, if_pos HCB.out, if_neg hz]
            clear hz
            go_wp2_with fail
            go_roundw
            case rel => exact ⟨k, o - 1, rfl, rfl, by have := HK.out.1; omega, by have := HK.out; omega, by have := HK.out; omega, HE, HB2⟩
            case measure => simp [intOf]
        | false =>
          have HE : Hid (upG es k o = r) := by show _ = _; rw [← HG3.out, if_neg (by rw [HCB.out]; simp)]
          go_wp2_with fail
          go_roundw
          case rel => exact ⟨k, o, rfl, rfl, by have := HK.out.1; omega, by have := HK.out; omega, by have := HK.out; omega, HE, HB2⟩
          case measure => simp [intOf]
end Go.Proofs.Ytmbbmibkjnlkkaa
/- The specification's nodes within events: the functions that ask whether the events are nested. -/
namespace Go.Proofs.Ytmbbmibkjnlkkaa
open Go.ChangeShapes Go.WideShapes Go.ChangeAt Go.RowKit
end Go.Proofs.Ytmbbmibkjnlkkaa
/- The specification's nodes within events: roots, ties, whole streams. -/
namespace Go.Proofs.Ytmbbmibkjnlkkaa
open Go.ChangeShapes Go.WideShapes Go.ChangeAt Go.RowKit
theorem rootsTo_succ (es : List Ev) (k : Nat) : rootsTo es (k + 1) = if rootAt es (nested es) k = true then rootsTo es k ++ [k] else rootsTo es k := by
  unfold rootsTo
  rw [List.range_succ, List.filter_append]
  split
  · rename_i h
    simp [h]
  · rename_i h
    simp [h]
theorem rootsTo_len (es : List Ev) (k : Nat) : (rootsTo es k).length ≤ k := by
  unfold rootsTo
  exact Nat.le_trans (List.length_filter_le _ _) (by simp)
theorem tiedTo_succ (es : List Ev) (k : Nat) : tiedTo es (k + 1) = (tiedTo es k && tiedAt es k) := by
  unfold tiedTo
  rw [List.range_succ, List.all_append]
  simp
theorem nested_ne {es : List Ev} (h : nested es = true) : es ≠ [] := by
  intro e
  subst e
  cases h
end Go.Proofs.Ytmbbmibkjnlkkaa
/- The laws on nodes within events, walked, over impl's contracts: numbers and truths. -/
namespace Go.Proofs.Ytmbbmibkjnlkkaa
open Go.ChangeShapes Go.WideShapes Go.ChangeAt Go.RowKit
/-- What is asked of impl.UpOf. -/
def ImplUpOf : Prop := ∀ (w : World) (v : Value) (es : List Ev) (i : Int), SlE w v es → totE es + es.length ≤ 1048576 → (∀ e ∈ es, wfE e) → (Lit.int .i64 i).wf = true →
    Calls Try.prog 48 #[v, .int .i64 i] w fun r w' => r = .returned (.int .i64 (upOf es i)) ∧ Below w.heap.size w w'
end Go.Proofs.Ytmbbmibkjnlkkaa
/- The contract of impl.eachNode, over what is asked of the function that is told each node; EndOf and UpOf. -/
namespace Go.Proofs.Ytmbbmibkjnlkkaa
open Go.ChangeShapes Go.WideShapes Go.ChangeAt Go.RowKit
def Sp.val (n : Sp) : Value := .agg #[.int .i64 (n.at_ : Int), .int .i64 n.end_, .int .i64 n.up]
/-- No block of nodes is changed. -/
def KeepS (w w' : World) : Prop := ∀ (k : Nat) (cs : Array Value) (fr : Nat × Nat), w.heap[k]? = some (.cells cs 64 fr) → w'.heap[k]? = some (.cells cs 64 fr)
theorem KeepS.of {w w' : World} (h : Below w.heap.size w w') : KeepS w w' := fun k _ _ hk => (h.block k (Array.getElem?_eq_some_iff.1 hk).1).trans hk
theorem KeepS.trans {a b c : World} (h : KeepS a b) (k : KeepS b c) : KeepS a c := fun j cs fr hj => k j cs fr (h j cs fr hj)
theorem KeepS.set {w0 w : World} (h : KeepS w0 w) {b j : Nat} {cs : Array Value} {t : TypeId} {fr : Nat × Nat} (hb : w.heap[b]? = some (.cells cs t fr)) (ht : t ≠ 64) (v : Value) : KeepS w0 (w.setCell ⟨b, j, none⟩ v) := by
  intro k cs' fr' hk
  have hk2 := h k cs' fr' hk
  by_cases e : k = b
  · subst e
    rw [hb] at hk2
    injection hk2 with hk2
    injection hk2 with _ h2
    exact absurd h2 ht
  · rw [Below.heap_setCell _ _ _ _ e]
    exact hk2
theorem rowS_keep {w w' : World} {lo : Nat} {v : Value} {n : Nat} {xs : List Value} (h : w.ownsRow lo 64 3 v n xs) (hk : KeepS w w') : w'.ownsRow lo 64 3 v n xs := by
  refine ⟨h.1, ?_⟩
  rcases h.2 with hn | ⟨g, cap, cur, e1, e2, hg, rest⟩
  · exact .inl hn
  · exact .inr ⟨g, cap, cur, e1, e2, hk g cur (0, 0) hg, rest⟩
/-- What is asked of the function that is told each node. -/
structure TellC {α : Type} (g : Nat) (rv : Value) (L : List Sp) (F : α → Sp → α) (I : α → World → Prop) (a0 : α) : Prop where
  enters : ∀ args w, (callFunc g args).run Try.prog w = .ok (.enter g args) w
  stays : ∀ a w w', I a w → Below w.heap.size w w' → I a w'
  call : ∀ k n w, L[k]? = some n → I ((L.take k).foldl F a0) w → Calls Try.prog g #[rv, n.val] w fun e w' => e = .returned (.tuple #[]) ∧ I (F ((L.take k).foldl F a0) n) w' ∧ KeepS w w'
set_option maxHeartbeats 8000000 in
theorem eachNode_any {α : Type} (g : Nat) (rv : Value) (F : α → Sp → α) (I : α → World → Prop) (a : α) (w : World) (v : Value) (es : List Ev) (hV : SlE w v es) (hl : totE es + es.length ≤ 1048576) (hf : ∀ e ∈ es, wfE e) (hT : TellC g rv (spansF es) F I a) (hI : I a w) :
    Calls Try.prog 32 #[v, .func (.func g) #[rv] #[]] w fun e w' => e = .returned (.bool (nested es)) ∧ I (if nested es = true then gat es F a es.length else a) w' := by
  have eg := hT.enters
  have HV : Hid (SlE w v es) := hV
  have HL : Hid (es.length ≤ 1048576) := by show es.length ≤ 1048576; omega
  have HI : Hid (I a w) := hI
  have cN := implNe w v es hV hl hf
  obtain ⟨L, hL⟩ : ∃ L, spansF es = L := ⟨_, rfl⟩
  rw [hL] at hT
  have HT : Hid (TellC g rv L F I a) := hT
  have hLl : L.length ≤ 1048576 := by
    rw [← hL]
    unfold spansF
    rw [List.length_map]
    have := nodesTo_le es es.length
    omega
  have HLL : Hid (spansF es = L) := hL
  have HLN : Hid (L.length ≤ 1048576) := hLl
  cases hn : nested es with
  | false =>
    rw [hn] at cN
    clear hV hl hf hT hI hLl hn
    go_enter Try.func32, Try.ntmps32
    go_wp2_with fail
    refine cN.mono ?_
    rintro e w1 ⟨rfl, hb1⟩
    have HO : Hid (I a w1) := HT.out.stays _ _ _ HI.out hb1
    clear hb1 cN
    go_wp2_with fail
    go_ret
    exact ⟨rfl, HO.out⟩
  | true =>
    have HN : Hid (nested es = true) := hn
    rw [hn] at cN
    simp only [if_true]
    have HR : Hid (gat es F a es.length = L.foldl F a) := by
      show _ = _
      rw [← hL]
      rfl
    rw [HR.out]
    clear hV hl hf hT hI hLl hn hL
    go_enter Try.func32, Try.ntmps32
    go_wp2_with fail
    refine cN.mono ?_
    rintro e w1 ⟨rfl, hb1⟩
    have HI1 : Hid (I a w1) := HT.out.stays _ _ _ HI.out hb1
    have cS := spansOf_any w1 v es (HV.out.stays hb1) HL.out HN.out
    rw [HLL.out] at cS
    clear hb1 cN
    go_wp2_with fail
    refine cS.mono ?_
    rintro e w2 ⟨sa, sn, sc, rfl, hrow, hb2⟩
    obtain rfl := slen hrow
    have HRW : Hid (w2.ownsRow w1.heap.size 64 3 (.slice sa L.length sc) L.length (rowsS L)) := hrow
    have HI2 : Hid (I (([] : List Sp).foldl F a) w2) := HT.out.stays _ _ _ HI1.out hb2
    clear hrow hb2 cS
    have hlen : (L.length : Int) ≤ 1048576 := by have := HLN.out; omega
    go_wp2_with fail
    go_loopw [13] (fun kv wr => ∃ k : Nat, kv = .int .i64 (k : Int) ∧ k ≤ L.length ∧ Hid (I ((L.take k).foldl F a) wr ∧ wr.ownsRow w1.heap.size 64 3 (.slice sa L.length sc) L.length (rowsS L))) (fun kv _ => L.length - (intOf kv).toNat)
    case atStart => exact ⟨0, rfl, Nat.zero_le _, HI2.out, HRW.out⟩
    case round =>
      clear HI2 HRW HI HI1
      obtain ⟨k, rfl, hk, HIN⟩ := hrel
      by_cases hlt : k < L.length
      · obtain ⟨n, hx⟩ : ∃ n, L[k]? = some n := ⟨_, List.getElem?_eq_getElem hlt⟩
        obtain ⟨gs, gc, cur, hsv, hs1, hs2, hs3, hs4, t0, t1, t2, _⟩ := rowS_at HIN.out.2 hx
        injection hsv with hsa _ hsc
        subst hsa
        subst hsc
        have hlt' : (k : Int) < (L.length : Int) := by omega
        have HLT : Hid (k < L.length) := hlt
        have htk : (L.take (k + 1)).foldl F a = F ((L.take k).foldl F a) n := by
          rw [List.take_add_one, hx, List.foldl_append]
          rfl
        obtain ⟨W, hW⟩ : ∃ W, wr.alloc (.cells #[.int .i64 (n.at_ : Int), .int .i64 n.end_, .int .i64 n.up] 64) = W := ⟨_, rfl⟩
        have hBW : Below wr.heap.size wr W := by rw [← hW]; exact (Below.refl _ wr).alloc (Nat.le_refl _) _
        have HIW : Hid (I ((L.take k).foldl F a) W) := HT.out.stays _ _ _ HIN.out.1 hBW
        have HRW : Hid (W.ownsRow w1.heap.size 64 3 (.slice (some ⟨gs, 0, none⟩) L.length sc) L.length (rowsS L)) := row_stays HIN.out.2 hBW
        have hnew : W.heap[wr.heap.size]? = some (.cells #[.int .i64 (n.at_ : Int), .int .i64 n.end_, .int .i64 n.up] 64 (0, 0)) := by rw [← hW]; exact heap_alloc_new wr _
        have u0 : W.cell? ⟨wr.heap.size, 0, none⟩ = some (.int .i64 (n.at_ : Int)) := Lib.cell_of_heap hnew 0
        have u1 : W.cell? ⟨wr.heap.size, 1, none⟩ = some (.int .i64 n.end_) := Lib.cell_of_heap hnew 1
        have u2 : W.cell? ⟨wr.heap.size, 2, none⟩ = some (.int .i64 n.up) := Lib.cell_of_heap hnew 2
        have cG := HT.out.call k n W hx HIW.out
        rw [← htk] at cG
        unfold Sp.val at cG
        have HW : Hid (wr.alloc (.cells #[.int .i64 (n.at_ : Int), .int .i64 n.end_, .int .i64 n.up] 64) = W) := hW
        clear hx hlt hk hs1 hs2 hs3 hs4 hW hBW hnew HIN HIW htk
        go_wp2_with fail
        rw [HW.out]
        clear HW t0 t1 t2
        go_wp2_with (go_at_fn g; refine cG.mono ?_; rintro e w3 ⟨rfl, hi3, hk3⟩)
        have HO : Hid (I ((L.take (k + 1)).foldl F a) w3 ∧ w3.ownsRow w1.heap.size 64 3 (.slice (some ⟨gs, 0, none⟩) L.length sc) L.length (rowsS L)) := ⟨hi3, rowS_keep HRW.out hk3⟩
        clear hi3 hk3 cG u0 u1 u2 HRW
        go_wp2_with fail
        go_roundw
        case rel => exact ⟨k + 1, by go_num, HLT.out, HO⟩
        case measure => have := HLT.out; simp [intOf]; omega
      · have hlt' : ¬ (k : Int) < (L.length : Int) := by omega
        have HO : Hid (I (L.foldl F a) wr) := by
          have := HIN.out.1
          rw [List.take_of_length_le (by omega)] at this
          exact this
        clear HIN hk hlt
        go_wp2_with fail
        go_ret
        exact ⟨rfl, HO.out⟩
end Go.Proofs.Ytmbbmibkjnlkkaa
/- The contract of impl.eachNode over a closure of two variables. -/
namespace Go.Proofs.Ytmbbmibkjnlkkaa
open Go.ChangeShapes Go.WideShapes Go.ChangeAt Go.RowKit
/-- What is asked of the function that is told each node. -/
structure TellD {α : Type} (g : Nat) (x1 x2 : Value) (L : List Sp) (F : α → Sp → α) (I : α → World → Prop) (a0 : α) : Prop where
  enters : ∀ args w, (callFunc g args).run Try.prog w = .ok (.enter g args) w
  stays : ∀ a w w', I a w → Below w.heap.size w w' → I a w'
  call : ∀ k n w, L[k]? = some n → I ((L.take k).foldl F a0) w → Calls Try.prog g #[n.val, x1, x2] w fun e w' => e = .returned (.tuple #[]) ∧ I (F ((L.take k).foldl F a0) n) w' ∧ KeepS w w'
set_option maxHeartbeats 8000000 in
theorem eachNode_cl {α : Type} (g : Nat) (x1 x2 : Value) (F : α → Sp → α) (I : α → World → Prop) (a : α) (w : World) (v : Value) (es : List Ev) (hV : SlE w v es) (hl : totE es + es.length ≤ 1048576) (hf : ∀ e ∈ es, wfE e) (hT : TellD g x1 x2 (spansF es) F I a) (hI : I a w) :
    Calls Try.prog 32 #[v, .func (.func g) #[] #[x1, x2]] w fun e w' => e = .returned (.bool (nested es)) ∧ I (if nested es = true then gat es F a es.length else a) w' := by
  have eg := hT.enters
  have HV : Hid (SlE w v es) := hV
  have HL : Hid (es.length ≤ 1048576) := by show es.length ≤ 1048576; omega
  have HI : Hid (I a w) := hI
  have cN := implNe w v es hV hl hf
  obtain ⟨L, hL⟩ : ∃ L, spansF es = L := ⟨_, rfl⟩
  rw [hL] at hT
  have HT : Hid (TellD g x1 x2 L F I a) := hT
  have hLl : L.length ≤ 1048576 := by
    rw [← hL]
    unfold spansF
    rw [List.length_map]
    have := nodesTo_le es es.length
    omega
  have HLL : Hid (spansF es = L) := hL
  have HLN : Hid (L.length ≤ 1048576) := hLl
  cases hn : nested es with
  | false =>
    rw [hn] at cN
    clear hV hl hf hT hI hLl hn
    go_enter Try.func32, Try.ntmps32
    go_wp2_with fail
    refine cN.mono ?_
    rintro e w1 ⟨rfl, hb1⟩
    have HO : Hid (I a w1) := HT.out.stays _ _ _ HI.out hb1
    clear hb1 cN
    go_wp2_with fail
    go_ret
    exact ⟨rfl, HO.out⟩
  | true =>
    have HN : Hid (nested es = true) := hn
    rw [hn] at cN
    simp only [if_true]
    have HR : Hid (gat es F a es.length = L.foldl F a) := by
      show _ = _
      rw [← hL]
      rfl
    rw [HR.out]
    clear hV hl hf hT hI hLl hn hL
    go_enter Try.func32, Try.ntmps32
    go_wp2_with fail
    refine cN.mono ?_
    rintro e w1 ⟨rfl, hb1⟩
    have HI1 : Hid (I a w1) := HT.out.stays _ _ _ HI.out hb1
    have cS := spansOf_any w1 v es (HV.out.stays hb1) HL.out HN.out
    rw [HLL.out] at cS
    clear hb1 cN
    go_wp2_with fail
    refine cS.mono ?_
    rintro e w2 ⟨sa, sn, sc, rfl, hrow, hb2⟩
    obtain rfl := slen hrow
    have HRW : Hid (w2.ownsRow w1.heap.size 64 3 (.slice sa L.length sc) L.length (rowsS L)) := hrow
    have HI2 : Hid (I (([] : List Sp).foldl F a) w2) := HT.out.stays _ _ _ HI1.out hb2
    clear hrow hb2 cS
    have hlen : (L.length : Int) ≤ 1048576 := by have := HLN.out; omega
    go_wp2_with fail
    go_loopw [13] (fun kv wr => ∃ k : Nat, kv = .int .i64 (k : Int) ∧ k ≤ L.length ∧ Hid (I ((L.take k).foldl F a) wr ∧ wr.ownsRow w1.heap.size 64 3 (.slice sa L.length sc) L.length (rowsS L))) (fun kv _ => L.length - (intOf kv).toNat)
    case atStart => exact ⟨0, rfl, Nat.zero_le _, HI2.out, HRW.out⟩
    case round =>
      clear HI2 HRW HI HI1
      obtain ⟨k, rfl, hk, HIN⟩ := hrel
      by_cases hlt : k < L.length
      · obtain ⟨n, hx⟩ : ∃ n, L[k]? = some n := ⟨_, List.getElem?_eq_getElem hlt⟩
        obtain ⟨gs, gc, cur, hsv, hs1, hs2, hs3, hs4, t0, t1, t2, _⟩ := rowS_at HIN.out.2 hx
        injection hsv with hsa _ hsc
        subst hsa
        subst hsc
        have hlt' : (k : Int) < (L.length : Int) := by omega
        have HLT : Hid (k < L.length) := hlt
        have htk : (L.take (k + 1)).foldl F a = F ((L.take k).foldl F a) n := by
          rw [List.take_add_one, hx, List.foldl_append]
          rfl
        obtain ⟨W, hW⟩ : ∃ W, wr.alloc (.cells #[.int .i64 (n.at_ : Int), .int .i64 n.end_, .int .i64 n.up] 64) = W := ⟨_, rfl⟩
        have hBW : Below wr.heap.size wr W := by rw [← hW]; exact (Below.refl _ wr).alloc (Nat.le_refl _) _
        have HIW : Hid (I ((L.take k).foldl F a) W) := HT.out.stays _ _ _ HIN.out.1 hBW
        have HRW : Hid (W.ownsRow w1.heap.size 64 3 (.slice (some ⟨gs, 0, none⟩) L.length sc) L.length (rowsS L)) := row_stays HIN.out.2 hBW
        have hnew : W.heap[wr.heap.size]? = some (.cells #[.int .i64 (n.at_ : Int), .int .i64 n.end_, .int .i64 n.up] 64 (0, 0)) := by rw [← hW]; exact heap_alloc_new wr _
        have u0 : W.cell? ⟨wr.heap.size, 0, none⟩ = some (.int .i64 (n.at_ : Int)) := Lib.cell_of_heap hnew 0
        have u1 : W.cell? ⟨wr.heap.size, 1, none⟩ = some (.int .i64 n.end_) := Lib.cell_of_heap hnew 1
        have u2 : W.cell? ⟨wr.heap.size, 2, none⟩ = some (.int .i64 n.up) := Lib.cell_of_heap hnew 2
        have cG := HT.out.call k n W hx HIW.out
        rw [← htk] at cG
        unfold Sp.val at cG
        have HW : Hid (wr.alloc (.cells #[.int .i64 (n.at_ : Int), .int .i64 n.end_, .int .i64 n.up] 64) = W) := hW
        clear hx hlt hk hs1 hs2 hs3 hs4 hW hBW hnew HIN HIW htk
        go_wp2_with fail
        rw [HW.out]
        clear HW t0 t1 t2
        go_wp2_with (go_at_fn g; refine cG.mono ?_; rintro e w3 ⟨rfl, hi3, hk3⟩)
        have HO : Hid (I ((L.take (k + 1)).foldl F a) w3 ∧ w3.ownsRow w1.heap.size 64 3 (.slice (some ⟨gs, 0, none⟩) L.length sc) L.length (rowsS L)) := ⟨hi3, rowS_keep HRW.out hk3⟩
        clear hi3 hk3 cG u0 u1 u2 HRW
        go_wp2_with fail
        go_roundw
        case rel => exact ⟨k + 1, by go_num, HLT.out, HO⟩
        case measure => have := HLT.out; simp [intOf]; omega
      · have hlt' : ¬ (k : Int) < (L.length : Int) := by omega
        have HO : Hid (I (L.foldl F a) wr) := by
          have := HIN.out.1
          rw [List.take_of_length_le (by omega)] at this
          exact this
        clear HIN hk hlt
        go_wp2_with fail
        go_ret
        exact ⟨rfl, HO.out⟩
end Go.Proofs.Ytmbbmibkjnlkkaa
/- The contracts of impl.EndOf and impl.UpOf. -/
namespace Go.Proofs.Ytmbbmibkjnlkkaa
open Go.ChangeShapes Go.WideShapes Go.ChangeAt Go.RowKit
theorem al_belowN (w : World) (o : Obj) : Below w.heap.size w (w.alloc o) := (Below.refl _ w).alloc (Nat.le_refl _) _
theorem al_new3 {w : World} {x y z : Value} : (w.alloc (.cells #[x, y, z] 64)).cell? ⟨w.heap.size, 0, none⟩ = some x ∧ (w.alloc (.cells #[x, y, z] 64)).cell? ⟨w.heap.size, 1, none⟩ = some y ∧ (w.alloc (.cells #[x, y, z] 64)).cell? ⟨w.heap.size, 2, none⟩ = some z :=
  ⟨Lib.cell_of_heap (heap_alloc_new w _) 0, Lib.cell_of_heap (heap_alloc_new w _) 1, Lib.cell_of_heap (heap_alloc_new w _) 2⟩
def FdAt (b : Nat) (i f : Int) (w : World) : Prop := w.heap[b]? = some (.cells #[.int .i64 i, .int .i64 f] 101 (0, 0))
section
variable {b : Nat} {i f : Int} {w w' : World}
theorem FdAt.lt (h : FdAt b i f w) : b < w.heap.size := (Array.getElem?_eq_some_iff.1 h).1
theorem FdAt.c0 (h : FdAt b i f w) : w.cell? ⟨b, 0, none⟩ = some (.int .i64 i) := by rw [Lib.cell_of_heap h]; rfl
theorem FdAt.c1 (h : FdAt b i f w) : w.cell? ⟨b, 1, none⟩ = some (.int .i64 f) := by rw [Lib.cell_of_heap h]; rfl
theorem FdAt.fz (h : FdAt b i f w) (j : Nat) : w.frozen? ⟨b, j, none⟩ = false := Lib.frozen_of_heap h j
theorem FdAt.same (h : FdAt b i f w) (hb : w'.heap[b]? = w.heap[b]?) : FdAt b i f w' := hb.trans h
theorem FdAt.set1 (h : FdAt b i f w) (x : Int) : FdAt b i x (w.setCell ⟨b, 1, none⟩ (.int .i64 x)) := by
  unfold FdAt at *
  simp [World.setCell, Array.getElem?_modify, h]
end
/-- The finder, and that all below it is as it was. -/
def FdI (b : Nat) (i : Int) (w0 : World) (f : Int) (w : World) : Prop := FdAt b i f w ∧ Below b w0 w
theorem FdI.stays {b : Nat} {i f : Int} {w0 w w' : World} (h : FdI b i w0 f w) (hb : Below w.heap.size w w') : FdI b i w0 f w' := ⟨h.1.same (hb.block b h.1.lt), h.2.trans (hb.mono (Nat.le_of_lt h.1.lt))⟩
set_option maxHeartbeats 4000000 in
theorem ahead_any (n : Sp) (i : Int) (w : World) :
    Calls Try.prog 55 #[n.val, .int .i64 i] w fun e w' => e = .returned (.bool (ahead n i)) ∧ Below w.heap.size w w' := by
  obtain ⟨W, hW⟩ : ∃ W, w.alloc (.cells #[.int .i64 (n.at_ : Int), .int .i64 n.end_, .int .i64 n.up] 64) = W := ⟨_, rfl⟩
  have hBW : Below w.heap.size w W := by rw [← hW]; exact al_belowN w _
  obtain ⟨u0, u1, u2⟩ : W.cell? ⟨w.heap.size, 0, none⟩ = some (.int .i64 (n.at_ : Int)) ∧ W.cell? ⟨w.heap.size, 1, none⟩ = some (.int .i64 n.end_) ∧ W.cell? ⟨w.heap.size, 2, none⟩ = some (.int .i64 n.up) := by rw [← hW]; exact al_new3
  have HB : Hid (Below w.heap.size w W) := hBW
  have HW : Hid (w.alloc (.cells #[.int .i64 (n.at_ : Int), .int .i64 n.end_, .int .i64 n.up] 64) = W) := hW
  obtain ⟨r, hr⟩ : ∃ r, ahead n i = r := ⟨_, rfl⟩
  have HR : Hid (ahead n i = r) := hr
  rw [hr]
  clear hW hBW hr
  unfold Sp.val
  by_cases h : n.end_ = -1
  · have tt : (n.end_ != -1) = false := by simp [h]
    have HE : Hid (false = r) := by
      show _ = _
      rw [← HR.out]
      unfold ahead
      simp [h]
    clear h
    go_enter Try.func55, Try.ntmps55
    go_wp2_with fail
    rw [HW.out]
    go_wp2_with fail
    go_ret
    exact ⟨ret_bool HE.out, HB.out⟩
  · have tt : (n.end_ != -1) = true := by simp [h]
    have HE : Hid (decide (n.end_ < i) = r) := by
      show _ = _
      rw [← HR.out]
      unfold ahead
      simp [h]
    clear h
    go_enter Try.func55, Try.ntmps55
    go_wp2_with fail
    rw [HW.out]
    go_wp2_with fail
    go_ret
    exact ⟨ret_bool HE.out, HB.out⟩
set_option maxHeartbeats 4000000 in
theorem takeAround_any (b : Nat) (i f : Int) (n : Sp) (w0 w : World) (hI : FdI b i w0 f w) :
    Calls Try.prog 56 #[.pointer (some ⟨b, 0, none⟩), n.val] w fun e w' => e = .returned (.tuple #[]) ∧ FdI b i w0 (fUp i f n) w' ∧ KeepS w w' := by
  obtain ⟨W, hW⟩ : ∃ W, w.alloc (.cells #[.int .i64 (n.at_ : Int), .int .i64 n.end_, .int .i64 n.up] 64) = W := ⟨_, rfl⟩
  have hBW : Below w.heap.size w W := by rw [← hW]; exact al_belowN w _
  obtain ⟨u0, u1, u2⟩ : W.cell? ⟨w.heap.size, 0, none⟩ = some (.int .i64 (n.at_ : Int)) ∧ W.cell? ⟨w.heap.size, 1, none⟩ = some (.int .i64 n.end_) ∧ W.cell? ⟨w.heap.size, 2, none⟩ = some (.int .i64 n.up) := by rw [← hW]; exact al_new3
  have hIW := hI.stays hBW
  have HI : Hid (FdI b i w0 f W) := hIW
  have HK : Hid (KeepS w W) := KeepS.of hBW
  have nb : w.heap.size ≠ b := by have := hI.1.lt; omega
  have hsz : w.heap.size < W.heap.size := by rw [← hW]; simp
  have hm : ∀ (m : Bw W) (k j : Nat), k < W.heap.size → m.val.cell? ⟨k, j, none⟩ = W.cell? ⟨k, j, none⟩ := fun m k j hk => m.ok.cell hk
  have m0 := fun m : Bw W => (hm m w.heap.size 0 hsz).trans u0
  have m1 := fun m : Bw W => (hm m w.heap.size 1 hsz).trans u1
  have m2 := fun m : Bw W => (hm m w.heap.size 2 hsz).trans u2
  have mc := fun m : Bw W => (hm m b 0 hIW.1.lt).trans hIW.1.c0
  have hne0 := Bw.some W
  have hA := Bw.calls (w := W) (fun w' _ => ahead_any n i w')
  unfold Sp.val at hA ⊢
  have HW : Hid (w.alloc (.cells #[.int .i64 (n.at_ : Int), .int .i64 n.end_, .int .i64 n.up] 64) = W) := hW
  have HS : Hid (w.heap.size < W.heap.size) := hsz
  have HU : Hid (W.cell? ⟨w.heap.size, 0, none⟩ = some (.int .i64 (n.at_ : Int))) := u0
  obtain ⟨r, hr⟩ : ∃ r, ahead n i = r := ⟨_, rfl⟩
  rw [hr] at hA
  have HR : Hid (ahead n i = r) := hr
  clear hI hIW hBW hW hm hsz u0 u1 u2 hr
  by_cases h : (n.at_ : Int) < i
  · cases r with
    | false =>
      have HF : Hid (fUp i f n = (n.at_ : Int)) := by
        show _ = _
        unfold fUp
        rw [if_pos ⟨h, HR.out⟩]
      go_enter Try.func56, Try.ntmps56
      go_wp2_with fail
      rw [HW.out]
      go_wp2_with fail
      refine wp_region_bw (w0 := W) (by kernel_rfl) (by kernel_rfl) (Below.refl _ _) ?_
      repeat (go_big_quiet_step ((go_at_call 55; exact hA _)))
      refine wpQuiet_nil ?_
      rintro _ ⟨mw, rfl⟩
      have hI2 := HI.out.stays mw.ok
      have d0 := m0 mw
      have dc := hI2.1.c1
      have df := hI2.1.fz 1
      have HQ : Hid (FdI b i w0 (fUp i f n) (mw.val.setCell ⟨b, 1, none⟩ (.int .i64 (n.at_ : Int))) ∧ KeepS w (mw.val.setCell ⟨b, 1, none⟩ (.int .i64 (n.at_ : Int)))) := by
        rw [HF.out]
        exact ⟨⟨hI2.1.set1 _, hI2.2.trans (below_set _)⟩, (HK.out.trans (KeepS.of mw.ok)).set hI2.1 (by decide) _⟩
      clear hI2 m0 m1 m2 mc hA hne0
      generalize mw.val = w2 at *
      go_wp2_with fail
      go_end0
      exact ⟨rfl, HQ.out⟩
    | true =>
      have HF : Hid (fUp i f n = f) := by
        show _ = _
        unfold fUp
        rw [if_neg (fun h' => by have := h'.2; rw [HR.out] at this; cases this)]
      go_enter Try.func56, Try.ntmps56
      go_wp2_with fail
      rw [HW.out]
      go_wp2_with fail
      refine wp_region_bw (w0 := W) (by kernel_rfl) (by kernel_rfl) (Below.refl _ _) ?_
      repeat (go_big_quiet_step ((go_at_call 55; exact hA _)))
      refine wpQuiet_nil ?_
      rintro _ ⟨mw, rfl⟩
      have HQ : Hid (FdI b i w0 (fUp i f n) mw.val ∧ KeepS w mw.val) := by
        rw [HF.out]
        exact ⟨HI.out.stays mw.ok, HK.out.trans (KeepS.of mw.ok)⟩
      clear m0 m1 m2 mc hA hne0
      generalize mw.val = w2 at *
      go_wp2_with fail
      go_end0
      exact ⟨rfl, HQ.out⟩
  · have HF : Hid (fUp i f n = f) := by
      show _ = _
      unfold fUp
      rw [if_neg (fun h' => h h'.1)]
    have h' : decide ((n.at_ : Int) < i) = false := decide_eq_false h
    go_enter Try.func56, Try.ntmps56
    go_wp2_with fail
    rw [HW.out]
    go_wp2_with fail
    refine wp_region_bw (w0 := W) (by kernel_rfl) (by kernel_rfl) (Below.refl _ _) ?_
    repeat (go_big_quiet_step ((go_at_call 55; exact hA _)))
    refine wpQuiet_nil ?_
    rintro _ ⟨mw, rfl⟩
    have HQ : Hid (FdI b i w0 (fUp i f n) mw.val ∧ KeepS w mw.val) := by
      rw [HF.out]
      exact ⟨HI.out.stays mw.ok, HK.out.trans (KeepS.of mw.ok)⟩
    clear m0 m1 m2 mc hA hne0
    generalize mw.val = w2 at *
    go_wp2_with fail
    go_end0
    exact ⟨rfl, HQ.out⟩
theorem tellUp (b : Nat) (i : Int) (w0 : World) (L : List Sp) : TellC 56 (.pointer (some ⟨b, 0, none⟩)) L (fUp i) (FdI b i w0) (-1) :=
  ⟨enters_of Try.func56 (by kernel_rfl) rfl, fun _ _ _ h hb => h.stays hb, fun k n w _ hI => takeAround_any b i _ n w0 w hI⟩
theorem fd_new (w : World) (i : Int) : FdI w.heap.size i w (-1) (w.alloc (.cells #[.int .i64 i, .int .i64 (-1)] 101)) := ⟨heap_alloc_new w _, al_belowN w _⟩
set_option maxHeartbeats 4000000 in
theorem implUpOf : ImplUpOf := by
  intro w v es i hV hl hf _
  obtain ⟨o, ho⟩ : ∃ o, upOf es i = o := ⟨_, rfl⟩
  rw [ho]
  obtain ⟨a, c, rfl⟩ := hV.sl
  have hlen : (es.length : Int) ≤ 1048576 := by omega
  by_cases hi : (es.length : Int) ≤ i
  · have HE : Hid ((-1 : Int) = o) := by
      show _ = _
      rw [← ho]
      unfold upOf
      rw [if_pos (by omega)]
    clear hV hl hf ho
    go_enter Try.func48, Try.ntmps48
    go_wp2_with fail
    go_ret
    exact ⟨ret_i HE.out, Below.refl _ _⟩
  · obtain ⟨W, hW⟩ : ∃ W, w.alloc (.cells #[.int .i64 i, .int .i64 (-1)] 101) = W := ⟨_, rfl⟩
    have hI : FdI w.heap.size i w (-1) W := by rw [← hW]; exact fd_new w i
    have hBW : Below w.heap.size w W := by rw [← hW]; exact al_belowN w _
    have cE := eachNode_any _ _ _ _ (-1) W _ es (hV.stays hBW) hl hf (tellUp w.heap.size i w (spansF es)) hI
    have HE : Hid ((if nested es = true then gat es (fUp i) (-1) es.length else -1) = o) := by
      show _ = _
      by_cases h : nested es = true
      · rw [if_pos h, up_gat h i (by omega), ho]
      · rw [if_neg h, ← ho]
        unfold upOf
        rw [if_pos (.inl (by simpa using h))]
    rw [HE.out] at cE
    have HW : Hid (w.alloc (.cells #[.int .i64 i, .int .i64 (-1)] 101) = W) := hW
    have hi' : ¬ (es.length : Int) ≤ i := hi
    clear hV hl hf ho hW hI hBW HE hi
    go_enter Try.func48, Try.ntmps48
    go_wp2_with fail
    rw [HW.out]
    go_wp2_with fail
    refine cE.mono ?_
    rintro e w1 ⟨rfl, hI1⟩
    have c1 := hI1.1.c1
    have HB : Hid (Below w.heap.size w w1) := hI1.2
    clear cE hI1
    go_wp2_with fail
    go_ret
    exact ⟨rfl, HB.out⟩
end Go.Proofs.Ytmbbmibkjnlkkaa
/- Nodes within events: what the program ties of aliases is what the specification finds. -/
namespace Go.Proofs.Ytmbbmibkjnlkkaa
open Go.RowKit
/-- What is gathered: the root, the last node of each name, the node of each alias, how many have none. -/
structure Ti where
  root : Nat
  named : ByteArray → Option Sp
  defs : Int → Option Nat
  loose : Nat
def Ti.start : Ti := ⟨0, fun _ => none, fun _ => none, 0⟩
def Ti.at (t : Ti) (n : Sp) : Ti := if n.up = -1 then { t with root := n.at_ } else t
def Ti.miss (t : Ti) : Ti := { t with loose := t.loose + 1 }
def Ti.tie (t : Ti) (x : ByteArray) (a : Nat) : Ti := match t.named x with
  | none => t.miss
  | some n => if n.at_ < t.root ∨ ahead n a = false then t.miss else { t with defs := fun i => if (a : Int) = i then some n.at_ else t.defs i }
def Ti.name (t : Ti) (x : ByteArray) (n : Sp) : Ti := { t with named := fun y => if x = y then some n else t.named y }
def Ti.take (t : Ti) (n : Sp) (e : Ev) : Ti := if e.kind = 6 then (t.at n).tie e.text n.at_ else if noB e.anchor = true then t.at n else (t.at n).name e.anchor n
def fTie (l : List Ev) (t : Ti) (n : Sp) : Ti := match l[n.at_]? with
  | none => t
  | some e => t.take n e
/-- The last node of a name ahead of k. -/
def lastN (l : List Ev) (x : ByteArray) : Nat → Option Nat
  | 0 => none
  | k + 1 => match l[k]? with
    | none => lastN l x k
    | some e => if namE e x = true then some k else lastN l x k
/-- Behind the last beginning of a document ahead of k. -/
def docAft (l : List Ev) : Nat → Nat
  | 0 => 0
  | k + 1 => if kindAt l k = 2 then k + 1 else docAft l k
def rootTo (l : List Ev) : Nat → Nat
  | 0 => 0
  | k + 1 => if inAt l (-1) k = true then k else rootTo l k
theorem kind_at {l : List Ev} {k : Nat} {e : Ev} (h : l[k]? = some e) : kindAt l k = e.kind := by unfold kindAt; rw [h]
theorem docAft_le (l : List Ev) : ∀ k, docAft l k ≤ k
  | 0 => Nat.le_refl _
  | k + 1 => by
    have := docAft_le l k
    rw [docAft]
    split <;> omega
theorem lastN_lt (l : List Ev) (x : ByteArray) : ∀ (k m : Nat), lastN l x k = some m → m < k ∧ ∃ e, l[m]? = some e ∧ namE e x = true
  | 0, m, h => by simp [lastN] at h
  | k + 1, m, h => by
    rw [lastN] at h
    split at h
    · have := lastN_lt l x k m h
      exact ⟨by omega, this.2⟩
    · rename_i e he
      split at h
      · rename_i hn
        injection h with h
        subst h
        exact ⟨by omega, e, he, hn⟩
      · have := lastN_lt l x k m h
        exact ⟨by omega, this.2⟩
theorem nam_node {e : Ev} {x : ByteArray} (h : namE e x = true) : nodE e = true := by
  unfold namE at h
  simp at h
  exact h.1
theorem defG_last (l : List Ev) (i : Nat) (x : ByteArray) : ∀ k, k ≤ l.length → defG l i x k = match lastN l x k with
    | none => -1
    | some m => if m < docAft l k then -1 else if endN l m < 0 ∨ (i : Int) < endN l m then -1 else (m : Int)
  | 0, _ => by simp [defG, lastN]
  | k + 1, hk => by
    obtain ⟨e, he⟩ : ∃ e, l[k]? = some e := ⟨_, List.getElem?_eq_getElem (by omega)⟩
    have ih := defG_last l i x k (by omega)
    rw [defG, lastN, he, docAft, kind_at he]
    simp only []
    by_cases h2 : e.kind = 2
    · have hn : namE e x = false := by
        cases h' : namE e x
        · rfl
        · have := nam_node h'
          unfold nodE at this
          simp at this
          omega
      rw [if_pos h2, if_pos h2, hn]
      simp only [Bool.false_eq_true, if_false]
      cases hl : lastN l x k with
      | none => rfl
      | some m =>
        have := (lastN_lt l x k m hl).1
        simp only []
        rw [if_pos (by omega)]
    · rw [if_neg h2, if_neg h2]
      cases hn : namE e x
      · simp only [Bool.false_eq_true, if_false]
        exact ih
      · simp only [if_true]
        have := docAft_le l k
        rw [if_neg (show ¬ k < docAft l k by omega)]
theorem root_doc {l : List Ev} (h : nested l = true) : ∀ k, k ≤ l.length → (0 < k ∧ kindAt l (k - 1) = 2) ∨ rootTo l k = docAft l k ∨ k = l.length
  | 0, _ => .inr (.inl rfl)
  | k + 1, hk => by
    obtain ⟨e, he⟩ : ∃ e, l[k]? = some e := ⟨_, List.getElem?_eq_getElem (by omega)⟩
    have ih := root_doc h k (by omega)
    have hN := ns_at h he
    rw [Nat.add_sub_cancel, kind_at he]
    by_cases h2 : e.kind = 2
    · exact .inl ⟨by omega, h2⟩
    right
    rw [rootTo, docAft, kind_at he, if_neg h2]
    have hh : headI (stk l k) = -1 ↔ stk l k = [] := by
      cases stk l k with
      | nil => simp [headI]
      | cons a r => simp [headI]
    by_cases hd : 0 < k ∧ kindAt l (k - 1) = 2
    · rcases hN.doc hd.1 hd.2 with hn | hn
      · left
        have hr := (hN.root hn).2 hd
        have : inAt l (-1) k = true := by
          unfold inAt
          rw [nodB_some he, hn, up_head l k (by omega), hh.2 hr]
          rfl
        rw [if_pos this]
        obtain ⟨q, rfl⟩ : ∃ q, k = q + 1 := ⟨k - 1, by omega⟩
        rw [docAft, if_pos (show kindAt l q = 2 from hd.2)]
      · exact .inr hn
    · left
      have hi : inAt l (-1) k = false := by
        unfold inAt
        cases hn : nodE e
        · rw [nodB_some he, hn]; rfl
        · rw [up_head l k (by omega)]
          have : ¬ stk l k = [] := fun h' => hd ((hN.root hn).1 h')
          have : ¬ headI (stk l k) = -1 := fun h' => this (hh.1 h')
          simp [this]
      rw [if_neg (by simp [hi])]
      rcases ih with h1 | h1 | h1
      · exact absurd h1 hd
      · exact h1
      · omega
/-- At a node the root that is told is behind the last beginning of a document. -/
theorem root_node {l : List Ev} (h : nested l = true) {k : Nat} {e : Ev} (he : l[k]? = some e) (hn : nodE e = true) : rootTo l (k + 1) = docAft l k := by
  have hk : k < l.length := (List.getElem?_eq_some_iff.1 he).1
  have hN := ns_at h he
  have hh : headI (stk l k) = -1 ↔ stk l k = [] := by
    cases stk l k with
    | nil => simp [headI]
    | cons a r => simp [headI]
  rw [rootTo]
  by_cases hd : 0 < k ∧ kindAt l (k - 1) = 2
  · have hr := (hN.root hn).2 hd
    have : inAt l (-1) k = true := by
      unfold inAt
      rw [nodB_some he, hn, up_head l k (by omega), hh.2 hr]
      rfl
    rw [if_pos this]
    obtain ⟨q, rfl⟩ : ∃ q, k = q + 1 := ⟨k - 1, by omega⟩
    rw [docAft, if_pos (show kindAt l q = 2 from hd.2)]
  · have hi : inAt l (-1) k = false := by
      unfold inAt
      rw [up_head l k (by omega)]
      have : ¬ stk l k = [] := fun h' => hd ((hN.root hn).1 h')
      have : ¬ headI (stk l k) = -1 := fun h' => this (hh.1 h')
      simp [this]
    rw [if_neg (by simp [hi])]
    rcases root_doc h k (by omega) with h1 | h1 | h1
    · exact absurd h1 hd
    · exact h1
    · omega
theorem alias_bare {e : Ev} (h : evOk e = true) (h6 : e.kind = 6) : noB e.anchor = true := by
  unfold evOk at h
  split at h
  · cases h
  · split at h
    · cases h
    · rename_i hb
      unfold evBad nodeK at hb
      rw [h6] at hb
      simp at hb
      exact hb.2.1
theorem defN_m1 (l : List Ev) (i : Nat) : defN l i = -1 ∨ 0 ≤ defN l i := by
  unfold defN
  split
  · exact .inl rfl
  · rename_i e _
    have : ∀ k, defG l i e.text k = -1 ∨ 0 ≤ defG l i e.text k := by
      intro k
      induction k with
      | zero => exact .inl rfl
      | succ k ih =>
        rw [defG]
        split
        · exact .inl rfl
        · split
          · exact .inl rfl
          · split
            · split
              · exact .inl rfl
              · right; omega
            · exact ih
    exact this i
structure TiAt (l : List Ev) (k : Nat) (t : Ti) : Prop where
  root : t.root = rootTo l k
  named : ∀ x, t.named x = (lastN l x k).map (fin l)
  defs : ∀ i, t.defs i = if 0 ≤ i ∧ i < (k : Int) ∧ kindAt l i.toNat = 6 ∧ 0 ≤ defN l i.toNat then some (defN l i.toNat).toNat else none
  loose : t.loose ≤ k
  tied : t.loose = 0 ↔ tiedTo l k = true
theorem tiedTo_succJ (l : List Ev) (k : Nat) : tiedTo l (k + 1) = (tiedTo l k && tiedAt l k) := by
  unfold tiedTo
  rw [List.range_succ, List.all_append]
  simp
theorem defs_same {l : List Ev} {k : Nat} (hk : ¬ (kindAt l k = 6 ∧ 0 ≤ defN l k)) (i : Int) :
    (if 0 ≤ i ∧ i < ((k + 1 : Nat) : Int) ∧ kindAt l i.toNat = 6 ∧ 0 ≤ defN l i.toNat then some (defN l i.toNat).toNat else none) = (if 0 ≤ i ∧ i < (k : Int) ∧ kindAt l i.toNat = 6 ∧ 0 ≤ defN l i.toNat then some (defN l i.toNat).toNat else none) := by
  by_cases h : 0 ≤ i ∧ i < (k : Int) ∧ kindAt l i.toNat = 6 ∧ 0 ≤ defN l i.toNat
  · rw [if_pos h, if_pos ⟨h.1, by omega, h.2.2⟩]
  · rw [if_neg h, if_neg]
    rintro ⟨h1, h2, h3⟩
    by_cases e : i = (k : Int)
    · subst e
      rw [show (k : Int).toNat = k by omega] at h3
      exact hk h3
    · exact h ⟨h1, by omega, h3⟩
theorem ti_gat {l : List Ev} (h : nested l = true) : ∀ k, k ≤ l.length → TiAt l k (gat l (fTie l) Ti.start k)
  | 0, _ => ⟨rfl, fun _ => rfl, fun i => by rw [if_neg (by omega)]; rfl, Nat.le_refl _, by simp [tiedTo, gat_zero, Ti.start]⟩
  | k + 1, hk => by
    obtain ⟨e, he⟩ : ∃ e, l[k]? = some e := ⟨_, List.getElem?_eq_getElem (by omega)⟩
    have ih := ti_gat h k (by omega)
    have hN := ns_at h he
    have hkd := kind_at he
    cases hn : nodE e
    · have hnb : nodB l k = false := by rw [nodB_some he]; exact hn
      have hk6 : kindAt l k ≠ 6 := by
        rw [hkd]
        unfold nodE at hn
        simp at hn
        omega
      rw [gat_no hnb]
      refine ⟨?_, fun x => ?_, fun i => ?_, by have := ih.loose; omega, ?_⟩
      · rw [ih.root, rootTo, if_neg (by simp [inAt, hnb])]
      · rw [ih.named, lastN, he]
        simp only []
        rw [if_neg (fun h' => by rw [nam_node h'] at hn; cases hn)]
      · rw [ih.defs, defs_same (fun h' => hk6 h'.1)]
      · rw [ih.tied, tiedTo_succJ]
        simp [tiedAt, hk6]
    · have hnb : nodB l k = true := by rw [nodB_some he]; exact hn
      rw [gat_yes hnb]
      obtain ⟨t, ht⟩ : ∃ t, gat l (fTie l) Ti.start k = t := ⟨_, rfl⟩
      rw [ht] at ih ⊢
      have hF : fTie l t (fin l k) = t.take (fin l k) e := by
        unfold fTie
        show (match l[k]? with | none => t | some e => t.take (fin l k) e) = _
        rw [he]
      rw [hF]
      have hat : (t.at (fin l k)).root = rootTo l (k + 1) ∧ (t.at (fin l k)).named = t.named ∧ (t.at (fin l k)).defs = t.defs ∧ (t.at (fin l k)).loose = t.loose := by
        unfold Ti.at
        rw [rootTo]
        unfold inAt
        rw [hnb]
        show (if upG l k 0 = -1 then ({ t with root := k } : Ti) else t).root = _ ∧ _
        by_cases hu : upG l k 0 = -1
        · have hu' : (fin l k).up = -1 := hu
          rw [if_pos hu, if_pos hu']
          simp [hu]
        · have hu' : ¬ (fin l k).up = -1 := hu
          rw [if_neg hu, if_neg hu']
          simp [hu, ih.root]
      obtain ⟨t1, ht1⟩ : ∃ t1, t.at (fin l k) = t1 := ⟨_, rfl⟩
      unfold Ti.take
      rw [ht1] at hat ⊢
      obtain ⟨a1, a2, a3, a4⟩ := hat
      have hlast : ∀ x, namE e x = false → (lastN l x (k + 1)).map (fin l) = t.named x := by
        intro x hx
        rw [ih.named, lastN, he]
        simp [hx]
      by_cases h6 : e.kind = 6
      · rw [if_pos h6]
        have hbare := alias_bare hN.ok h6
        have hnam : ∀ x, namE e x = false := fun x => by unfold namE; simp [hbare]
        have hdef : defN l k = defG l k e.text k := by unfold defN; rw [he]
        have hk6 : kindAt l k = 6 := by rw [hkd]; exact h6
        have hroot := root_node h he hn
        have hmiss : defN l k < 0 → TiAt l (k + 1) t1.miss := by
          intro hneg
          refine ⟨a1, fun x => ?_, fun i => ?_, ?_, ?_⟩
          · rw [hlast x (hnam x)]; exact congrFun a2 x
          · rw [defs_same (fun h' => by omega), ← ih.defs]; exact congrFun a3 i
          · show t1.loose + 1 ≤ k + 1
            rw [a4]
            have := ih.loose
            omega
          · show t1.loose + 1 = 0 ↔ _
            rw [tiedTo_succJ]
            simp [tiedAt, hk6]
            intro _
            exact hneg
        unfold Ti.tie
        rw [congrFun a2 e.text, ih.named]
        have hdl := defG_last l k e.text k (by omega)
        rw [← hdef] at hdl
        cases hl : lastN l e.text k with
        | none =>
          rw [hl] at hdl
          simp only [] at hdl
          exact hmiss (by omega)
        | some m =>
          rw [hl] at hdl
          simp only [] at hdl
          show TiAt l (k + 1) (if m < t1.root ∨ ahead (fin l m) k = false then t1.miss else _)
          rw [a1, hroot]
          obtain ⟨hmk, em, hem, hnm⟩ := lastN_lt l e.text k m hl
          have hE : endN l m ≠ (k : Int) := fun h' => by
            have := (endN_hit hem (nam_node hnm) hmk he h').1
            omega
          have hah : ahead (fin l m) k = false ↔ (endN l m < 0 ∨ (k : Int) < endN l m) := by
            rw [ahead_open hem (nam_node hnm) hmk (by omega), open_iff hem (nam_node hnm) hmk (by omega)]
            omega
          by_cases hlo : m < docAft l k
          · rw [if_pos (.inl hlo)]
            rw [if_pos hlo] at hdl
            exact hmiss (by omega)
          · rw [if_neg hlo] at hdl
            by_cases hop : endN l m < 0 ∨ (k : Int) < endN l m
            · rw [if_pos (.inr (hah.2 hop))]
              rw [if_pos hop] at hdl
              exact hmiss (by omega)
            · rw [if_neg (fun h' => h'.elim hlo (fun h'' => hop (hah.1 h'')))]
              rw [if_neg hop] at hdl
              refine ⟨hroot.symm, fun x => ?_, fun i => ?_, ?_, ?_⟩
              · rw [hlast x (hnam x)]; exact congrFun a2 x
              · show (if (k : Int) = i then some m else t1.defs i) = _
                by_cases ei : (k : Int) = i
                · subst ei
                  rw [if_pos rfl, show (k : Int).toNat = k by omega, if_pos ⟨by omega, by omega, hk6, by omega⟩, hdl]
                  rfl
                · rw [if_neg ei, congrFun a3 i, ih.defs]
                  by_cases hc : 0 ≤ i ∧ i < (k : Int) ∧ kindAt l i.toNat = 6 ∧ 0 ≤ defN l i.toNat
                  · rw [if_pos hc, if_pos ⟨hc.1, by omega, hc.2.2⟩]
                  · rw [if_neg hc, if_neg (fun h' => hc ⟨h'.1, by omega, h'.2.2⟩)]
              · show t1.loose ≤ k + 1
                rw [a4]
                have := ih.loose
                omega
              · show t1.loose = 0 ↔ _
                rw [a4, ih.tied, tiedTo_succJ]
                have : tiedAt l k = true := by
                  unfold tiedAt
                  rw [hdl]
                  simp
                simp [this]
      · rw [if_neg h6]
        have hk6 : kindAt l k ≠ 6 := by rw [hkd]; exact h6
        have hd : ∀ i, t1.defs i = if 0 ≤ i ∧ i < ((k + 1 : Nat) : Int) ∧ kindAt l i.toNat = 6 ∧ 0 ≤ defN l i.toNat then some (defN l i.toNat).toNat else none := fun i => by
          rw [defs_same (fun h' => hk6 h'.1), ← ih.defs]; exact congrFun a3 i
        have ht2 : t1.loose = 0 ↔ tiedTo l (k + 1) = true := by
          rw [a4, ih.tied, tiedTo_succJ]
          simp [tiedAt, hk6]
        have hlo : t1.loose ≤ k + 1 := by
          rw [a4]
          have := ih.loose
          omega
        cases hb : noB e.anchor
        · simp only [Bool.false_eq_true, if_false]
          refine ⟨a1, fun x => ?_, hd, hlo, ht2⟩
          show (if e.anchor = x then some (fin l k) else t1.named x) = _
          by_cases ex : e.anchor = x
          · subst ex
            rw [if_pos rfl, lastN, he]
            have : namE e e.anchor = true := by unfold namE; simp [hn, hb]
            simp [this]
          · rw [if_neg ex, hlast x (by unfold namE; simp [ex])]
            exact congrFun a2 x
        · simp only [if_true]
          refine ⟨a1, fun x => ?_, hd, hlo, ht2⟩
          rw [hlast x (by unfold namE; simp [hb])]
          exact congrFun a2 x
theorem def_gat {l : List Ev} (h : nested l = true) (i : Int) : (match (gat l (fTie l) Ti.start l.length).defs i with | none => (-1 : Int) | some d => (d : Int)) = defOf l i := by
  have hT := ti_gat h l.length (Nat.le_refl _)
  rw [hT.defs]
  unfold defOf
  by_cases hc : 0 ≤ i ∧ i < (l.length : Int) ∧ kindAt l i.toNat = 6
  · have hno : ¬ (nested l = false ∨ i < 0 ∨ (l.length : Int) ≤ i ∨ kindAt l i.toNat ≠ 6) := by rw [h]; simp; omega
    rw [if_neg hno]
    by_cases h0 : 0 ≤ defN l i.toNat
    · rw [if_pos ⟨hc.1, hc.2.1, hc.2.2, h0⟩]
      simp only []
      omega
    · rw [if_neg (fun h' => h0 h'.2.2.2)]
      have := defN_m1 l i.toNat
      simp only []
      omega
  · have hyes : nested l = false ∨ i < 0 ∨ (l.length : Int) ≤ i ∨ kindAt l i.toNat ≠ 6 := by
      right
      by_cases h6 : kindAt l i.toNat = 6
      · have : ¬ (0 ≤ i ∧ i < (l.length : Int)) := fun h' => hc ⟨h'.1, h'.2, h6⟩
        omega
      · exact .inr (.inr h6)
    rw [if_pos hyes, if_neg (fun h' => hc ⟨h'.1, h'.2.1, h'.2.2.1⟩)]
theorem tied_gat {l : List Ev} (h : nested l = true) : decide ((gat l (fTie l) Ti.start l.length).loose = 0) = tied l := by
  have hT := ti_gat h l.length (Nat.le_refl _)
  unfold tied
  rw [h, Bool.true_and]
  by_cases h0 : (gat l (fTie l) Ti.start l.length).loose = 0
  · rw [decide_eq_true h0, hT.tied.1 h0]
  · rw [decide_eq_false h0]
    cases ht : tiedTo l l.length
    · rfl
    · exact absurd (hT.tied.2 ht) h0
end Go.Proofs.Ytmbbmibkjnlkkaa
/- A map in memory, as a plain function of its keys. -/
namespace Go.Proofs.Ytmbbmibkjnlkkaa
open Go.Maps Go.RowKit
def RH (v : Value) : Option (DataW Value × List MemPlace) := some (.held v, [])
def putFn {K V : Type} [DecidableEq K] (f : K → Option V) (x : K) (p : V) : K → Option V := fun y => if x = y then some p else f y
structure MapFn {K V : Type} (kf : K → Lit) (vf : V → Value) (D : DataW Value) (f : K → Option V) : Prop where
  isMap : IsMap D
  has : ∀ x, Maps.has D (kf x) = (f x).isSome
  at_ : ∀ x p, f x = some p → ∀ z, D.atKey (kf x) z = .held (vf p)
/-- Keys that differ are told apart. -/
structure KeyFn {K : Type} (kf : K → Lit) : Prop where
  inj : ∀ a b, a ≠ b → kf a ≠ kf b
  lit : ∀ a, WideAt.IsKeyLit (kf a)
section
variable {K V : Type} {kf : K → Lit} {vf : V → Value} {D : DataW Value} {f : K → Option V} {P : Program} {kt t e : TypeId} {w w' : World} {B n : Nat}
theorem MapFn.start : MapFn kf vf (.map []) (fun _ => none) := ⟨⟨_, rfl⟩, fun x => by simp [Maps.has], fun x p h => by simp at h⟩
theorem MapFn.put [DecidableEq K] (h : MapFn kf vf D f) (hk : KeyFn kf) (x : K) (p : V) : MapFn kf vf (D.put (kf x) (.held (vf p))) (putFn f x p) := by
  refine ⟨h.isMap.put _ _, fun y => ?_, fun y q hq z => ?_⟩
  · unfold putFn
    by_cases e : x = y
    · subst e
      rw [has_put_same h.isMap (hk.lit _)]; simp
    · rw [has_put_other (hk.inj _ _ (Ne.symm e)), h.has y]; simp [e]
  · unfold putFn at hq
    by_cases e : x = y
    · subst e
      simp at hq
      subst hq
      exact atKey_put_same h.isMap (hk.lit _) _ _
    · simp [e] at hq
      rw [atKey_put_other (hk.inj _ _ (Ne.symm e))]
      exact h.at_ y q hq z
def MapM (P : Program) (kt : TypeId) (kf : K → Lit) (vf : V → Value) (w : World) (B n : Nat) (f : K → Option V) : Prop := ∃ D, w.ownsMap P kt RH B n D ∧ MapFn kf vf D f
theorem MapM.lt (h : MapM P kt kf vf w B n f) : B < w.heap.size := h.elim fun _ h => h.1.lt
theorem MapM.same (h : MapM P kt kf vf w B n f) (hb : w'.heap[B]? = w.heap[B]?) : MapM P kt kf vf w' B n f := by
  obtain ⟨D, h1, h2⟩ := h
  obtain ⟨es, clock, he, F, hs, hD⟩ := h1
  exact ⟨D, ⟨es, clock, hb.trans he, F, hs, hD⟩, h2⟩
theorem MapM.isMap (h : MapM P kt kf vf w B n f) : ∃ es clock, w.heap[B]? = some (.map es clock) := by
  obtain ⟨D, ⟨es, clock, he, _⟩, _⟩ := h
  exact ⟨es, clock, he⟩
theorem MapM.made (w : World) (P : Program) (kt : TypeId) (kf : K → Lit) (vf : V → Value) : MapM P kt kf vf (w.alloc (.map #[] 0)) w.heap.size 0 (fun _ => none) := ⟨_, World.ownsMap_made w _ _ _, MapFn.start⟩
theorem MapM.put [DecidableEq K] (h : MapM P kt kf vf w B n f) (hk : KeyFn kf) (K1 : Keyed P kt) (ht : P.underlying t = some (.map kt e)) (x : K) (p : V) {key : Value} (hx : keyOf P kt key = some (kf x)) (hn : n < maxLen) :
    ∃ w', (Instr.mapUpdate t (.map (some B)) key (vf p)).run P w = .ok () w' ∧ MapM P kt kf vf w' B (n + 1) (putFn f x p) ∧ w.grownBy w' (some B) := by
  obtain ⟨D, h1, h2⟩ := h
  obtain ⟨w', hup, hown, hg⟩ := h1.update K1 ht hn (key := key) (val := vf p) hx rfl
  exact ⟨w', hup, ⟨_, hown, h2.put hk x p⟩, hg⟩
theorem MapM.look_yes (h : MapM P kt kf vf w B n f) (K1 : Keyed P kt) (ht : P.underlying t = some (.map kt e)) {z : Value} (hz : (zeroValue e).run P w = .ok z w) {x : K} {p : V} {key : Value} (hx : keyOf P kt key = some (kf x)) (hf : f x = some p) :
    (Instr.lookup t (.map (some B)) key true).run P w = .ok (.tuple #[vf p, .bool true]) w := by
  obtain ⟨D, h1, h2⟩ := h
  obtain ⟨v, ps, hrun, hv⟩ := h1.look_ok K1 ht hz (zd := .held z) (zp := []) rfl hx
  rw [h2.has x, hf] at hrun
  rw [h2.at_ x p hf] at hv
  simp only [RH, Option.some.injEq, Prod.mk.injEq, DataW.held.injEq] at hv
  rw [hv.1] at hrun
  exact hrun
theorem MapM.look_no (h : MapM P kt kf vf w B n f) (K1 : Keyed P kt) (ht : P.underlying t = some (.map kt e)) {z : Value} (hz : (zeroValue e).run P w = .ok z w) {x : K} {key : Value} (hx : keyOf P kt key = some (kf x)) (hf : f x = none) :
    (Instr.lookup t (.map (some B)) key true).run P w = .ok (.tuple #[z, .bool false]) w := by
  obtain ⟨D, h1, h2⟩ := h
  obtain ⟨es, clock, hb, F, hs, hD⟩ := h1
  have hh := h2.has x
  rw [hf] at hh
  rcases Maps.fit_look true K1 ht hz hb F hx with ⟨hrun, _, hat⟩ | ⟨e0, y, _, _, hrun, hRv, hat, _⟩
  · exact hrun
  · have := Maps.has_true_of_atKey hat
    rw [← hD, hh] at this
    cases this
end
end Go.Proofs.Ytmbbmibkjnlkkaa
/- impl's ties in memory; the contracts of tie and take. -/
namespace Go.Proofs.Ytmbbmibkjnlkkaa
open Go.ChangeShapes Go.WideShapes Go.ChangeAt Go.RowKit Go.Maps
def nkey (x : ByteArray) : Lit := .string x.data.toList
theorem nkey_fn : KeyFn nkey := by
  refine ⟨fun a b h e => ?_, fun _ => trivial⟩
  unfold nkey at e
  injection e with e
  exact h (ba_ext e)
def dkey (x : Int) : Lit := .int .i64 x
theorem dkey_fn : KeyFn dkey := by
  refine ⟨fun a b h e => ?_, fun _ => trivial⟩
  unfold dkey at e
  injection e with _ e
  exact h e
def natV (n : Nat) : Value := .int .i64 (n : Int)
theorem nkeyed : Keyed Try.prog 9 := string_keyed Try.underlying9
theorem dkeyed : Keyed Try.prog 3 := int_keyed Try.underlying3
theorem nkey_mk {x : ByteArray} (h : x.size ≤ 1073741824) : keyOf Try.prog 9 (.string x) = some (nkey x) := WideMaps.keyOf_string_mk Try.underlying9 (by unfold maxLen; omega)
theorem dkey_mk {x : Int} (h : (Lit.int .i64 x).wf = true) : keyOf Try.prog 3 (.int .i64 x) = some (dkey x) := keyOf_int_mk Try.underlying3 h
theorem zeroSp (w : World) : (zeroValue 64).run Try.prog w = .ok (.agg #[.int .i64 0, .int .i64 0, .int .i64 0]) w := Try.zeroValue64 w
theorem zeroNum (w : World) : (zeroValue 3).run Try.prog w = .ok (.int .i64 0) w := Try.zeroValue3 w
/-- The ties at block b. -/
def TsAt (b : Nat) (lv : Value) (root : Nat) (B1 B2 : Nat) (loose : Nat) (w : World) : Prop :=
  w.heap[b]? = some (.cells #[lv, .int .i64 (root : Int), .map (some B1), .map (some B2), .int .i64 (loose : Int)] 61 (0, 0))
section
variable {b : Nat} {lv : Value} {root B1 B2 loose : Nat} {w w' : World}
theorem TsAt.lt (h : TsAt b lv root B1 B2 loose w) : b < w.heap.size := (Array.getElem?_eq_some_iff.1 h).1
theorem TsAt.c0 (h : TsAt b lv root B1 B2 loose w) : w.cell? ⟨b, 0, none⟩ = some lv := by rw [Lib.cell_of_heap h]; rfl
theorem TsAt.c1 (h : TsAt b lv root B1 B2 loose w) : w.cell? ⟨b, 1, none⟩ = some (.int .i64 (root : Int)) := by rw [Lib.cell_of_heap h]; rfl
theorem TsAt.c2 (h : TsAt b lv root B1 B2 loose w) : w.cell? ⟨b, 2, none⟩ = some (.map (some B1)) := by rw [Lib.cell_of_heap h]; rfl
theorem TsAt.c3 (h : TsAt b lv root B1 B2 loose w) : w.cell? ⟨b, 3, none⟩ = some (.map (some B2)) := by rw [Lib.cell_of_heap h]; rfl
theorem TsAt.c4 (h : TsAt b lv root B1 B2 loose w) : w.cell? ⟨b, 4, none⟩ = some (.int .i64 (loose : Int)) := by rw [Lib.cell_of_heap h]; rfl
theorem TsAt.fz (h : TsAt b lv root B1 B2 loose w) (j : Nat) : w.frozen? ⟨b, j, none⟩ = false := Lib.frozen_of_heap h j
theorem TsAt.same (h : TsAt b lv root B1 B2 loose w) (hb : w'.heap[b]? = w.heap[b]?) : TsAt b lv root B1 B2 loose w' := hb.trans h
theorem TsAt.set1 (h : TsAt b lv root B1 B2 loose w) (x : Nat) : TsAt b lv x B1 B2 loose (w.setCell ⟨b, 1, none⟩ (.int .i64 (x : Int))) := by
  unfold TsAt at *
  simp [World.setCell, Array.getElem?_modify, h]
theorem TsAt.set4 (h : TsAt b lv root B1 B2 loose w) (x : Nat) : TsAt b lv root B1 B2 x (w.setCell ⟨b, 4, none⟩ (.int .i64 (x : Int))) := by
  unfold TsAt at *
  simp [World.setCell, Array.getElem?_modify, h]
end
/-- What lies beside the ties' own blocks lies as it lay. -/
def KeepO (b B1 B2 : Nat) (w w' : World) : Prop := w.heap.size ≤ w'.heap.size ∧ ∀ x, x < w.heap.size → x ≠ b → x ≠ B1 → x ≠ B2 → w'.heap[x]? = w.heap[x]?
/-- What is tied of k nodes, and that all that lay is as it lay. -/
structure TsI (b B1 B2 : Nat) (lv : Value) (w0 : World) (t : Ti) (k : Nat) (w : World) : Prop where
  at_ : TsAt b lv t.root B1 B2 t.loose w
  nm : ∃ n, n ≤ k ∧ MapM Try.prog 9 nkey Sp.val w B1 n t.named
  df : ∃ n, n ≤ k ∧ MapM Try.prog 3 dkey natV w B2 n t.defs
  ls : t.loose ≤ k
  below : Below w0.heap.size w0 w
  hi : w0.heap.size ≤ b ∧ w0.heap.size ≤ B1 ∧ w0.heap.size ≤ B2
  ne : b ≠ B1 ∧ b ≠ B2 ∧ B1 ≠ B2
section
variable {b B1 B2 : Nat} {lv : Value} {w0 w w' : World} {t : Ti} {k : Nat}
theorem TsI.stays (h : TsI b B1 B2 lv w0 t k w) (hb : Below w.heap.size w w') : TsI b B1 B2 lv w0 t k w' := by
  obtain ⟨n1, h1, h2⟩ := h.nm
  obtain ⟨n2, h3, h4⟩ := h.df
  exact ⟨h.at_.same (hb.block b h.at_.lt), ⟨n1, h1, h2.same (hb.block _ h2.lt)⟩, ⟨n2, h3, h4.same (hb.block _ h4.lt)⟩, h.ls, h.below.trans (hb.mono h.below.size), h.hi, h.ne⟩
theorem TsI.more (h : TsI b B1 B2 lv w0 t k w) : TsI b B1 B2 lv w0 t (k + 1) w := by
  obtain ⟨n1, h1, h2⟩ := h.nm
  obtain ⟨n2, h3, h4⟩ := h.df
  exact ⟨h.at_, ⟨n1, by omega, h2⟩, ⟨n2, by omega, h4⟩, by have := h.ls; omega, h.below, h.hi, h.ne⟩
/-- A cell of the ties' own block is stored. -/
theorem TsI.cell (h : TsI b B1 B2 lv w0 t k w) {j : Nat} {x : Value} {t' : Ti} (ha : TsAt b lv t'.root B1 B2 t'.loose (w.setCell ⟨b, j, none⟩ x)) (hn : t'.named = t.named) (hd : t'.defs = t.defs) {k' : Nat} (hk : k ≤ k') (hl : t'.loose ≤ k') : TsI b B1 B2 lv w0 t' k' (w.setCell ⟨b, j, none⟩ x) := by
  obtain ⟨n1, h1, h2⟩ := h.nm
  obtain ⟨n2, h3, h4⟩ := h.df
  rw [← hn] at h2
  rw [← hd] at h4
  exact ⟨ha, ⟨n1, by omega, h2.same (Below.heap_setCell _ _ _ _ (Ne.symm h.ne.1))⟩, ⟨n2, by omega, h4.same (Below.heap_setCell _ _ _ _ (Ne.symm h.ne.2.1))⟩, hl, h.below.setCell h.hi.1 x, h.hi, h.ne⟩
theorem KeepO.of (h : Below w.heap.size w w') : KeepO b B1 B2 w w' := ⟨h.size, fun x hx _ _ _ => h.block x hx⟩
theorem KeepO.trans {a c d : World} (h : KeepO b B1 B2 a c) (k : KeepO b B1 B2 c d) : KeepO b B1 B2 a d := ⟨Nat.le_trans h.1 k.1, fun x hx h1 h2 h3 => (k.2 x (Nat.lt_of_lt_of_le hx h.1) h1 h2 h3).trans (h.2 x hx h1 h2 h3)⟩
theorem TsI.keep (_ : TsI b B1 B2 lv w0 t k w) (j : Nat) (x : Value) : KeepO b B1 B2 w (w.setCell ⟨b, j, none⟩ x) := ⟨by simp [World.setCell], fun _ _ h1 _ _ => Below.heap_setCell _ _ _ _ h1⟩
theorem keep_map1 (hg : w.grownBy w' (some B1)) : KeepO b B1 B2 w w' := ⟨hg.size, fun x hx _ h2 _ => hg.block x hx (fun e => h2 (Option.some.inj e))⟩
theorem keep_map2 (hg : w.grownBy w' (some B2)) : KeepO b B1 B2 w w' := ⟨hg.size, fun x hx _ _ h3 => hg.block x hx (fun e => h3 (Option.some.inj e))⟩
theorem KeepO.toS (h : KeepO b B1 B2 w w') (hI : TsI b B1 B2 lv w0 t k w) : KeepS w w' := fun x cs fr hx => by
  obtain ⟨_, _, h2⟩ := hI.nm
  obtain ⟨_, _, h4⟩ := hI.df
  obtain ⟨_, _, e2⟩ := h2.isMap
  obtain ⟨_, _, e4⟩ := h4.isMap
  have h0 := hI.at_
  unfold TsAt at h0
  rw [h.2 x (Array.getElem?_eq_some_iff.1 hx).1 (fun e => ?_) (fun e => ?_) (fun e => ?_), hx]
  · subst e
    rw [hx] at h0
    injection h0 with h0
    injection h0 with _ h0
    exact absurd h0 (by decide)
  · subst e
    rw [hx] at e2
    cases e2
  · subst e
    rw [hx] at e4
    cases e4
theorem below_map {B : Nat} (h : Below w0.heap.size w0 w) (hg : w.grownBy w' (some B)) (hB : w0.heap.size ≤ B) : Below w0.heap.size w0 w' :=
  h.trans ⟨hg.os, hg.tape, hg.output, hg.size, fun j hj => hg.block j (by have := h.size; omega) (by simp; omega)⟩
theorem TsI.putN (h : TsI b B1 B2 lv w0 t k w) (x : ByteArray) (n : Sp) (hx : x.size ≤ 1073741824) (hk : k ≤ 2000000) :
    ∃ w', (Instr.mapUpdate 59 (.map (some B1)) (.string x) n.val).run Try.prog w = .ok () w' ∧ TsI b B1 B2 lv w0 (t.name x n) (k + 1) w' ∧ KeepO b B1 B2 w w' := by
  obtain ⟨n1, h1, h2⟩ := h.nm
  obtain ⟨n2, h3, h4⟩ := h.df
  obtain ⟨w', hup, hM, hg⟩ := h2.put nkey_fn nkeyed Try.underlying59 x n (nkey_mk hx) (by unfold maxLen; omega)
  refine ⟨w', hup, ⟨h.at_.same (hg.block b h.at_.lt (by simp; exact h.ne.1)), ⟨n1 + 1, by omega, hM⟩, ⟨n2, by omega, h4.same (hg.block B2 h4.lt (by simp; exact Ne.symm h.ne.2.2))⟩, by have := h.ls; show t.loose ≤ k + 1; omega, below_map h.below hg h.hi.2.1, h.hi, h.ne⟩, keep_map1 hg⟩
theorem TsI.putD (h : TsI b B1 B2 lv w0 t k w) (a n : Nat) (ha : a ≤ 2000000) (hk : k ≤ 2000000) :
    ∃ w', (Instr.mapUpdate 41 (.map (some B2)) (.int .i64 (a : Int)) (.int .i64 (n : Int))).run Try.prog w = .ok () w' ∧ TsI b B1 B2 lv w0 { t with defs := putFn t.defs (a : Int) n } (k + 1) w' ∧ KeepO b B1 B2 w w' := by
  obtain ⟨n1, h1, h2⟩ := h.nm
  obtain ⟨n2, h3, h4⟩ := h.df
  obtain ⟨w', hup, hM, hg⟩ := h4.put dkey_fn dkeyed Try.underlying41 (a : Int) n (dkey_mk (WalkArith.wf_i64 (by omega))) (by unfold maxLen; omega)
  refine ⟨w', hup, ⟨h.at_.same (hg.block b h.at_.lt (by simp; exact h.ne.2.1)), ⟨n1, by omega, h2.same (hg.block B1 h2.lt (by simp; exact h.ne.2.2))⟩, ⟨n2 + 1, by omega, hM⟩, by have := h.ls; show t.loose ≤ k + 1; omega, below_map h.below hg h.hi.2.2, h.hi, h.ne⟩, keep_map2 hg⟩
end
end Go.Proofs.Ytmbbmibkjnlkkaa
/- impl's ties: tie. -/
namespace Go.Proofs.Ytmbbmibkjnlkkaa
open Go.ChangeShapes Go.WideShapes Go.ChangeAt Go.RowKit Go.Maps
theorem Ti.miss_is (t : Ti) : t.miss.root = t.root ∧ t.miss.named = t.named ∧ t.miss.defs = t.defs ∧ t.miss.loose = t.loose + 1 := ⟨rfl, rfl, rfl, rfl⟩
section
variable {b B1 B2 : Nat} {lv : Value} {w0 w : World} {t : Ti} {k : Nat}
theorem TsI.miss4 (h : TsI b B1 B2 lv w0 t k w) : TsI b B1 B2 lv w0 t.miss (k + 1) (w.setCell ⟨b, 4, none⟩ (.int .i64 ((t.loose : Int) + 1))) := by
  have e : ((t.loose : Int) + 1) = ((t.loose + 1 : Nat) : Int) := by omega
  rw [e]
  refine h.cell (t' := t.miss) ?_ rfl rfl (Nat.le_succ k) (by have := h.ls; show t.loose + 1 ≤ k + 1; omega)
  exact h.at_.set4 (t.loose + 1)
end
set_option maxRecDepth 100000 in
set_option maxHeartbeats 8000000 in
theorem tie_none (b B1 B2 : Nat) (lv : Value) (w0 w : World) (t : Ti) (k : Nat) (x : ByteArray) (a : Nat) (hN : t.named x = none) (hI : TsI b B1 B2 lv w0 t k w) (hx : x.size ≤ 1073741824) (ha : a ≤ 1048576) (hk : k ≤ 1048576) :
    Calls Try.prog 46 #[.pointer (some ⟨b, 0, none⟩), .string x, .int .i64 (a : Int)] w fun e w' => e = .returned (.tuple #[]) ∧ TsI b B1 B2 lv w0 t.miss (k + 1) w' ∧ KeepO b B1 B2 w w' := by
  obtain ⟨n1, hn1, hM⟩ := hI.nm
  have hlook := hM.look_no nkeyed Try.underlying59 (zeroSp w) (nkey_mk hx) hN
  obtain ⟨W, hW⟩ : ∃ W, w.alloc (.cells #[.int .i64 0, .int .i64 0, .int .i64 0] 64) = W := ⟨_, rfl⟩
  have hBW : Below w.heap.size w W := by rw [← hW]; exact al_belowN w _
  obtain ⟨u0, u1, u2⟩ : W.cell? ⟨w.heap.size, 0, none⟩ = some (.int .i64 0) ∧ W.cell? ⟨w.heap.size, 1, none⟩ = some (.int .i64 0) ∧ W.cell? ⟨w.heap.size, 2, none⟩ = some (.int .i64 0) := by rw [← hW]; exact al_new3
  have hIW := hI.stays hBW
  have HI : Hid (TsI b B1 B2 lv w0 t k W) := hIW
  have HK : Hid (KeepO b B1 B2 w W) := KeepO.of hBW
  have hsz : w.heap.size < W.heap.size := by rw [← hW]; simp
  have hm : ∀ (m : Bw W) (q j : Nat), q < W.heap.size → m.val.cell? ⟨q, j, none⟩ = W.cell? ⟨q, j, none⟩ := fun m q j hq => m.ok.cell hq
  have m0 := fun m : Bw W => (hm m w.heap.size 0 hsz).trans u0
  have m1 := fun m : Bw W => (hm m w.heap.size 1 hsz).trans u1
  have m2 := fun m : Bw W => (hm m w.heap.size 2 hsz).trans u2
  have mc := fun m : Bw W => (hm m b 1 hIW.at_.lt).trans hIW.at_.c1
  have hne0 := Bw.some W
  have c2 := hI.at_.c2
  have HW : Hid (w.alloc (.cells #[.int .i64 0, .int .i64 0, .int .i64 0] 64) = W) := hW
  have HAK : Hid (a ≤ 1048576 ∧ k ≤ 1048576) := ⟨ha, hk⟩
  have hlk : (t.loose : Int) ≤ 1048576 := by have := hI.ls; omega
  clear hM hn1 hW hBW hIW hm u0 u1 u2 hsz hI hx ha hk hN
  go_enter Try.func46, Try.ntmps46
  go_wp2_with fail
  rw [HW.out]
  clear hlook c2 HW
  go_wp2_with fail
  refine wp_region_bw (w0 := W) (by kernel_rfl) (by kernel_rfl) (Below.refl _ _) ?_
  repeat (go_big_quiet_step (fail))
  refine wpQuiet_nil ?_
  rintro _ ⟨mw, rfl⟩
  have hI2 := HI.out.stays mw.ok
  have HK2 : Hid (KeepO b B1 B2 w mw.val) := HK.out.trans (KeepO.of mw.ok)
  have d4 := hI2.at_.c4
  have f4 := hI2.at_.fz 4
  have HQ : Hid (TsI b B1 B2 lv w0 t.miss (k + 1) (mw.val.setCell ⟨b, 4, none⟩ (.int .i64 ((t.loose : Int) + 1))) ∧ KeepO b B1 B2 w (mw.val.setCell ⟨b, 4, none⟩ (.int .i64 ((t.loose : Int) + 1)))) := ⟨hI2.miss4, HK2.out.trans (hI2.keep 4 _)⟩
  clear hI2 m0 m1 m2 mc hne0
  generalize mw.val = w2 at *
  go_wp2_with fail
  refine bodyPost_ret (results_none rfl _ _ _) rfl ?_
  exact ⟨rfl, HQ.out⟩
set_option maxRecDepth 100000 in
set_option maxHeartbeats 8000000 in
theorem tie_old (b B1 B2 : Nat) (lv : Value) (w0 w : World) (t : Ti) (k : Nat) (x : ByteArray) (a : Nat) (n : Sp) (hN : t.named x = some n) (hO : n.at_ < t.root) (hI : TsI b B1 B2 lv w0 t k w) (hx : x.size ≤ 1073741824) (ha : a ≤ 1048576) (hk : k ≤ 1048576) :
    Calls Try.prog 46 #[.pointer (some ⟨b, 0, none⟩), .string x, .int .i64 (a : Int)] w fun e w' => e = .returned (.tuple #[]) ∧ TsI b B1 B2 lv w0 t.miss (k + 1) w' ∧ KeepO b B1 B2 w w' := by
  obtain ⟨n1, hn1, hM⟩ := hI.nm
  have hlook := hM.look_yes nkeyed Try.underlying59 (zeroSp w) (nkey_mk hx) hN
  unfold Sp.val at hlook
  obtain ⟨W, hW⟩ : ∃ W, w.alloc (.cells #[.int .i64 (n.at_ : Int), .int .i64 n.end_, .int .i64 n.up] 64) = W := ⟨_, rfl⟩
  have hBW : Below w.heap.size w W := by rw [← hW]; exact al_belowN w _
  obtain ⟨u0, u1, u2⟩ : W.cell? ⟨w.heap.size, 0, none⟩ = some (.int .i64 (n.at_ : Int)) ∧ W.cell? ⟨w.heap.size, 1, none⟩ = some (.int .i64 n.end_) ∧ W.cell? ⟨w.heap.size, 2, none⟩ = some (.int .i64 n.up) := by rw [← hW]; exact al_new3
  have hIW := hI.stays hBW
  have HI : Hid (TsI b B1 B2 lv w0 t k W) := hIW
  have HK : Hid (KeepO b B1 B2 w W) := KeepO.of hBW
  have hsz : w.heap.size < W.heap.size := by rw [← hW]; simp
  have hm : ∀ (m : Bw W) (q j : Nat), q < W.heap.size → m.val.cell? ⟨q, j, none⟩ = W.cell? ⟨q, j, none⟩ := fun m q j hq => m.ok.cell hq
  have m0 := fun m : Bw W => (hm m w.heap.size 0 hsz).trans u0
  have m1 := fun m : Bw W => (hm m w.heap.size 1 hsz).trans u1
  have m2 := fun m : Bw W => (hm m w.heap.size 2 hsz).trans u2
  have mc := fun m : Bw W => (hm m b 1 hIW.at_.lt).trans hIW.at_.c1
  have hne0 := Bw.some W
  have c2 := hI.at_.c2
  have HW : Hid (w.alloc (.cells #[.int .i64 (n.at_ : Int), .int .i64 n.end_, .int .i64 n.up] 64) = W) := hW
  have HAK : Hid (a ≤ 1048576 ∧ k ≤ 1048576) := ⟨ha, hk⟩
  have hlk : (t.loose : Int) ≤ 1048576 := by have := hI.ls; omega
  have hO' : (n.at_ : Int) < (t.root : Int) := by omega
  clear hO
  clear hM hn1 hW hBW hIW hm u0 u1 u2 hsz hI hx ha hk hN
  go_enter Try.func46, Try.ntmps46
  go_wp2_with fail
  rw [HW.out]
  clear hlook c2 HW
  go_wp2_with fail
  refine wp_region_bw (w0 := W) (by kernel_rfl) (by kernel_rfl) (Below.refl _ _) ?_
  repeat (go_big_quiet_step (fail))
  refine wpQuiet_nil ?_
  rintro _ ⟨mw, rfl⟩
  have hI2 := HI.out.stays mw.ok
  have HK2 : Hid (KeepO b B1 B2 w mw.val) := HK.out.trans (KeepO.of mw.ok)
  have d4 := hI2.at_.c4
  have f4 := hI2.at_.fz 4
  have HQ : Hid (TsI b B1 B2 lv w0 t.miss (k + 1) (mw.val.setCell ⟨b, 4, none⟩ (.int .i64 ((t.loose : Int) + 1))) ∧ KeepO b B1 B2 w (mw.val.setCell ⟨b, 4, none⟩ (.int .i64 ((t.loose : Int) + 1)))) := ⟨hI2.miss4, HK2.out.trans (hI2.keep 4 _)⟩
  clear hI2 m0 m1 m2 mc hne0 hO'
  generalize mw.val = w2 at *
  go_wp2_with fail
  refine bodyPost_ret (results_none rfl _ _ _) rfl ?_
  exact ⟨rfl, HQ.out⟩
set_option maxRecDepth 100000 in
set_option maxHeartbeats 8000000 in
theorem tie_open (b B1 B2 : Nat) (lv : Value) (w0 w : World) (t : Ti) (k : Nat) (x : ByteArray) (a : Nat) (n : Sp) (hN : t.named x = some n) (hO : ¬ n.at_ < t.root) (hR : ahead n (a : Int) = false) (hI : TsI b B1 B2 lv w0 t k w) (hx : x.size ≤ 1073741824) (ha : a ≤ 1048576) (hk : k ≤ 1048576) :
    Calls Try.prog 46 #[.pointer (some ⟨b, 0, none⟩), .string x, .int .i64 (a : Int)] w fun e w' => e = .returned (.tuple #[]) ∧ TsI b B1 B2 lv w0 t.miss (k + 1) w' ∧ KeepO b B1 B2 w w' := by
  obtain ⟨n1, hn1, hM⟩ := hI.nm
  have hlook := hM.look_yes nkeyed Try.underlying59 (zeroSp w) (nkey_mk hx) hN
  unfold Sp.val at hlook
  obtain ⟨W, hW⟩ : ∃ W, w.alloc (.cells #[.int .i64 (n.at_ : Int), .int .i64 n.end_, .int .i64 n.up] 64) = W := ⟨_, rfl⟩
  have hBW : Below w.heap.size w W := by rw [← hW]; exact al_belowN w _
  obtain ⟨u0, u1, u2⟩ : W.cell? ⟨w.heap.size, 0, none⟩ = some (.int .i64 (n.at_ : Int)) ∧ W.cell? ⟨w.heap.size, 1, none⟩ = some (.int .i64 n.end_) ∧ W.cell? ⟨w.heap.size, 2, none⟩ = some (.int .i64 n.up) := by rw [← hW]; exact al_new3
  have hIW := hI.stays hBW
  have HI : Hid (TsI b B1 B2 lv w0 t k W) := hIW
  have HK : Hid (KeepO b B1 B2 w W) := KeepO.of hBW
  have hsz : w.heap.size < W.heap.size := by rw [← hW]; simp
  have hm : ∀ (m : Bw W) (q j : Nat), q < W.heap.size → m.val.cell? ⟨q, j, none⟩ = W.cell? ⟨q, j, none⟩ := fun m q j hq => m.ok.cell hq
  have m0 := fun m : Bw W => (hm m w.heap.size 0 hsz).trans u0
  have m1 := fun m : Bw W => (hm m w.heap.size 1 hsz).trans u1
  have m2 := fun m : Bw W => (hm m w.heap.size 2 hsz).trans u2
  have mc := fun m : Bw W => (hm m b 1 hIW.at_.lt).trans hIW.at_.c1
  have hne0 := Bw.some W
  have c2 := hI.at_.c2
  have HW : Hid (w.alloc (.cells #[.int .i64 (n.at_ : Int), .int .i64 n.end_, .int .i64 n.up] 64) = W) := hW
  have HAK : Hid (a ≤ 1048576 ∧ k ≤ 1048576) := ⟨ha, hk⟩
  have hlk : (t.loose : Int) ≤ 1048576 := by have := hI.ls; omega
  have hA := Bw.calls (w := W) (fun w' _ => ahead_any n (a : Int) w')
  rw [hR] at hA
  unfold Sp.val at hA
  have hO' : decide ((n.at_ : Int) < (t.root : Int)) = false := decide_eq_false (by omega)
  have hO2 : ¬ (n.at_ : Int) < (t.root : Int) := by omega
  have hO3 : decide (n.at_ < t.root) = false := decide_eq_false hO
  clear hR
  clear hM hn1 hW hBW hIW hm u0 u1 u2 hsz hI hx ha hk hN
  go_enter Try.func46, Try.ntmps46
  go_wp2_with fail
  rw [HW.out]
  clear hlook c2 HW
  go_wp2_with fail
  refine wp_region_bw (w0 := W) (by kernel_rfl) (by kernel_rfl) (Below.refl _ _) ?_
  repeat (go_big_quiet_step ((go_at_call 55; exact hA _)))
  refine wpQuiet_nil ?_
  rintro _ ⟨mw, rfl⟩
  have hI2 := HI.out.stays mw.ok
  have HK2 : Hid (KeepO b B1 B2 w mw.val) := HK.out.trans (KeepO.of mw.ok)
  have d4 := hI2.at_.c4
  have f4 := hI2.at_.fz 4
  have HQ : Hid (TsI b B1 B2 lv w0 t.miss (k + 1) (mw.val.setCell ⟨b, 4, none⟩ (.int .i64 ((t.loose : Int) + 1))) ∧ KeepO b B1 B2 w (mw.val.setCell ⟨b, 4, none⟩ (.int .i64 ((t.loose : Int) + 1)))) := ⟨hI2.miss4, HK2.out.trans (hI2.keep 4 _)⟩
  clear hI2 m0 m1 m2 mc hne0 hO' hO2 hO3 hO hA
  generalize mw.val = w2 at *
  go_wp2_with fail
  refine bodyPost_ret (results_none rfl _ _ _) rfl ?_
  exact ⟨rfl, HQ.out⟩
set_option maxRecDepth 100000 in
set_option maxHeartbeats 8000000 in
theorem tie_put (b B1 B2 : Nat) (lv : Value) (w0 w : World) (t : Ti) (k : Nat) (x : ByteArray) (a : Nat) (n : Sp) (hN : t.named x = some n) (hO : ¬ n.at_ < t.root) (hR : ahead n (a : Int) = true) (hI : TsI b B1 B2 lv w0 t k w) (hx : x.size ≤ 1073741824) (ha : a ≤ 1048576) (hk : k ≤ 1048576) :
    Calls Try.prog 46 #[.pointer (some ⟨b, 0, none⟩), .string x, .int .i64 (a : Int)] w fun e w' => e = .returned (.tuple #[]) ∧ TsI b B1 B2 lv w0 { t with defs := putFn t.defs (a : Int) n.at_ } (k + 1) w' ∧ KeepO b B1 B2 w w' := by
  obtain ⟨n1, hn1, hM⟩ := hI.nm
  have hlook := hM.look_yes nkeyed Try.underlying59 (zeroSp w) (nkey_mk hx) hN
  unfold Sp.val at hlook
  obtain ⟨W, hW⟩ : ∃ W, w.alloc (.cells #[.int .i64 (n.at_ : Int), .int .i64 n.end_, .int .i64 n.up] 64) = W := ⟨_, rfl⟩
  have hBW : Below w.heap.size w W := by rw [← hW]; exact al_belowN w _
  obtain ⟨u0, u1, u2⟩ : W.cell? ⟨w.heap.size, 0, none⟩ = some (.int .i64 (n.at_ : Int)) ∧ W.cell? ⟨w.heap.size, 1, none⟩ = some (.int .i64 n.end_) ∧ W.cell? ⟨w.heap.size, 2, none⟩ = some (.int .i64 n.up) := by rw [← hW]; exact al_new3
  have hIW := hI.stays hBW
  have HI : Hid (TsI b B1 B2 lv w0 t k W) := hIW
  have HK : Hid (KeepO b B1 B2 w W) := KeepO.of hBW
  have hsz : w.heap.size < W.heap.size := by rw [← hW]; simp
  have hm : ∀ (m : Bw W) (q j : Nat), q < W.heap.size → m.val.cell? ⟨q, j, none⟩ = W.cell? ⟨q, j, none⟩ := fun m q j hq => m.ok.cell hq
  have m0 := fun m : Bw W => (hm m w.heap.size 0 hsz).trans u0
  have m1 := fun m : Bw W => (hm m w.heap.size 1 hsz).trans u1
  have m2 := fun m : Bw W => (hm m w.heap.size 2 hsz).trans u2
  have mc := fun m : Bw W => (hm m b 1 hIW.at_.lt).trans hIW.at_.c1
  have hne0 := Bw.some W
  have c2 := hI.at_.c2
  have HW : Hid (w.alloc (.cells #[.int .i64 (n.at_ : Int), .int .i64 n.end_, .int .i64 n.up] 64) = W) := hW
  have HAK : Hid (a ≤ 1048576 ∧ k ≤ 1048576) := ⟨ha, hk⟩
  have hlk : (t.loose : Int) ≤ 1048576 := by have := hI.ls; omega
  have hA := Bw.calls (w := W) (fun w' _ => ahead_any n (a : Int) w')
  rw [hR] at hA
  unfold Sp.val at hA
  have hO' : decide ((n.at_ : Int) < (t.root : Int)) = false := decide_eq_false (by omega)
  have hO2 : ¬ (n.at_ : Int) < (t.root : Int) := by omega
  have hO3 : decide (n.at_ < t.root) = false := decide_eq_false hO
  clear hR
  clear hM hn1 hW hBW hIW hm u0 u1 u2 hsz hI hx ha hk hN
  go_enter Try.func46, Try.ntmps46
  go_wp2_with fail
  rw [HW.out]
  clear hlook c2 HW
  go_wp2_with fail
  refine wp_region_bw (w0 := W) (by kernel_rfl) (by kernel_rfl) (Below.refl _ _) ?_
  repeat (go_big_quiet_step ((go_at_call 55; exact hA _)))
  refine wpQuiet_nil ?_
  rintro _ ⟨mw, rfl⟩
  have hI2 := HI.out.stays mw.ok
  have HK2 : Hid (KeepO b B1 B2 w mw.val) := HK.out.trans (KeepO.of mw.ok)
  have d0 := m0 mw
  have d3 := hI2.at_.c3
  obtain ⟨w3, hup, hI3, hK3⟩ := (hI2.stays ((Below.refl _ mw.val).drew)).putD a n.at_ (by have := HAK.out; omega) (by have := HAK.out; omega)
  have HQ : Hid (TsI b B1 B2 lv w0 { t with defs := putFn t.defs (a : Int) n.at_ } (k + 1) w3 ∧ KeepO b B1 B2 w w3) := ⟨hI3, (HK2.out.trans (KeepO.of ((Below.refl _ mw.val).drew))).trans hK3⟩
  clear hI2 m0 m1 m2 mc hne0 hA hI3 hK3
  generalize mw.val = w2 at *
  go_wp2_with fail
  go_region
  all_goals (
    clear hup d0 d3
    go_wp2_with fail
    go_end0
    exact ⟨rfl, HQ.out⟩)
theorem tie_any (b B1 B2 : Nat) (lv : Value) (w0 w : World) (t : Ti) (k : Nat) (x : ByteArray) (a : Nat) (hI : TsI b B1 B2 lv w0 t k w) (hx : x.size ≤ 1073741824) (ha : a ≤ 1048576) (hk : k ≤ 1048576) :
    Calls Try.prog 46 #[.pointer (some ⟨b, 0, none⟩), .string x, .int .i64 (a : Int)] w fun e w' => e = .returned (.tuple #[]) ∧ TsI b B1 B2 lv w0 (t.tie x a) (k + 1) w' ∧ KeepO b B1 B2 w w' := by
  unfold Ti.tie
  cases hN : t.named x with
  | none => exact tie_none b B1 B2 lv w0 w t k x a hN hI hx ha hk
  | some n =>
    simp only []
    by_cases hO : n.at_ < t.root
    · rw [if_pos (.inl hO)]
      exact tie_old b B1 B2 lv w0 w t k x a n hN hO hI hx ha hk
    · cases hR : ahead n (a : Int) with
      | false =>
        rw [if_pos (.inr rfl)]
        exact tie_open b B1 B2 lv w0 w t k x a n hN hO hR hI hx ha hk
      | true =>
        rw [if_neg (fun h => h.elim hO (fun h => by cases h))]
        exact tie_put b B1 B2 lv w0 w t k x a n hN hO hR hI hx ha hk
end Go.Proofs.Ytmbbmibkjnlkkaa
/- impl's ties: take, a case. -/
namespace Go.Proofs.Ytmbbmibkjnlkkaa
open Go.ChangeShapes Go.WideShapes Go.ChangeAt Go.RowKit Go.Maps
set_option maxRecDepth 100000 in
set_option maxHeartbeats 8000000 in
theorem take_no_alias (b B1 B2 : Nat) (lv : Value) (w0 w : World) (t : Ti) (k : Nat) (es : List Ev) (n : Sp) (e : Ev) (hS : SlE w0 lv es) (hl : totE es + es.length ≤ 1048576) (he : es[n.at_]? = some e) (hI : TsI b B1 B2 lv w0 t k w) (hk : k ≤ 1048576) (hu : n.up ≠ -1) (h6 : e.kind = 6) :
    Calls Try.prog 34 #[.pointer (some ⟨b, 0, none⟩), n.val] w fun r w' => r = .returned (.tuple #[]) ∧ TsI b B1 B2 lv w0 (Ti.tie t e.text n.at_) (k + 1) w' ∧ KeepO b B1 B2 w w' := by
  obtain ⟨W, hW⟩ : ∃ W, w.alloc (.cells #[.int .i64 (n.at_ : Int), .int .i64 n.end_, .int .i64 n.up] 64) = W := ⟨_, rfl⟩
  have hBW : Below w.heap.size w W := by rw [← hW]; exact al_belowN w _
  have hnew : W.heap[w.heap.size]? = some (.cells #[.int .i64 (n.at_ : Int), .int .i64 n.end_, .int .i64 n.up] 64 (0, 0)) := by rw [← hW]; exact heap_alloc_new w _
  have u0 : W.cell? ⟨w.heap.size, 0, none⟩ = some (.int .i64 (n.at_ : Int)) := Lib.cell_of_heap hnew 0
  have u2 : W.cell? ⟨w.heap.size, 2, none⟩ = some (.int .i64 n.up) := Lib.cell_of_heap hnew 2
  have hIW := hI.stays hBW
  have nb : w.heap.size ≠ b := by have := hI.at_.lt; omega
  have nb' : b ≠ w.heap.size := Ne.symm nb
  have HB0 : Hid (w0.heap.size ≤ w.heap.size) := hI.below.size
  have HW : Hid (w.alloc (.cells #[.int .i64 (n.at_ : Int), .int .i64 n.end_, .int .i64 n.up] 64) = W) := hW
  have tu : (n.up == -1) = false := by rw [beq_eq_false_iff_ne]; exact hu
  obtain ⟨V, hV⟩ : ∃ V, W = V := ⟨_, rfl⟩
  have v0 : V.cell? ⟨w.heap.size, 0, none⟩ = some (.int .i64 (n.at_ : Int)) := by rw [← hV]; exact u0
  have HV1 : Hid (V.cell? ⟨w.heap.size, 1, none⟩ = some (.int .i64 n.end_)) := by show _ = _; rw [← hV]; exact Lib.cell_of_heap hnew 1
  have HV2 : Hid (V.cell? ⟨w.heap.size, 2, none⟩ = some (.int .i64 n.up)) := by show _ = _; rw [← hV]; exact u2
  have HVS : Hid (w.heap.size < V.heap.size) := by show _ < _; rw [← hV, ← hW]; simp
  have HIV : Hid (TsI b B1 B2 lv w0 t k V) := by rw [← hV]; exact hIW
  have HKV : Hid (KeepO b B1 B2 w V) := by rw [← hV]; exact KeepO.of hBW
  have HVV : Hid (W = V) := hV
  clear hV
  have htot := totE_mem (List.mem_of_getElem? he)
  have HTX : Hid (e.text.size ≤ 1073741824 ∧ e.anchor.size ≤ 1073741824 ∧ n.at_ ≤ 1048576 ∧ k ≤ 1048576) := by
    have := (List.getElem?_eq_some_iff.1 he).1
    unfold Ev.tot at htot
    exact ⟨by omega, by omega, by omega, hk⟩
  obtain ⟨la, lc, rfl⟩ := hS.sl
  obtain ⟨bb, off, rfl, hbb, ⟨c0, c1, c2, c3, c4, c5, c6, c7⟩⟩ := hS.at HIV.out.below he
  have hlt' : (n.at_ : Int) < (es.length : Int) := by have := (List.getElem?_eq_some_iff.1 he).1; omega
  have hle : (es.length : Int) ≤ 1048576 := by omega
  have d0 := HIV.out.at_.c0
  unfold Sp.val
  obtain ⟨kind, style, flag, text, anchor, tag, at_, code⟩ := e
  simp only at c0 c1 c2 c3 c4 c5 c6 c7 HTX h6
  subst h6
  obtain ⟨X, hX⟩ : ∃ X, (V.alloc (.cells #[.int .i64 6, .int .i64 style, .bool flag, .string text, .string anchor, .string tag, .int .i64 at_, .int .i64 code] 38)).drew = X := ⟨_, rfl⟩
  have hBX : Below V.heap.size V X := by rw [← hX]; exact (al_belowN V _).drew
  have hnX : X.heap[V.heap.size]? = some (.cells #[.int .i64 6, .int .i64 style, .bool flag, .string text, .string anchor, .string tag, .int .i64 at_, .int .i64 code] 38 (0, 0)) := by rw [← hX]; exact heap_alloc_new V _
  obtain ⟨x0, x1, x2, x3, x4, x5, x6, x7⟩ := ev_at hnX
  have y0 : X.cell? ⟨w.heap.size, 0, none⟩ = some (.int .i64 (n.at_ : Int)) := by rw [hBX.cell (by have := HVS.out; omega)]; exact v0
  have y1 : X.cell? ⟨w.heap.size, 1, none⟩ = some (.int .i64 n.end_) := by rw [hBX.cell (by have := HVS.out; omega)]; exact HV1.out
  have y2 : X.cell? ⟨w.heap.size, 2, none⟩ = some (.int .i64 n.up) := by rw [hBX.cell (by have := HVS.out; omega)]; exact HV2.out
  have HIX : Hid (TsI b B1 B2 (.slice (some ⟨bb, off, none⟩) es.length lc) w0 t k X) := HIV.out.stays hBX
  have HKX : Hid (KeepO b B1 B2 w X) := HKV.out.trans (KeepO.of hBX)
  have HX : Hid ((V.alloc (.cells #[.int .i64 6, .int .i64 style, .bool flag, .string text, .string anchor, .string tag, .int .i64 at_, .int .i64 code] 38)).drew = X) := hX
  obtain ⟨Z, hZ⟩ : ∃ Z, V.alloc (.cells #[.int .i64 0, .int .i64 0, .bool false, .string ⟨#[]⟩, .string ⟨#[]⟩, .string ⟨#[]⟩, .int .i64 0, .int .i64 0] 38) = Z := ⟨_, rfl⟩
  have hBZ : Below V.heap.size V Z := by rw [← hZ]; exact al_belowN V _
  have hbV : bb < V.heap.size := Nat.lt_of_lt_of_le hbb HIV.out.below.size
  have z0 : Z.cell? _ = _ := (hBZ.cell hbV).trans c0
  have z1 : Z.cell? _ = _ := (hBZ.cell hbV).trans c1
  have z2 : Z.cell? _ = _ := (hBZ.cell hbV).trans c2
  have z3 : Z.cell? _ = _ := (hBZ.cell hbV).trans c3
  have z4 : Z.cell? _ = _ := (hBZ.cell hbV).trans c4
  have z5 : Z.cell? _ = _ := (hBZ.cell hbV).trans c5
  have z6 : Z.cell? _ = _ := (hBZ.cell hbV).trans c6
  have z7 : Z.cell? _ = _ := (hBZ.cell hbV).trans c7
  have zd : Z.cell? _ = _ := (hBZ.cell HIV.out.at_.lt).trans d0
  have zv : Z.cell? _ = _ := (hBZ.cell HVS.out).trans v0
  rw [← hZ] at z0 z1 z2 z3 z4 z5 z6 z7 zd zv
  clear hS hl he hI hk hW hBW hnew hIW htot hbb hX hBX hnX HV1 HV2 hZ hBZ hbV
  go_enter Try.func34, Try.ntmps34
  go_wp2_with fail
  rw [HW.out]
  go_wp2_with fail
  rw [HVV.out]
  clear u0 u2 HVV HW

  go_region
  all_goals (
    rw [HX.out]
    clear c0 c1 c2 c3 c4 c5 c6 c7 d0 v0 HX z0 z1 z2 z3 z4 z5 z6 z7 zd zv
    have cT := tie_any b B1 B2 _ w0 X _ k text n.at_ HIX.out HTX.out.1 HTX.out.2.2.1 HTX.out.2.2.2
    go_wp2_with fail
    refine cT.mono ?_
    rintro r w2 ⟨rfl, h2, k2⟩
    have HQ : Hid (TsI b B1 B2 (.slice (some ⟨bb, off, none⟩) es.length lc) w0 (Ti.tie t text n.at_) (k + 1) w2 ∧ KeepO b B1 B2 w w2) := ⟨h2, HKX.out.trans k2⟩
    clear cT h2 k2 x0 x1 x2 x3 x4 x5 x6 x7 y0 y1 y2
    go_wp2_with fail
    go_end0
    exact ⟨rfl, HQ.out⟩)
end Go.Proofs.Ytmbbmibkjnlkkaa
/- impl's ties: take, a case. -/
namespace Go.Proofs.Ytmbbmibkjnlkkaa
open Go.ChangeShapes Go.WideShapes Go.ChangeAt Go.RowKit Go.Maps
set_option maxRecDepth 100000 in
set_option maxHeartbeats 8000000 in
theorem take_no_name (b B1 B2 : Nat) (lv : Value) (w0 w : World) (t : Ti) (k : Nat) (es : List Ev) (n : Sp) (e : Ev) (hS : SlE w0 lv es) (hl : totE es + es.length ≤ 1048576) (he : es[n.at_]? = some e) (hI : TsI b B1 B2 lv w0 t k w) (hk : k ≤ 1048576) (hu : n.up ≠ -1) (h6 : ¬ e.kind = 6) (ha : e.anchor.toList ≠ []) :
    Calls Try.prog 34 #[.pointer (some ⟨b, 0, none⟩), n.val] w fun r w' => r = .returned (.tuple #[]) ∧ TsI b B1 B2 lv w0 (Ti.name t e.anchor n) (k + 1) w' ∧ KeepO b B1 B2 w w' := by
  obtain ⟨W, hW⟩ : ∃ W, w.alloc (.cells #[.int .i64 (n.at_ : Int), .int .i64 n.end_, .int .i64 n.up] 64) = W := ⟨_, rfl⟩
  have hBW : Below w.heap.size w W := by rw [← hW]; exact al_belowN w _
  have hnew : W.heap[w.heap.size]? = some (.cells #[.int .i64 (n.at_ : Int), .int .i64 n.end_, .int .i64 n.up] 64 (0, 0)) := by rw [← hW]; exact heap_alloc_new w _
  have u0 : W.cell? ⟨w.heap.size, 0, none⟩ = some (.int .i64 (n.at_ : Int)) := Lib.cell_of_heap hnew 0
  have u2 : W.cell? ⟨w.heap.size, 2, none⟩ = some (.int .i64 n.up) := Lib.cell_of_heap hnew 2
  have hIW := hI.stays hBW
  have nb : w.heap.size ≠ b := by have := hI.at_.lt; omega
  have nb' : b ≠ w.heap.size := Ne.symm nb
  have HB0 : Hid (w0.heap.size ≤ w.heap.size) := hI.below.size
  have HW : Hid (w.alloc (.cells #[.int .i64 (n.at_ : Int), .int .i64 n.end_, .int .i64 n.up] 64) = W) := hW
  have tu : (n.up == -1) = false := by rw [beq_eq_false_iff_ne]; exact hu
  obtain ⟨V, hV⟩ : ∃ V, W = V := ⟨_, rfl⟩
  have v0 : V.cell? ⟨w.heap.size, 0, none⟩ = some (.int .i64 (n.at_ : Int)) := by rw [← hV]; exact u0
  have HV1 : Hid (V.cell? ⟨w.heap.size, 1, none⟩ = some (.int .i64 n.end_)) := by show _ = _; rw [← hV]; exact Lib.cell_of_heap hnew 1
  have HV2 : Hid (V.cell? ⟨w.heap.size, 2, none⟩ = some (.int .i64 n.up)) := by show _ = _; rw [← hV]; exact u2
  have HVS : Hid (w.heap.size < V.heap.size) := by show _ < _; rw [← hV, ← hW]; simp
  have HIV : Hid (TsI b B1 B2 lv w0 t k V) := by rw [← hV]; exact hIW
  have HKV : Hid (KeepO b B1 B2 w V) := by rw [← hV]; exact KeepO.of hBW
  have HVV : Hid (W = V) := hV
  clear hV
  have htot := totE_mem (List.mem_of_getElem? he)
  have HTX : Hid (e.text.size ≤ 1073741824 ∧ e.anchor.size ≤ 1073741824 ∧ n.at_ ≤ 1048576 ∧ k ≤ 1048576) := by
    have := (List.getElem?_eq_some_iff.1 he).1
    unfold Ev.tot at htot
    exact ⟨by omega, by omega, by omega, hk⟩
  obtain ⟨la, lc, rfl⟩ := hS.sl
  obtain ⟨bb, off, rfl, hbb, ⟨c0, c1, c2, c3, c4, c5, c6, c7⟩⟩ := hS.at HIV.out.below he
  have hlt' : (n.at_ : Int) < (es.length : Int) := by have := (List.getElem?_eq_some_iff.1 he).1; omega
  have hle : (es.length : Int) ≤ 1048576 := by omega
  have d0 := HIV.out.at_.c0
  unfold Sp.val
  obtain ⟨kind, style, flag, text, anchor, tag, at_, code⟩ := e
  simp only at c0 c1 c2 c3 c4 c5 c6 c7 HTX h6 ha
  have t6 : (kind == 6) = false := by rw [beq_eq_false_iff_ne]; exact h6
  have hie : anchor.toList.isEmpty = false := by cases hh : anchor.toList with | nil => exact absurd hh ha | cons _ _ => rfl
  have hne : (anchor.toList == []) = false := by rw [beq_eq_false_iff_ne]; exact ha
  obtain ⟨X, hX⟩ : ∃ X, (V.alloc (.cells #[.int .i64 kind, .int .i64 style, .bool flag, .string text, .string anchor, .string tag, .int .i64 at_, .int .i64 code] 38)).drew = X := ⟨_, rfl⟩
  have hBX : Below V.heap.size V X := by rw [← hX]; exact (al_belowN V _).drew
  have hnX : X.heap[V.heap.size]? = some (.cells #[.int .i64 kind, .int .i64 style, .bool flag, .string text, .string anchor, .string tag, .int .i64 at_, .int .i64 code] 38 (0, 0)) := by rw [← hX]; exact heap_alloc_new V _
  obtain ⟨x0, x1, x2, x3, x4, x5, x6, x7⟩ := ev_at hnX
  have y0 : X.cell? ⟨w.heap.size, 0, none⟩ = some (.int .i64 (n.at_ : Int)) := by rw [hBX.cell (by have := HVS.out; omega)]; exact v0
  have y1 : X.cell? ⟨w.heap.size, 1, none⟩ = some (.int .i64 n.end_) := by rw [hBX.cell (by have := HVS.out; omega)]; exact HV1.out
  have y2 : X.cell? ⟨w.heap.size, 2, none⟩ = some (.int .i64 n.up) := by rw [hBX.cell (by have := HVS.out; omega)]; exact HV2.out
  have HIX : Hid (TsI b B1 B2 (.slice (some ⟨bb, off, none⟩) es.length lc) w0 t k X) := HIV.out.stays hBX
  have HKX : Hid (KeepO b B1 B2 w X) := HKV.out.trans (KeepO.of hBX)
  have HX : Hid ((V.alloc (.cells #[.int .i64 kind, .int .i64 style, .bool flag, .string text, .string anchor, .string tag, .int .i64 at_, .int .i64 code] 38)).drew = X) := hX
  obtain ⟨Z, hZ⟩ : ∃ Z, V.alloc (.cells #[.int .i64 0, .int .i64 0, .bool false, .string ⟨#[]⟩, .string ⟨#[]⟩, .string ⟨#[]⟩, .int .i64 0, .int .i64 0] 38) = Z := ⟨_, rfl⟩
  have hBZ : Below V.heap.size V Z := by rw [← hZ]; exact al_belowN V _
  have hbV : bb < V.heap.size := Nat.lt_of_lt_of_le hbb HIV.out.below.size
  have z0 : Z.cell? _ = _ := (hBZ.cell hbV).trans c0
  have z1 : Z.cell? _ = _ := (hBZ.cell hbV).trans c1
  have z2 : Z.cell? _ = _ := (hBZ.cell hbV).trans c2
  have z3 : Z.cell? _ = _ := (hBZ.cell hbV).trans c3
  have z4 : Z.cell? _ = _ := (hBZ.cell hbV).trans c4
  have z5 : Z.cell? _ = _ := (hBZ.cell hbV).trans c5
  have z6 : Z.cell? _ = _ := (hBZ.cell hbV).trans c6
  have z7 : Z.cell? _ = _ := (hBZ.cell hbV).trans c7
  have zd : Z.cell? _ = _ := (hBZ.cell HIV.out.at_.lt).trans d0
  have zv : Z.cell? _ = _ := (hBZ.cell HVS.out).trans v0
  rw [← hZ] at z0 z1 z2 z3 z4 z5 z6 z7 zd zv
  clear hS hl he hI hk hW hBW hnew hIW htot hbb hX hBX hnX HV1 HV2 hZ hBZ hbV
  go_enter Try.func34, Try.ntmps34
  go_wp2_with fail
  rw [HW.out]
  go_wp2_with fail
  rw [HVV.out]
  clear u0 u2 HVV HW

  go_region
  all_goals (
    rw [HX.out]
    clear c0 c1 c2 c3 c4 c5 c6 c7 d0 v0 HX z0 z1 z2 z3 z4 z5 z6 z7 zd zv
    obtain ⟨w3, hup, h3, k3⟩ := (HIX.out.stays ((Below.refl X.heap.size X).drew)).putN anchor n HTX.out.2.1 (by have := HTX.out.2.2.2; omega)
    unfold Sp.val at hup
    have HQ : Hid (TsI b B1 B2 (.slice (some ⟨bb, off, none⟩) es.length lc) w0 (Ti.name t anchor n) (k + 1) w3 ∧ KeepO b B1 B2 w w3) := ⟨h3, (HKX.out.trans (KeepO.of ((Below.refl X.heap.size X).drew))).trans k3⟩
    have zz : X.cell? ⟨b, 2, none⟩ = some (.map (some B1)) := HIX.out.at_.c2
    clear h3 k3
    go_wp2_with fail
    go_region
    all_goals (
      clear hup zz x0 x1 x2 x3 x4 x5 x6 x7 y0 y1 y2
      go_wp2_with fail
      go_end0
      exact ⟨rfl, HQ.out⟩))
end Go.Proofs.Ytmbbmibkjnlkkaa
/- impl's ties: take, a case. -/
namespace Go.Proofs.Ytmbbmibkjnlkkaa
open Go.ChangeShapes Go.WideShapes Go.ChangeAt Go.RowKit Go.Maps
set_option maxRecDepth 100000 in
set_option maxHeartbeats 8000000 in
theorem take_no_bare (b B1 B2 : Nat) (lv : Value) (w0 w : World) (t : Ti) (k : Nat) (es : List Ev) (n : Sp) (e : Ev) (hS : SlE w0 lv es) (hl : totE es + es.length ≤ 1048576) (he : es[n.at_]? = some e) (hI : TsI b B1 B2 lv w0 t k w) (hk : k ≤ 1048576) (hu : n.up ≠ -1) (h6 : ¬ e.kind = 6) (ha : e.anchor.toList = []) :
    Calls Try.prog 34 #[.pointer (some ⟨b, 0, none⟩), n.val] w fun r w' => r = .returned (.tuple #[]) ∧ TsI b B1 B2 lv w0 t (k + 1) w' ∧ KeepO b B1 B2 w w' := by
  obtain ⟨W, hW⟩ : ∃ W, w.alloc (.cells #[.int .i64 (n.at_ : Int), .int .i64 n.end_, .int .i64 n.up] 64) = W := ⟨_, rfl⟩
  have hBW : Below w.heap.size w W := by rw [← hW]; exact al_belowN w _
  have hnew : W.heap[w.heap.size]? = some (.cells #[.int .i64 (n.at_ : Int), .int .i64 n.end_, .int .i64 n.up] 64 (0, 0)) := by rw [← hW]; exact heap_alloc_new w _
  have u0 : W.cell? ⟨w.heap.size, 0, none⟩ = some (.int .i64 (n.at_ : Int)) := Lib.cell_of_heap hnew 0
  have u2 : W.cell? ⟨w.heap.size, 2, none⟩ = some (.int .i64 n.up) := Lib.cell_of_heap hnew 2
  have hIW := hI.stays hBW
  have nb : w.heap.size ≠ b := by have := hI.at_.lt; omega
  have nb' : b ≠ w.heap.size := Ne.symm nb
  have HB0 : Hid (w0.heap.size ≤ w.heap.size) := hI.below.size
  have HW : Hid (w.alloc (.cells #[.int .i64 (n.at_ : Int), .int .i64 n.end_, .int .i64 n.up] 64) = W) := hW
  have tu : (n.up == -1) = false := by rw [beq_eq_false_iff_ne]; exact hu
  obtain ⟨V, hV⟩ : ∃ V, W = V := ⟨_, rfl⟩
  have v0 : V.cell? ⟨w.heap.size, 0, none⟩ = some (.int .i64 (n.at_ : Int)) := by rw [← hV]; exact u0
  have HV1 : Hid (V.cell? ⟨w.heap.size, 1, none⟩ = some (.int .i64 n.end_)) := by show _ = _; rw [← hV]; exact Lib.cell_of_heap hnew 1
  have HV2 : Hid (V.cell? ⟨w.heap.size, 2, none⟩ = some (.int .i64 n.up)) := by show _ = _; rw [← hV]; exact u2
  have HVS : Hid (w.heap.size < V.heap.size) := by show _ < _; rw [← hV, ← hW]; simp
  have HIV : Hid (TsI b B1 B2 lv w0 t k V) := by rw [← hV]; exact hIW
  have HKV : Hid (KeepO b B1 B2 w V) := by rw [← hV]; exact KeepO.of hBW
  have HVV : Hid (W = V) := hV
  clear hV
  have htot := totE_mem (List.mem_of_getElem? he)
  have HTX : Hid (e.text.size ≤ 1073741824 ∧ e.anchor.size ≤ 1073741824 ∧ n.at_ ≤ 1048576 ∧ k ≤ 1048576) := by
    have := (List.getElem?_eq_some_iff.1 he).1
    unfold Ev.tot at htot
    exact ⟨by omega, by omega, by omega, hk⟩
  obtain ⟨la, lc, rfl⟩ := hS.sl
  obtain ⟨bb, off, rfl, hbb, ⟨c0, c1, c2, c3, c4, c5, c6, c7⟩⟩ := hS.at HIV.out.below he
  have hlt' : (n.at_ : Int) < (es.length : Int) := by have := (List.getElem?_eq_some_iff.1 he).1; omega
  have hle : (es.length : Int) ≤ 1048576 := by omega
  have d0 := HIV.out.at_.c0
  unfold Sp.val
  obtain ⟨kind, style, flag, text, anchor, tag, at_, code⟩ := e
  simp only at c0 c1 c2 c3 c4 c5 c6 c7 HTX h6 ha
  have t6 : (kind == 6) = false := by rw [beq_eq_false_iff_ne]; exact h6
  obtain ⟨X, hX⟩ : ∃ X, (V.alloc (.cells #[.int .i64 kind, .int .i64 style, .bool flag, .string text, .string anchor, .string tag, .int .i64 at_, .int .i64 code] 38)).drew = X := ⟨_, rfl⟩
  have hBX : Below V.heap.size V X := by rw [← hX]; exact (al_belowN V _).drew
  have hnX : X.heap[V.heap.size]? = some (.cells #[.int .i64 kind, .int .i64 style, .bool flag, .string text, .string anchor, .string tag, .int .i64 at_, .int .i64 code] 38 (0, 0)) := by rw [← hX]; exact heap_alloc_new V _
  obtain ⟨x0, x1, x2, x3, x4, x5, x6, x7⟩ := ev_at hnX
  have y0 : X.cell? ⟨w.heap.size, 0, none⟩ = some (.int .i64 (n.at_ : Int)) := by rw [hBX.cell (by have := HVS.out; omega)]; exact v0
  have y1 : X.cell? ⟨w.heap.size, 1, none⟩ = some (.int .i64 n.end_) := by rw [hBX.cell (by have := HVS.out; omega)]; exact HV1.out
  have y2 : X.cell? ⟨w.heap.size, 2, none⟩ = some (.int .i64 n.up) := by rw [hBX.cell (by have := HVS.out; omega)]; exact HV2.out
  have HIX : Hid (TsI b B1 B2 (.slice (some ⟨bb, off, none⟩) es.length lc) w0 t k X) := HIV.out.stays hBX
  have HKX : Hid (KeepO b B1 B2 w X) := HKV.out.trans (KeepO.of hBX)
  have HX : Hid ((V.alloc (.cells #[.int .i64 kind, .int .i64 style, .bool flag, .string text, .string anchor, .string tag, .int .i64 at_, .int .i64 code] 38)).drew = X) := hX
  obtain ⟨Z, hZ⟩ : ∃ Z, V.alloc (.cells #[.int .i64 0, .int .i64 0, .bool false, .string ⟨#[]⟩, .string ⟨#[]⟩, .string ⟨#[]⟩, .int .i64 0, .int .i64 0] 38) = Z := ⟨_, rfl⟩
  have hBZ : Below V.heap.size V Z := by rw [← hZ]; exact al_belowN V _
  have hbV : bb < V.heap.size := Nat.lt_of_lt_of_le hbb HIV.out.below.size
  have z0 : Z.cell? _ = _ := (hBZ.cell hbV).trans c0
  have z1 : Z.cell? _ = _ := (hBZ.cell hbV).trans c1
  have z2 : Z.cell? _ = _ := (hBZ.cell hbV).trans c2
  have z3 : Z.cell? _ = _ := (hBZ.cell hbV).trans c3
  have z4 : Z.cell? _ = _ := (hBZ.cell hbV).trans c4
  have z5 : Z.cell? _ = _ := (hBZ.cell hbV).trans c5
  have z6 : Z.cell? _ = _ := (hBZ.cell hbV).trans c6
  have z7 : Z.cell? _ = _ := (hBZ.cell hbV).trans c7
  have zd : Z.cell? _ = _ := (hBZ.cell HIV.out.at_.lt).trans d0
  have zv : Z.cell? _ = _ := (hBZ.cell HVS.out).trans v0
  rw [← hZ] at z0 z1 z2 z3 z4 z5 z6 z7 zd zv
  clear hS hl he hI hk hW hBW hnew hIW htot hbb hX hBX hnX HV1 HV2 hZ hBZ hbV
  go_enter Try.func34, Try.ntmps34
  go_wp2_with fail
  rw [HW.out]
  go_wp2_with fail
  rw [HVV.out]
  clear u0 u2 HVV HW

  go_region
  all_goals (
    rw [HX.out]
    clear c0 c1 c2 c3 c4 c5 c6 c7 d0 v0 HX z0 z1 z2 z3 z4 z5 z6 z7 zd zv
    have HQ : Hid (TsI b B1 B2 (.slice (some ⟨bb, off, none⟩) es.length lc) w0 t (k + 1) X ∧ KeepO b B1 B2 w X) := ⟨HIX.out.more, HKX.out⟩
    go_wp2_with fail
    go_end0
    exact ⟨rfl, HQ.out⟩)
end Go.Proofs.Ytmbbmibkjnlkkaa
/- impl's ties: take, a case. -/
namespace Go.Proofs.Ytmbbmibkjnlkkaa
open Go.ChangeShapes Go.WideShapes Go.ChangeAt Go.RowKit Go.Maps
set_option maxRecDepth 100000 in
set_option maxHeartbeats 8000000 in
theorem take_yes_alias (b B1 B2 : Nat) (lv : Value) (w0 w : World) (t : Ti) (k : Nat) (es : List Ev) (n : Sp) (e : Ev) (hS : SlE w0 lv es) (hl : totE es + es.length ≤ 1048576) (he : es[n.at_]? = some e) (hI : TsI b B1 B2 lv w0 t k w) (hk : k ≤ 1048576) (hu : n.up = -1) (h6 : e.kind = 6) :
    Calls Try.prog 34 #[.pointer (some ⟨b, 0, none⟩), n.val] w fun r w' => r = .returned (.tuple #[]) ∧ TsI b B1 B2 lv w0 (Ti.tie { t with root := n.at_ } e.text n.at_) (k + 1) w' ∧ KeepO b B1 B2 w w' := by
  obtain ⟨W, hW⟩ : ∃ W, w.alloc (.cells #[.int .i64 (n.at_ : Int), .int .i64 n.end_, .int .i64 (-1)] 64) = W := ⟨_, rfl⟩
  have hBW : Below w.heap.size w W := by rw [← hW]; exact al_belowN w _
  have hnew : W.heap[w.heap.size]? = some (.cells #[.int .i64 (n.at_ : Int), .int .i64 n.end_, .int .i64 (-1)] 64 (0, 0)) := by rw [← hW]; exact heap_alloc_new w _
  have u0 : W.cell? ⟨w.heap.size, 0, none⟩ = some (.int .i64 (n.at_ : Int)) := Lib.cell_of_heap hnew 0
  have u2 : W.cell? ⟨w.heap.size, 2, none⟩ = some (.int .i64 (-1)) := Lib.cell_of_heap hnew 2
  have hIW := hI.stays hBW
  have nb : w.heap.size ≠ b := by have := hI.at_.lt; omega
  have nb' : b ≠ w.heap.size := Ne.symm nb
  have HB0 : Hid (w0.heap.size ≤ w.heap.size) := hI.below.size
  have HW : Hid (w.alloc (.cells #[.int .i64 (n.at_ : Int), .int .i64 n.end_, .int .i64 (-1)] 64) = W) := hW
  have HUU : Hid (n.up = -1) := hu
  clear hu
  have f1 := hIW.at_.fz 1
  have g1 := hIW.at_.c1
  obtain ⟨V, hV⟩ : ∃ V, W.setCell ⟨b, 1, none⟩ (.int .i64 (n.at_ : Int)) = V := ⟨_, rfl⟩
  have hcl : ∀ j, V.cell? ⟨w.heap.size, j, none⟩ = W.cell? ⟨w.heap.size, j, none⟩ := fun j => by rw [← hV]; exact World.cell?_setCell_other _ _ _ _ (by intro e; injection e with e _; exact nb e.symm)
  have v0 : V.cell? ⟨w.heap.size, 0, none⟩ = some (.int .i64 (n.at_ : Int)) := by rw [hcl]; exact u0
  have HV1 : Hid (V.cell? ⟨w.heap.size, 1, none⟩ = some (.int .i64 n.end_)) := by show _ = _; rw [hcl]; exact Lib.cell_of_heap hnew 1
  have HV2 : Hid (V.cell? ⟨w.heap.size, 2, none⟩ = some (.int .i64 (-1))) := by show _ = _; rw [hcl]; exact u2
  have HVS : Hid (w.heap.size < V.heap.size) := by show _ < _; rw [← hV, ← hW]; simp [World.setCell]
  have HIV : Hid (TsI b B1 B2 lv w0 { t with root := n.at_ } k V) := by
    rw [← hV]
    exact hIW.cell (t' := { t with root := n.at_ }) (hIW.at_.set1 n.at_) rfl rfl (Nat.le_refl k) hIW.ls
  have HKV : Hid (KeepO b B1 B2 w V) := by rw [← hV]; exact (KeepO.of hBW).trans (hIW.keep 1 _)
  have HVV : Hid (W.setCell ⟨b, 1, none⟩ (.int .i64 (n.at_ : Int)) = V) := hV
  rw [← hW] at f1 g1
  clear hV hcl
  have htot := totE_mem (List.mem_of_getElem? he)
  have HTX : Hid (e.text.size ≤ 1073741824 ∧ e.anchor.size ≤ 1073741824 ∧ n.at_ ≤ 1048576 ∧ k ≤ 1048576) := by
    have := (List.getElem?_eq_some_iff.1 he).1
    unfold Ev.tot at htot
    exact ⟨by omega, by omega, by omega, hk⟩
  obtain ⟨la, lc, rfl⟩ := hS.sl
  obtain ⟨bb, off, rfl, hbb, ⟨c0, c1, c2, c3, c4, c5, c6, c7⟩⟩ := hS.at HIV.out.below he
  have hlt' : (n.at_ : Int) < (es.length : Int) := by have := (List.getElem?_eq_some_iff.1 he).1; omega
  have hle : (es.length : Int) ≤ 1048576 := by omega
  have d0 := HIV.out.at_.c0
  unfold Sp.val
  rw [HUU.out]
  obtain ⟨kind, style, flag, text, anchor, tag, at_, code⟩ := e
  simp only at c0 c1 c2 c3 c4 c5 c6 c7 HTX h6
  subst h6
  obtain ⟨X, hX⟩ : ∃ X, (V.alloc (.cells #[.int .i64 6, .int .i64 style, .bool flag, .string text, .string anchor, .string tag, .int .i64 at_, .int .i64 code] 38)).drew = X := ⟨_, rfl⟩
  have hBX : Below V.heap.size V X := by rw [← hX]; exact (al_belowN V _).drew
  have hnX : X.heap[V.heap.size]? = some (.cells #[.int .i64 6, .int .i64 style, .bool flag, .string text, .string anchor, .string tag, .int .i64 at_, .int .i64 code] 38 (0, 0)) := by rw [← hX]; exact heap_alloc_new V _
  obtain ⟨x0, x1, x2, x3, x4, x5, x6, x7⟩ := ev_at hnX
  have y0 : X.cell? ⟨w.heap.size, 0, none⟩ = some (.int .i64 (n.at_ : Int)) := by rw [hBX.cell (by have := HVS.out; omega)]; exact v0
  have y1 : X.cell? ⟨w.heap.size, 1, none⟩ = some (.int .i64 n.end_) := by rw [hBX.cell (by have := HVS.out; omega)]; exact HV1.out
  have y2 : X.cell? ⟨w.heap.size, 2, none⟩ = some (.int .i64 (-1)) := by rw [hBX.cell (by have := HVS.out; omega)]; exact HV2.out
  have HIX : Hid (TsI b B1 B2 (.slice (some ⟨bb, off, none⟩) es.length lc) w0 { t with root := n.at_ } k X) := HIV.out.stays hBX
  have HKX : Hid (KeepO b B1 B2 w X) := HKV.out.trans (KeepO.of hBX)
  have HX : Hid ((V.alloc (.cells #[.int .i64 6, .int .i64 style, .bool flag, .string text, .string anchor, .string tag, .int .i64 at_, .int .i64 code] 38)).drew = X) := hX
  obtain ⟨Z, hZ⟩ : ∃ Z, V.alloc (.cells #[.int .i64 0, .int .i64 0, .bool false, .string ⟨#[]⟩, .string ⟨#[]⟩, .string ⟨#[]⟩, .int .i64 0, .int .i64 0] 38) = Z := ⟨_, rfl⟩
  have hBZ : Below V.heap.size V Z := by rw [← hZ]; exact al_belowN V _
  have hbV : bb < V.heap.size := Nat.lt_of_lt_of_le hbb HIV.out.below.size
  have z0 : Z.cell? _ = _ := (hBZ.cell hbV).trans c0
  have z1 : Z.cell? _ = _ := (hBZ.cell hbV).trans c1
  have z2 : Z.cell? _ = _ := (hBZ.cell hbV).trans c2
  have z3 : Z.cell? _ = _ := (hBZ.cell hbV).trans c3
  have z4 : Z.cell? _ = _ := (hBZ.cell hbV).trans c4
  have z5 : Z.cell? _ = _ := (hBZ.cell hbV).trans c5
  have z6 : Z.cell? _ = _ := (hBZ.cell hbV).trans c6
  have z7 : Z.cell? _ = _ := (hBZ.cell hbV).trans c7
  have zd : Z.cell? _ = _ := (hBZ.cell HIV.out.at_.lt).trans d0
  have zv : Z.cell? _ = _ := (hBZ.cell HVS.out).trans v0
  rw [← hZ] at z0 z1 z2 z3 z4 z5 z6 z7 zd zv
  clear hS hl he hI hk hW hBW hnew hIW htot hbb hX hBX hnX HV1 HV2 hZ hBZ hbV
  go_enter Try.func34, Try.ntmps34
  go_wp2_with fail
  rw [HW.out, HVV.out]
  clear u0 u2 f1 g1 HVV HW

  go_region
  all_goals (
    rw [HX.out]
    clear c0 c1 c2 c3 c4 c5 c6 c7 d0 v0 HX z0 z1 z2 z3 z4 z5 z6 z7 zd zv
    have cT := tie_any b B1 B2 _ w0 X _ k text n.at_ HIX.out HTX.out.1 HTX.out.2.2.1 HTX.out.2.2.2
    go_wp2_with fail
    refine cT.mono ?_
    rintro r w2 ⟨rfl, h2, k2⟩
    have HQ : Hid (TsI b B1 B2 (.slice (some ⟨bb, off, none⟩) es.length lc) w0 (Ti.tie { t with root := n.at_ } text n.at_) (k + 1) w2 ∧ KeepO b B1 B2 w w2) := ⟨h2, HKX.out.trans k2⟩
    clear cT h2 k2 x0 x1 x2 x3 x4 x5 x6 x7 y0 y1 y2
    go_wp2_with fail
    go_end0
    exact ⟨rfl, HQ.out⟩)
end Go.Proofs.Ytmbbmibkjnlkkaa
/- impl's ties: take, a case. -/
namespace Go.Proofs.Ytmbbmibkjnlkkaa
open Go.ChangeShapes Go.WideShapes Go.ChangeAt Go.RowKit Go.Maps
set_option maxRecDepth 100000 in
set_option maxHeartbeats 8000000 in
theorem take_yes_name (b B1 B2 : Nat) (lv : Value) (w0 w : World) (t : Ti) (k : Nat) (es : List Ev) (n : Sp) (e : Ev) (hS : SlE w0 lv es) (hl : totE es + es.length ≤ 1048576) (he : es[n.at_]? = some e) (hI : TsI b B1 B2 lv w0 t k w) (hk : k ≤ 1048576) (hu : n.up = -1) (h6 : ¬ e.kind = 6) (ha : e.anchor.toList ≠ []) :
    Calls Try.prog 34 #[.pointer (some ⟨b, 0, none⟩), n.val] w fun r w' => r = .returned (.tuple #[]) ∧ TsI b B1 B2 lv w0 (Ti.name { t with root := n.at_ } e.anchor n) (k + 1) w' ∧ KeepO b B1 B2 w w' := by
  obtain ⟨W, hW⟩ : ∃ W, w.alloc (.cells #[.int .i64 (n.at_ : Int), .int .i64 n.end_, .int .i64 (-1)] 64) = W := ⟨_, rfl⟩
  have hBW : Below w.heap.size w W := by rw [← hW]; exact al_belowN w _
  have hnew : W.heap[w.heap.size]? = some (.cells #[.int .i64 (n.at_ : Int), .int .i64 n.end_, .int .i64 (-1)] 64 (0, 0)) := by rw [← hW]; exact heap_alloc_new w _
  have u0 : W.cell? ⟨w.heap.size, 0, none⟩ = some (.int .i64 (n.at_ : Int)) := Lib.cell_of_heap hnew 0
  have u2 : W.cell? ⟨w.heap.size, 2, none⟩ = some (.int .i64 (-1)) := Lib.cell_of_heap hnew 2
  have hIW := hI.stays hBW
  have nb : w.heap.size ≠ b := by have := hI.at_.lt; omega
  have nb' : b ≠ w.heap.size := Ne.symm nb
  have HB0 : Hid (w0.heap.size ≤ w.heap.size) := hI.below.size
  have HW : Hid (w.alloc (.cells #[.int .i64 (n.at_ : Int), .int .i64 n.end_, .int .i64 (-1)] 64) = W) := hW
  have HUU : Hid (n.up = -1) := hu
  clear hu
  have f1 := hIW.at_.fz 1
  have g1 := hIW.at_.c1
  obtain ⟨V, hV⟩ : ∃ V, W.setCell ⟨b, 1, none⟩ (.int .i64 (n.at_ : Int)) = V := ⟨_, rfl⟩
  have hcl : ∀ j, V.cell? ⟨w.heap.size, j, none⟩ = W.cell? ⟨w.heap.size, j, none⟩ := fun j => by rw [← hV]; exact World.cell?_setCell_other _ _ _ _ (by intro e; injection e with e _; exact nb e.symm)
  have v0 : V.cell? ⟨w.heap.size, 0, none⟩ = some (.int .i64 (n.at_ : Int)) := by rw [hcl]; exact u0
  have HV1 : Hid (V.cell? ⟨w.heap.size, 1, none⟩ = some (.int .i64 n.end_)) := by show _ = _; rw [hcl]; exact Lib.cell_of_heap hnew 1
  have HV2 : Hid (V.cell? ⟨w.heap.size, 2, none⟩ = some (.int .i64 (-1))) := by show _ = _; rw [hcl]; exact u2
  have HVS : Hid (w.heap.size < V.heap.size) := by show _ < _; rw [← hV, ← hW]; simp [World.setCell]
  have HIV : Hid (TsI b B1 B2 lv w0 { t with root := n.at_ } k V) := by
    rw [← hV]
    exact hIW.cell (t' := { t with root := n.at_ }) (hIW.at_.set1 n.at_) rfl rfl (Nat.le_refl k) hIW.ls
  have HKV : Hid (KeepO b B1 B2 w V) := by rw [← hV]; exact (KeepO.of hBW).trans (hIW.keep 1 _)
  have HVV : Hid (W.setCell ⟨b, 1, none⟩ (.int .i64 (n.at_ : Int)) = V) := hV
  rw [← hW] at f1 g1
  clear hV hcl
  have htot := totE_mem (List.mem_of_getElem? he)
  have HTX : Hid (e.text.size ≤ 1073741824 ∧ e.anchor.size ≤ 1073741824 ∧ n.at_ ≤ 1048576 ∧ k ≤ 1048576) := by
    have := (List.getElem?_eq_some_iff.1 he).1
    unfold Ev.tot at htot
    exact ⟨by omega, by omega, by omega, hk⟩
  obtain ⟨la, lc, rfl⟩ := hS.sl
  obtain ⟨bb, off, rfl, hbb, ⟨c0, c1, c2, c3, c4, c5, c6, c7⟩⟩ := hS.at HIV.out.below he
  have hlt' : (n.at_ : Int) < (es.length : Int) := by have := (List.getElem?_eq_some_iff.1 he).1; omega
  have hle : (es.length : Int) ≤ 1048576 := by omega
  have d0 := HIV.out.at_.c0
  unfold Sp.val
  rw [HUU.out]
  obtain ⟨kind, style, flag, text, anchor, tag, at_, code⟩ := e
  simp only at c0 c1 c2 c3 c4 c5 c6 c7 HTX h6 ha
  have t6 : (kind == 6) = false := by rw [beq_eq_false_iff_ne]; exact h6
  have hie : anchor.toList.isEmpty = false := by cases hh : anchor.toList with | nil => exact absurd hh ha | cons _ _ => rfl
  have hne : (anchor.toList == []) = false := by rw [beq_eq_false_iff_ne]; exact ha
  obtain ⟨X, hX⟩ : ∃ X, (V.alloc (.cells #[.int .i64 kind, .int .i64 style, .bool flag, .string text, .string anchor, .string tag, .int .i64 at_, .int .i64 code] 38)).drew = X := ⟨_, rfl⟩
  have hBX : Below V.heap.size V X := by rw [← hX]; exact (al_belowN V _).drew
  have hnX : X.heap[V.heap.size]? = some (.cells #[.int .i64 kind, .int .i64 style, .bool flag, .string text, .string anchor, .string tag, .int .i64 at_, .int .i64 code] 38 (0, 0)) := by rw [← hX]; exact heap_alloc_new V _
  obtain ⟨x0, x1, x2, x3, x4, x5, x6, x7⟩ := ev_at hnX
  have y0 : X.cell? ⟨w.heap.size, 0, none⟩ = some (.int .i64 (n.at_ : Int)) := by rw [hBX.cell (by have := HVS.out; omega)]; exact v0
  have y1 : X.cell? ⟨w.heap.size, 1, none⟩ = some (.int .i64 n.end_) := by rw [hBX.cell (by have := HVS.out; omega)]; exact HV1.out
  have y2 : X.cell? ⟨w.heap.size, 2, none⟩ = some (.int .i64 (-1)) := by rw [hBX.cell (by have := HVS.out; omega)]; exact HV2.out
  have HIX : Hid (TsI b B1 B2 (.slice (some ⟨bb, off, none⟩) es.length lc) w0 { t with root := n.at_ } k X) := HIV.out.stays hBX
  have HKX : Hid (KeepO b B1 B2 w X) := HKV.out.trans (KeepO.of hBX)
  have HX : Hid ((V.alloc (.cells #[.int .i64 kind, .int .i64 style, .bool flag, .string text, .string anchor, .string tag, .int .i64 at_, .int .i64 code] 38)).drew = X) := hX
  obtain ⟨Z, hZ⟩ : ∃ Z, V.alloc (.cells #[.int .i64 0, .int .i64 0, .bool false, .string ⟨#[]⟩, .string ⟨#[]⟩, .string ⟨#[]⟩, .int .i64 0, .int .i64 0] 38) = Z := ⟨_, rfl⟩
  have hBZ : Below V.heap.size V Z := by rw [← hZ]; exact al_belowN V _
  have hbV : bb < V.heap.size := Nat.lt_of_lt_of_le hbb HIV.out.below.size
  have z0 : Z.cell? _ = _ := (hBZ.cell hbV).trans c0
  have z1 : Z.cell? _ = _ := (hBZ.cell hbV).trans c1
  have z2 : Z.cell? _ = _ := (hBZ.cell hbV).trans c2
  have z3 : Z.cell? _ = _ := (hBZ.cell hbV).trans c3
  have z4 : Z.cell? _ = _ := (hBZ.cell hbV).trans c4
  have z5 : Z.cell? _ = _ := (hBZ.cell hbV).trans c5
  have z6 : Z.cell? _ = _ := (hBZ.cell hbV).trans c6
  have z7 : Z.cell? _ = _ := (hBZ.cell hbV).trans c7
  have zd : Z.cell? _ = _ := (hBZ.cell HIV.out.at_.lt).trans d0
  have zv : Z.cell? _ = _ := (hBZ.cell HVS.out).trans v0
  rw [← hZ] at z0 z1 z2 z3 z4 z5 z6 z7 zd zv
  clear hS hl he hI hk hW hBW hnew hIW htot hbb hX hBX hnX HV1 HV2 hZ hBZ hbV
  go_enter Try.func34, Try.ntmps34
  go_wp2_with fail
  rw [HW.out, HVV.out]
  clear u0 u2 f1 g1 HVV HW

  go_region
  all_goals (
    rw [HX.out]
    clear c0 c1 c2 c3 c4 c5 c6 c7 d0 v0 HX z0 z1 z2 z3 z4 z5 z6 z7 zd zv
    obtain ⟨w3, hup, h3, k3⟩ := (HIX.out.stays ((Below.refl X.heap.size X).drew)).putN anchor n HTX.out.2.1 (by have := HTX.out.2.2.2; omega)
    unfold Sp.val at hup
    rw [HUU.out] at hup
    have HQ : Hid (TsI b B1 B2 (.slice (some ⟨bb, off, none⟩) es.length lc) w0 (Ti.name { t with root := n.at_ } anchor n) (k + 1) w3 ∧ KeepO b B1 B2 w w3) := ⟨h3, (HKX.out.trans (KeepO.of ((Below.refl X.heap.size X).drew))).trans k3⟩
    have zz : X.cell? ⟨b, 2, none⟩ = some (.map (some B1)) := HIX.out.at_.c2
    clear h3 k3
    go_wp2_with fail
    go_region
    all_goals (
      clear hup zz x0 x1 x2 x3 x4 x5 x6 x7 y0 y1 y2
      go_wp2_with fail
      go_end0
      exact ⟨rfl, HQ.out⟩))
end Go.Proofs.Ytmbbmibkjnlkkaa
/- impl's ties: take, a case. -/
namespace Go.Proofs.Ytmbbmibkjnlkkaa
open Go.ChangeShapes Go.WideShapes Go.ChangeAt Go.RowKit Go.Maps
set_option maxRecDepth 100000 in
set_option maxHeartbeats 8000000 in
theorem take_yes_bare (b B1 B2 : Nat) (lv : Value) (w0 w : World) (t : Ti) (k : Nat) (es : List Ev) (n : Sp) (e : Ev) (hS : SlE w0 lv es) (hl : totE es + es.length ≤ 1048576) (he : es[n.at_]? = some e) (hI : TsI b B1 B2 lv w0 t k w) (hk : k ≤ 1048576) (hu : n.up = -1) (h6 : ¬ e.kind = 6) (ha : e.anchor.toList = []) :
    Calls Try.prog 34 #[.pointer (some ⟨b, 0, none⟩), n.val] w fun r w' => r = .returned (.tuple #[]) ∧ TsI b B1 B2 lv w0 ({ t with root := n.at_ } : Ti) (k + 1) w' ∧ KeepO b B1 B2 w w' := by
  obtain ⟨W, hW⟩ : ∃ W, w.alloc (.cells #[.int .i64 (n.at_ : Int), .int .i64 n.end_, .int .i64 (-1)] 64) = W := ⟨_, rfl⟩
  have hBW : Below w.heap.size w W := by rw [← hW]; exact al_belowN w _
  have hnew : W.heap[w.heap.size]? = some (.cells #[.int .i64 (n.at_ : Int), .int .i64 n.end_, .int .i64 (-1)] 64 (0, 0)) := by rw [← hW]; exact heap_alloc_new w _
  have u0 : W.cell? ⟨w.heap.size, 0, none⟩ = some (.int .i64 (n.at_ : Int)) := Lib.cell_of_heap hnew 0
  have u2 : W.cell? ⟨w.heap.size, 2, none⟩ = some (.int .i64 (-1)) := Lib.cell_of_heap hnew 2
  have hIW := hI.stays hBW
  have nb : w.heap.size ≠ b := by have := hI.at_.lt; omega
  have nb' : b ≠ w.heap.size := Ne.symm nb
  have HB0 : Hid (w0.heap.size ≤ w.heap.size) := hI.below.size
  have HW : Hid (w.alloc (.cells #[.int .i64 (n.at_ : Int), .int .i64 n.end_, .int .i64 (-1)] 64) = W) := hW
  have HUU : Hid (n.up = -1) := hu
  clear hu
  have f1 := hIW.at_.fz 1
  have g1 := hIW.at_.c1
  obtain ⟨V, hV⟩ : ∃ V, W.setCell ⟨b, 1, none⟩ (.int .i64 (n.at_ : Int)) = V := ⟨_, rfl⟩
  have hcl : ∀ j, V.cell? ⟨w.heap.size, j, none⟩ = W.cell? ⟨w.heap.size, j, none⟩ := fun j => by rw [← hV]; exact World.cell?_setCell_other _ _ _ _ (by intro e; injection e with e _; exact nb e.symm)
  have v0 : V.cell? ⟨w.heap.size, 0, none⟩ = some (.int .i64 (n.at_ : Int)) := by rw [hcl]; exact u0
  have HV1 : Hid (V.cell? ⟨w.heap.size, 1, none⟩ = some (.int .i64 n.end_)) := by show _ = _; rw [hcl]; exact Lib.cell_of_heap hnew 1
  have HV2 : Hid (V.cell? ⟨w.heap.size, 2, none⟩ = some (.int .i64 (-1))) := by show _ = _; rw [hcl]; exact u2
  have HVS : Hid (w.heap.size < V.heap.size) := by show _ < _; rw [← hV, ← hW]; simp [World.setCell]
  have HIV : Hid (TsI b B1 B2 lv w0 { t with root := n.at_ } k V) := by
    rw [← hV]
    exact hIW.cell (t' := { t with root := n.at_ }) (hIW.at_.set1 n.at_) rfl rfl (Nat.le_refl k) hIW.ls
  have HKV : Hid (KeepO b B1 B2 w V) := by rw [← hV]; exact (KeepO.of hBW).trans (hIW.keep 1 _)
  have HVV : Hid (W.setCell ⟨b, 1, none⟩ (.int .i64 (n.at_ : Int)) = V) := hV
  rw [← hW] at f1 g1
  clear hV hcl
  have htot := totE_mem (List.mem_of_getElem? he)
  have HTX : Hid (e.text.size ≤ 1073741824 ∧ e.anchor.size ≤ 1073741824 ∧ n.at_ ≤ 1048576 ∧ k ≤ 1048576) := by
    have := (List.getElem?_eq_some_iff.1 he).1
    unfold Ev.tot at htot
    exact ⟨by omega, by omega, by omega, hk⟩
  obtain ⟨la, lc, rfl⟩ := hS.sl
  obtain ⟨bb, off, rfl, hbb, ⟨c0, c1, c2, c3, c4, c5, c6, c7⟩⟩ := hS.at HIV.out.below he
  have hlt' : (n.at_ : Int) < (es.length : Int) := by have := (List.getElem?_eq_some_iff.1 he).1; omega
  have hle : (es.length : Int) ≤ 1048576 := by omega
  have d0 := HIV.out.at_.c0
  unfold Sp.val
  rw [HUU.out]
  obtain ⟨kind, style, flag, text, anchor, tag, at_, code⟩ := e
  simp only at c0 c1 c2 c3 c4 c5 c6 c7 HTX h6 ha
  have t6 : (kind == 6) = false := by rw [beq_eq_false_iff_ne]; exact h6
  obtain ⟨X, hX⟩ : ∃ X, (V.alloc (.cells #[.int .i64 kind, .int .i64 style, .bool flag, .string text, .string anchor, .string tag, .int .i64 at_, .int .i64 code] 38)).drew = X := ⟨_, rfl⟩
  have hBX : Below V.heap.size V X := by rw [← hX]; exact (al_belowN V _).drew
  have hnX : X.heap[V.heap.size]? = some (.cells #[.int .i64 kind, .int .i64 style, .bool flag, .string text, .string anchor, .string tag, .int .i64 at_, .int .i64 code] 38 (0, 0)) := by rw [← hX]; exact heap_alloc_new V _
  obtain ⟨x0, x1, x2, x3, x4, x5, x6, x7⟩ := ev_at hnX
  have y0 : X.cell? ⟨w.heap.size, 0, none⟩ = some (.int .i64 (n.at_ : Int)) := by rw [hBX.cell (by have := HVS.out; omega)]; exact v0
  have y1 : X.cell? ⟨w.heap.size, 1, none⟩ = some (.int .i64 n.end_) := by rw [hBX.cell (by have := HVS.out; omega)]; exact HV1.out
  have y2 : X.cell? ⟨w.heap.size, 2, none⟩ = some (.int .i64 (-1)) := by rw [hBX.cell (by have := HVS.out; omega)]; exact HV2.out
  have HIX : Hid (TsI b B1 B2 (.slice (some ⟨bb, off, none⟩) es.length lc) w0 { t with root := n.at_ } k X) := HIV.out.stays hBX
  have HKX : Hid (KeepO b B1 B2 w X) := HKV.out.trans (KeepO.of hBX)
  have HX : Hid ((V.alloc (.cells #[.int .i64 kind, .int .i64 style, .bool flag, .string text, .string anchor, .string tag, .int .i64 at_, .int .i64 code] 38)).drew = X) := hX
  obtain ⟨Z, hZ⟩ : ∃ Z, V.alloc (.cells #[.int .i64 0, .int .i64 0, .bool false, .string ⟨#[]⟩, .string ⟨#[]⟩, .string ⟨#[]⟩, .int .i64 0, .int .i64 0] 38) = Z := ⟨_, rfl⟩
  have hBZ : Below V.heap.size V Z := by rw [← hZ]; exact al_belowN V _
  have hbV : bb < V.heap.size := Nat.lt_of_lt_of_le hbb HIV.out.below.size
  have z0 : Z.cell? _ = _ := (hBZ.cell hbV).trans c0
  have z1 : Z.cell? _ = _ := (hBZ.cell hbV).trans c1
  have z2 : Z.cell? _ = _ := (hBZ.cell hbV).trans c2
  have z3 : Z.cell? _ = _ := (hBZ.cell hbV).trans c3
  have z4 : Z.cell? _ = _ := (hBZ.cell hbV).trans c4
  have z5 : Z.cell? _ = _ := (hBZ.cell hbV).trans c5
  have z6 : Z.cell? _ = _ := (hBZ.cell hbV).trans c6
  have z7 : Z.cell? _ = _ := (hBZ.cell hbV).trans c7
  have zd : Z.cell? _ = _ := (hBZ.cell HIV.out.at_.lt).trans d0
  have zv : Z.cell? _ = _ := (hBZ.cell HVS.out).trans v0
  rw [← hZ] at z0 z1 z2 z3 z4 z5 z6 z7 zd zv
  clear hS hl he hI hk hW hBW hnew hIW htot hbb hX hBX hnX HV1 HV2 hZ hBZ hbV
  go_enter Try.func34, Try.ntmps34
  go_wp2_with fail
  rw [HW.out, HVV.out]
  clear u0 u2 f1 g1 HVV HW

  go_region
  all_goals (
    rw [HX.out]
    clear c0 c1 c2 c3 c4 c5 c6 c7 d0 v0 HX z0 z1 z2 z3 z4 z5 z6 z7 zd zv
    have HQ : Hid (TsI b B1 B2 (.slice (some ⟨bb, off, none⟩) es.length lc) w0 { t with root := n.at_ } (k + 1) X ∧ KeepO b B1 B2 w X) := ⟨HIX.out.more, HKX.out⟩
    go_wp2_with fail
    go_end0
    exact ⟨rfl, HQ.out⟩)
end Go.Proofs.Ytmbbmibkjnlkkaa
/- The contracts of impl.DefOf, impl.Tied and impl.Whole. -/
namespace Go.Proofs.Ytmbbmibkjnlkkaa
open Go.ChangeShapes Go.WideShapes Go.ChangeAt Go.RowKit Go.Maps
theorem ttake_any (b B1 B2 : Nat) (lv : Value) (w0 w : World) (t : Ti) (k : Nat) (es : List Ev) (n : Sp) (e : Ev) (hS : SlE w0 lv es) (hl : totE es + es.length ≤ 1048576) (he : es[n.at_]? = some e) (hI : TsI b B1 B2 lv w0 t k w) (hk : k ≤ 1048576) :
    Calls Try.prog 34 #[.pointer (some ⟨b, 0, none⟩), n.val] w fun r w' => r = .returned (.tuple #[]) ∧ TsI b B1 B2 lv w0 (t.take n e) (k + 1) w' ∧ KeepO b B1 B2 w w' := by
  unfold Ti.take Ti.at
  by_cases hu : n.up = -1
  · rw [if_pos hu]
    by_cases h6 : e.kind = 6
    · rw [if_pos h6]
      exact take_yes_alias b B1 B2 lv w0 w t k es n e hS hl he hI hk hu h6
    · rw [if_neg h6]
      by_cases ha : e.anchor.toList = []
      · rw [if_pos (show noB e.anchor = true by unfold noB; rw [ha]; rfl)]
        exact take_yes_bare b B1 B2 lv w0 w t k es n e hS hl he hI hk hu h6 ha
      · rw [if_neg (show ¬ noB e.anchor = true by unfold noB; simpa using ha)]
        exact take_yes_name b B1 B2 lv w0 w t k es n e hS hl he hI hk hu h6 ha
  · rw [if_neg hu]
    by_cases h6 : e.kind = 6
    · rw [if_pos h6]
      exact take_no_alias b B1 B2 lv w0 w t k es n e hS hl he hI hk hu h6
    · rw [if_neg h6]
      by_cases ha : e.anchor.toList = []
      · rw [if_pos (show noB e.anchor = true by unfold noB; rw [ha]; rfl)]
        exact take_no_bare b B1 B2 lv w0 w t k es n e hS hl he hI hk hu h6 ha
      · rw [if_neg (show ¬ noB e.anchor = true by unfold noB; simpa using ha)]
        exact take_no_name b B1 B2 lv w0 w t k es n e hS hl he hI hk hu h6 ha
/-- With how many nodes were told. -/
def fTie2 (es : List Ev) (p : Ti × Nat) (n : Sp) : Ti × Nat := (fTie es p.1 n, p.2 + 1)
theorem fTie2_fold (es : List Ev) : ∀ (L : List Sp) (p : Ti × Nat), L.foldl (fTie2 es) p = (L.foldl (fTie es) p.1, p.2 + L.length)
  | [], p => rfl
  | n :: t, p => by
    rw [List.foldl_cons, fTie2_fold es t, List.foldl_cons, List.length_cons]
    unfold fTie2
    simp only []
    congr 1
    omega
def TsJ (b B1 B2 : Nat) (lv : Value) (w0 : World) (p : Ti × Nat) (w : World) : Prop := TsI b B1 B2 lv w0 p.1 p.2 w
theorem spans_at {es : List Ev} {k : Nat} {n : Sp} (h : (spansF es)[k]? = some n) : ∃ e, es[n.at_]? = some e := by
  have hm := List.mem_of_getElem? h
  unfold spansF at hm
  obtain ⟨j, hj, rfl⟩ := List.mem_map.1 hm
  have := (mem_nodes.1 hj).1
  exact ⟨_, List.getElem?_eq_getElem this⟩
theorem spansF_le (es : List Ev) : (spansF es).length ≤ es.length := by
  unfold spansF
  rw [List.length_map]
  exact nodesTo_le es es.length
theorem tellTie (b B1 B2 : Nat) (lv : Value) (w0 : World) (es : List Ev) (hS : SlE w0 lv es) (hl : totE es + es.length ≤ 1048576) : TellC 34 (.pointer (some ⟨b, 0, none⟩)) (spansF es) (fTie2 es) (TsJ b B1 B2 lv w0) (Ti.start, 0) :=
  ⟨enters_of Try.func34 (by kernel_rfl) rfl, fun _ _ _ h hb => TsI.stays h hb, fun k n w hx hI => by
    obtain ⟨e, he⟩ := spans_at hx
    have hkl := (List.getElem?_eq_some_iff.1 hx).1
    have hsl := spansF_le es
    rw [fTie2_fold] at hI ⊢
    have hlen : ((spansF es).take k).length = k := by rw [List.length_take]; omega
    rw [hlen] at hI ⊢
    have h2 := ttake_any b B1 B2 lv w0 w _ _ es n e hS hl he hI (by omega)
    refine h2.mono ?_
    rintro r w' ⟨rfl, h3, h4⟩
    refine ⟨rfl, ?_, h4.toS hI⟩
    show TsI b B1 B2 lv w0 (fTie es _ n) _ w'
    unfold fTie
    rw [he]
    exact h3⟩
theorem gat2 (es : List Ev) (k : Nat) : (gat es (fTie2 es) (Ti.start, 0) k).1 = gat es (fTie es) Ti.start k := by
  unfold gat
  rw [fTie2_fold]
/-- What eachNode leaves of the ties. -/
def tiEnd (es : List Ev) : Ti := if nested es = true then gat es (fTie es) Ti.start es.length else Ti.start
theorem ti_end (es : List Ev) : (if nested es = true then gat es (fTie2 es) (Ti.start, 0) es.length else (Ti.start, 0)).1 = tiEnd es := by
  unfold tiEnd
  split
  · exact gat2 es _
  · rfl
set_option maxHeartbeats 4000000 in
theorem newTies_any (w : World) (a : Option Addr) (m c : Nat) :
    Calls Try.prog 31 #[.slice a m c] w fun e w' => ∃ b B1 B2, e = .returned (.pointer (some ⟨b, 0, none⟩)) ∧ TsI b B1 B2 (.slice a m c) w Ti.start 0 w' := by
  have hmm := @run_makeMap Try.prog
  obtain ⟨w1, hw1⟩ : ∃ w1, w.alloc (.map #[] 0) = w1 := ⟨_, rfl⟩
  obtain ⟨w2, hw2⟩ : ∃ w2, w1.alloc (.map #[] 0) = w2 := ⟨_, rfl⟩
  have s1 : w1.heap.size = w.heap.size + 1 := by rw [← hw1]; simp
  have s2 : w2.heap.size = w1.heap.size + 1 := by rw [← hw2]; simp
  obtain ⟨w3, hw3⟩ : ∃ w3, w2.alloc (.cells #[.slice a m c, .int .i64 0, .map (some w.heap.size), .map (some w1.heap.size), .int .i64 0] 61) = w3 := ⟨_, rfl⟩
  have b1 : Below w.heap.size w w1 := by rw [← hw1]; exact al_belowN w _
  have b2 : Below w1.heap.size w1 w2 := by rw [← hw2]; exact al_belowN w1 _
  have b3 : Below w2.heap.size w2 w3 := by rw [← hw3]; exact al_belowN w2 _
  have HO : Hid (TsI w2.heap.size w.heap.size w1.heap.size (.slice a m c) w Ti.start 0 w3) := by
    refine ⟨?_, ⟨0, Nat.le_refl _, ?_⟩, ⟨0, Nat.le_refl _, ?_⟩, Nat.le_refl _, (b1.trans (b2.mono (by omega))).trans (b3.mono (by omega)), ⟨by omega, by omega, by omega⟩, ⟨by omega, by omega, by omega⟩⟩
    · rw [← hw3]
      exact heap_alloc_new w2 _
    · refine (MapM.made w Try.prog 9 nkey Sp.val).same ?_
      rw [hw1, (b3.block _ (by omega)), (b2.block _ (by omega))]
    · refine (MapM.made w1 Try.prog 3 dkey natV).same ?_
      rw [hw2, (b3.block _ (by omega))]
  have HE : Hid (w2.alloc (.cells #[.slice a m c, .int .i64 0, .map (some w.heap.size), .map (some w1.heap.size), .int .i64 0] 61) = w3) := hw3
  clear b1 b2 b3 hw3 s1 s2
  subst hw2
  subst hw1
  go_enter Try.func31, Try.ntmps31
  go_wp2_with fail
  go_ret
  refine ⟨_, w.heap.size, w.heap.size + 1, rfl, ?_⟩
  have h1 := HO.out
  rw [← HE.out] at h1
  simpa using h1
theorem tied_some {es : List Ev} (h : tied es = true) : es ≠ [] := by
  intro h0
  rw [h0] at h
  unfold tied nested at h
  simp [nst] at h
end Go.Proofs.Ytmbbmibkjnlkkaa
/- The contract of impl.readingOf: the nodes of a stream by their places, and what its aliases stand for. -/
namespace Go.Proofs.Ytmbbmibkjnlkkaa
open Go.ChangeShapes Go.WideShapes Go.ChangeAt Go.RowKit Go.Maps
def putN (f : Int → Option Sp) (n : Sp) : Int → Option Sp := putFn f (n.at_ : Int) n
def fRead (es : List Ev) (p : (Ti × Nat) × (Int → Option Sp)) (n : Sp) : (Ti × Nat) × (Int → Option Sp) := (fTie2 es p.1 n, putN p.2 n)
theorem fRead_fold (es : List Ev) : ∀ (L : List Sp) (p : (Ti × Nat) × (Int → Option Sp)), L.foldl (fRead es) p = (L.foldl (fTie2 es) p.1, L.foldl putN p.2)
  | [], p => rfl
  | n :: t, p => by
    rw [List.foldl_cons, fRead_fold es t]
    rfl
def nodF (l : List Ev) (k : Nat) : Int → Option Sp := fun i => if 0 ≤ i ∧ i < (k : Int) ∧ nodB l i.toNat = true then some (fin l i.toNat) else none
theorem gat_nod (l : List Ev) : ∀ k, gat l putN (fun _ => none) k = nodF l k
  | 0 => by
    rw [gat_zero]
    funext i
    unfold nodF
    rw [if_neg (by omega)]
  | k + 1 => by
    have ih := gat_nod l k
    cases hb : nodB l k
    · rw [gat_no hb, ih]
      funext i
      unfold nodF
      by_cases h : 0 ≤ i ∧ i < (k : Int) ∧ nodB l i.toNat = true
      · rw [if_pos h, if_pos ⟨h.1, by omega, h.2.2⟩]
      · rw [if_neg h, if_neg]
        rintro ⟨h1, h2, h3⟩
        by_cases e : i = (k : Int)
        · subst e
          rw [show (k : Int).toNat = k by omega, hb] at h3
          cases h3
        · exact h ⟨h1, by omega, h3⟩
    · rw [gat_yes hb, ih]
      funext i
      unfold putN putFn
      have hat : (fin l k).at_ = k := rfl
      rw [hat]
      by_cases e : (k : Int) = i
      · subst e
        rw [if_pos rfl]
        unfold nodF
        rw [if_pos ⟨by omega, by omega, by rw [show (k : Int).toNat = k by omega]; exact hb⟩, show (k : Int).toNat = k by omega]
      · rw [if_neg e]
        unfold nodF
        by_cases h : 0 ≤ i ∧ i < (k : Int) ∧ nodB l i.toNat = true
        · rw [if_pos h, if_pos ⟨h.1, by omega, h.2.2⟩]
        · rw [if_neg h, if_neg (fun h' => h ⟨h'.1, by omega, h'.2.2⟩)]
/-- The nodes and the ties as the reading gathers them. -/
structure RdI (b B1 B2 BN T R : Nat) (lv : Value) (w0 : World) (x : (Ti × Nat) × (Int → Option Sp)) (w : World) : Prop where
  ts : TsI b B1 B2 lv w0 x.1.1 x.1.2 w
  nd : ∃ m, m ≤ x.1.2 ∧ MapM Try.prog 3 dkey Sp.val w BN m x.2
  bt : w.heap[T]? = some (.cells #[.pointer (some ⟨b, 0, none⟩)] 57 (0, 0))
  br : w.heap[R]? = some (.cells #[lv, .map (some BN), .map (some B2)] 43 (0, 0))
  hi : w0.heap.size ≤ BN ∧ w0.heap.size ≤ T ∧ w0.heap.size ≤ R
  nN : BN ≠ b ∧ BN ≠ B1 ∧ BN ≠ B2
  nT : T ≠ b ∧ T ≠ B1 ∧ T ≠ B2 ∧ T ≠ BN
  nR : R ≠ b ∧ R ≠ B1 ∧ R ≠ B2 ∧ R ≠ BN
section
variable {b B1 B2 BN T R : Nat} {lv : Value} {w0 w w' : World} {x : (Ti × Nat) × (Int → Option Sp)}
theorem RdI.ltT (h : RdI b B1 B2 BN T R lv w0 x w) : T < w.heap.size := (Array.getElem?_eq_some_iff.1 h.bt).1
theorem RdI.ltR (h : RdI b B1 B2 BN T R lv w0 x w) : R < w.heap.size := (Array.getElem?_eq_some_iff.1 h.br).1
theorem RdI.stays (h : RdI b B1 B2 BN T R lv w0 x w) (hb : Below w.heap.size w w') : RdI b B1 B2 BN T R lv w0 x w' := by
  obtain ⟨m, h1, h2⟩ := h.nd
  exact ⟨h.ts.stays hb, ⟨m, h1, h2.same (hb.block _ h2.lt)⟩, (hb.block _ h.ltT).trans h.bt, (hb.block _ h.ltR).trans h.br, h.hi, h.nN, h.nT, h.nR⟩
theorem RdI.cT (h : RdI b B1 B2 BN T R lv w0 x w) : w.cell? ⟨T, 0, none⟩ = some (.pointer (some ⟨b, 0, none⟩)) := by rw [Lib.cell_of_heap h.bt]; rfl
theorem RdI.c0 (h : RdI b B1 B2 BN T R lv w0 x w) : w.cell? ⟨R, 0, none⟩ = some lv := by rw [Lib.cell_of_heap h.br]; rfl
theorem RdI.c1 (h : RdI b B1 B2 BN T R lv w0 x w) : w.cell? ⟨R, 1, none⟩ = some (.map (some BN)) := by rw [Lib.cell_of_heap h.br]; rfl
theorem RdI.c2 (h : RdI b B1 B2 BN T R lv w0 x w) : w.cell? ⟨R, 2, none⟩ = some (.map (some B2)) := by rw [Lib.cell_of_heap h.br]; rfl
/-- The ties were taken further. -/
theorem RdI.tied (h : RdI b B1 B2 BN T R lv w0 x w) {t : Ti} (ht : TsI b B1 B2 lv w0 t (x.1.2 + 1) w') (hk : KeepO b B1 B2 w w') : RdI b B1 B2 BN T R lv w0 ((t, x.1.2 + 1), x.2) w' := by
  obtain ⟨m, h1, h2⟩ := h.nd
  exact ⟨ht, ⟨m, by show m ≤ x.1.2 + 1; omega, h2.same (hk.2 _ h2.lt h.nN.1 h.nN.2.1 h.nN.2.2)⟩, (hk.2 _ h.ltT h.nT.1 h.nT.2.1 h.nT.2.2.1).trans h.bt, (hk.2 _ h.ltR h.nR.1 h.nR.2.1 h.nR.2.2.1).trans h.br, h.hi, h.nN, h.nT, h.nR⟩
theorem TsI.beside {t : Ti} {k : Nat} (h : TsI b B1 B2 lv w0 t k w) (hg : w.grownBy w' (some BN)) (hB : w0.heap.size ≤ BN) (n : BN ≠ b ∧ BN ≠ B1 ∧ BN ≠ B2) : TsI b B1 B2 lv w0 t k w' := by
  obtain ⟨n1, h1, h2⟩ := h.nm
  obtain ⟨n2, h3, h4⟩ := h.df
  exact ⟨h.at_.same (hg.block b h.at_.lt (by simp; exact Ne.symm n.1)), ⟨n1, h1, h2.same (hg.block _ h2.lt (by simp; exact Ne.symm n.2.1))⟩, ⟨n2, h3, h4.same (hg.block _ h4.lt (by simp; exact Ne.symm n.2.2))⟩, h.ls, below_map h.below hg hB, h.hi, h.ne⟩
end
theorem KeepS.grown {w w' : World} {BN : Nat} (hm : ∃ es clock, w.heap[BN]? = some (.map es clock)) (hg : w.grownBy w' (some BN)) : KeepS w w' := fun k cs fr hk => by
  obtain ⟨es, cl, he⟩ := hm
  rw [hg.block k (Array.getElem?_eq_some_iff.1 hk).1 (fun e => by
    injection e with e
    subst e
    rw [he] at hk
    cases hk)]
  exact hk
set_option maxHeartbeats 8000000 in
theorem readC_any (b B1 B2 BN T R : Nat) (lv : Value) (w0 w : World) (p : (Ti × Nat) × (Int → Option Sp)) (es : List Ev) (n : Sp) (e : Ev) (hS : SlE w0 lv es) (hl : totE es + es.length ≤ 1048576) (he : es[n.at_]? = some e) (hI : RdI b B1 B2 BN T R lv w0 p w) (hk : p.1.2 ≤ 1048576) :
    Calls Try.prog 33 #[n.val, .pointer (some ⟨T, 0, none⟩), .pointer (some ⟨R, 0, none⟩)] w fun r w' => r = .returned (.tuple #[]) ∧ RdI b B1 B2 BN T R lv w0 (fRead es p n) w' ∧ KeepS w w' := by
  have hn : n.at_ < es.length := (List.getElem?_eq_some_iff.1 he).1
  obtain ⟨V, hV⟩ : ∃ V, w.alloc (.cells #[.int .i64 (n.at_ : Int), .int .i64 n.end_, .int .i64 n.up] 64) = V := ⟨_, rfl⟩
  have HV : Hid (w.alloc (.cells #[.int .i64 (n.at_ : Int), .int .i64 n.end_, .int .i64 n.up] 64) = V) := hV
  have hbV : Below w.heap.size w V := by rw [← hV]; exact (Below.refl _ w).alloc (Nat.le_refl _) _
  have hnew : V.heap[w.heap.size]? = some (.cells #[.int .i64 (n.at_ : Int), .int .i64 n.end_, .int .i64 n.up] 64 (0, 0)) := by rw [← hV]; exact heap_alloc_new w _
  have HN : Hid (V.heap[w.heap.size]? = some (.cells #[.int .i64 (n.at_ : Int), .int .i64 n.end_, .int .i64 n.up] 64 (0, 0))) := hnew
  have u0 : V.cell? ⟨w.heap.size, 0, none⟩ = some (.int .i64 (n.at_ : Int)) := Lib.cell_of_heap hnew 0
  have u1 : V.cell? ⟨w.heap.size, 1, none⟩ = some (.int .i64 n.end_) := Lib.cell_of_heap hnew 1
  have u2 : V.cell? ⟨w.heap.size, 2, none⟩ = some (.int .i64 n.up) := Lib.cell_of_heap hnew 2
  have hIV : RdI b B1 B2 BN T R lv w0 p V := hI.stays hbV
  have cT := hIV.cT
  have cK := ttake_any b B1 B2 lv w0 V p.1.1 p.1.2 es n e hS hl he hIV.ts hk
  unfold Sp.val at cK ⊢
  have HI : Hid (RdI b B1 B2 BN T R lv w0 p V) := hIV
  have HE : Hid (es[n.at_]? = some e ∧ n.at_ ≤ 1048576 ∧ p.1.2 ≤ 1048576) := ⟨he, by omega, hk⟩
  have HKV : Hid (KeepS w V) := KeepS.of hbV
  rw [← hV] at u0 u1 u2 cT
  clear hI hIV hV hbV hnew hS hl he hk hn
  go_enter Try.func33, Try.ntmps33
  go_wp2_with fail
  rw [HV.out]
  refine cK.mono ?_
  rintro r w1 ⟨rfl, hT, hKO⟩
  have hI1 := HI.out.tied hT hKO
  have hks := hKO.toS HI.out.ts
  have hn1 : w1.heap[w.heap.size]? = some (.cells #[.int .i64 (n.at_ : Int), .int .i64 n.end_, .int .i64 n.up] 64 (0, 0)) := hks _ _ _ HN.out
  clear u0 u1 u2 cT cK
  have u0 : w1.cell? ⟨w.heap.size, 0, none⟩ = some (.int .i64 (n.at_ : Int)) := Lib.cell_of_heap hn1 0
  have u1 : w1.cell? ⟨w.heap.size, 1, none⟩ = some (.int .i64 n.end_) := Lib.cell_of_heap hn1 1
  have u2 : w1.cell? ⟨w.heap.size, 2, none⟩ = some (.int .i64 n.up) := Lib.cell_of_heap hn1 2
  have c1 := hI1.c1
  obtain ⟨m, hm1, hm0⟩ := HI.out.nd
  have hm2 := hm0.same (w' := w1) (hKO.2 _ hm0.lt HI.out.nN.1 HI.out.nN.2.1 HI.out.nN.2.2)
  obtain ⟨w2, hup, hM, hg⟩ := hm2.put dkey_fn dkeyed Try.underlying40 (n.at_ : Int) n (dkey_mk (WalkArith.wf_i64 (by have := HE.out.2.1; omega))) (by have := HE.out.2.2; unfold maxLen; omega)
  unfold Sp.val at hup
  have HO : Hid (RdI b B1 B2 BN T R lv w0 (fRead es p n) w2 ∧ KeepS w w2) := by
    have hts : TsI b B1 B2 lv w0 (fTie es p.1.1 n) (p.1.2 + 1) w1 := by
      unfold fTie
      rw [HE.out.1]
      exact hI1.ts
    refine ⟨⟨TsI.beside hts hg hI1.hi.1 hI1.nN, ⟨m + 1, ?_, hM⟩, ?_, ?_, hI1.hi, hI1.nN, hI1.nT, hI1.nR⟩, (HKV.out.trans hks).trans (KeepS.grown hm2.isMap hg)⟩
    · show m + 1 ≤ p.1.2 + 1; omega
    · exact (hg.block T hI1.ltT (by simp; exact hI1.nT.2.2.2)).trans hI1.bt
    · exact (hg.block R hI1.ltR (by simp; exact hI1.nR.2.2.2)).trans hI1.br
  clear hM hg hm1 hm2 hm0 hI1 hks hn1 hT hKO HE HI HN HKV HV
  go_wp2_with fail
  go_end0
  exact ⟨rfl, HO.out⟩
end Go.Proofs.Ytmbbmibkjnlkkaa
/- The contract of impl.readingOf, the whole. -/
namespace Go.Proofs.Ytmbbmibkjnlkkaa
open Go.ChangeShapes Go.WideShapes Go.ChangeAt Go.RowKit Go.Maps
def ndEnd (es : List Ev) : Int → Option Sp := if nested es = true then nodF es es.length else fun _ => none
/-- A reading's two maps. -/
structure Rd (es : List Ev) (BN B2 : Nat) (w : World) : Prop where
  nd : ∃ m, MapM Try.prog 3 dkey Sp.val w BN m (ndEnd es)
  df : ∃ m, MapM Try.prog 3 dkey natV w B2 m (tiEnd es).defs
theorem Rd.stays {es : List Ev} {BN B2 : Nat} {w w' : World} (h : Rd es BN B2 w) (hb : Below w.heap.size w w') : Rd es BN B2 w' := by
  obtain ⟨m, h1⟩ := h.nd
  obtain ⟨n, h2⟩ := h.df
  exact ⟨⟨m, h1.same (hb.block _ h1.lt)⟩, ⟨n, h2.same (hb.block _ h2.lt)⟩⟩
theorem tellRead (b B1 B2 BN T R : Nat) (lv : Value) (w0 : World) (es : List Ev) (hS : SlE w0 lv es) (hl : totE es + es.length ≤ 1048576) :
    TellD 33 (.pointer (some ⟨T, 0, none⟩)) (.pointer (some ⟨R, 0, none⟩)) (spansF es) (fRead es) (fun x w => RdI b B1 B2 BN T R lv w0 x w) ((Ti.start, 0), fun _ => none) :=
  ⟨enters_of Try.func33 (by kernel_rfl) rfl, fun _ _ _ h hb => RdI.stays h hb, fun k n w hx hI => by
    obtain ⟨e, he⟩ := spans_at hx
    have hkl := (List.getElem?_eq_some_iff.1 hx).1
    have hsl := spansF_le es
    refine readC_any b B1 B2 BN T R lv w0 w _ es n e hS hl he hI ?_
    rw [fRead_fold, fTie2_fold]
    show 0 + ((spansF es).take k).length ≤ 1048576
    rw [List.length_take]
    omega⟩
theorem read_end (es : List Ev) : (if nested es = true then gat es (fRead es) ((Ti.start, 0), fun _ => none) es.length else ((Ti.start, 0), fun _ => none)).2 = ndEnd es ∧ (if nested es = true then gat es (fRead es) ((Ti.start, 0), fun _ => none) es.length else ((Ti.start, 0), fun _ => none)).1.1 = tiEnd es := by
  unfold ndEnd tiEnd
  by_cases h : nested es = true
  · rw [if_pos h, if_pos h, if_pos h]
    unfold gat
    rw [fRead_fold]
    refine ⟨?_, ?_⟩
    · show ((nodesTo es es.length).map (fin es)).foldl putN (fun _ => none) = _
      rw [← gat_nod]
      rfl
    · show (((nodesTo es es.length).map (fin es)).foldl (fTie2 es) (Ti.start, 0)).1 = _
      rw [fTie2_fold]
  · rw [if_neg h, if_neg h, if_neg h]
    exact ⟨rfl, rfl⟩
set_option maxHeartbeats 8000000 in
theorem readingOf_any (w : World) (v : Value) (es : List Ev) (hV : SlE w v es) (hl : totE es + es.length ≤ 1048576) (hf : ∀ e ∈ es, wfE e) :
    Calls Try.prog 20 #[v] w fun r w' => ∃ BN B2, r = .returned (.agg #[v, .map (some BN), .map (some B2)]) ∧ Rd es BN B2 w' ∧ Below w.heap.size w w' := by
  obtain ⟨a, c, rfl⟩ := hV.sl
  have hmm := @run_makeMap Try.prog
  obtain ⟨w1, hw1⟩ : ∃ w1, w.alloc (.cells #[.slice none 0 0, .map none, .map none] 43) = w1 := ⟨_, rfl⟩
  have HW1 : Hid (w.alloc (.cells #[.slice none 0 0, .map none, .map none] 43) = w1) := hw1
  have b1 : Below w.heap.size w w1 := by rw [← hw1]; exact al_belowN w _
  have s1 : w1.heap.size = w.heap.size + 1 := by rw [← hw1]; simp
  have hD1 : w1.heap[w.heap.size]? = some (.cells #[.slice none 0 0, .map none, .map none] 43 (0, 0)) := by rw [← hw1]; exact heap_alloc_new w _
  have HB1 : Hid (Below w.heap.size w w1 ∧ w1.heap.size = w.heap.size + 1) := ⟨b1, s1⟩
  have HD1 : Hid (w1.heap[w.heap.size]? = some (.cells #[.slice none 0 0, .map none, .map none] 43 (0, 0))) := hD1
  have HV : Hid (SlE w1 (.slice a es.length c) es) := hV.stays b1
  have HL : Hid (totE es + es.length ≤ 1048576 ∧ ∀ e ∈ es, wfE e) := ⟨hl, hf⟩
  have cN := newTies_any w1 a es.length c
  clear hV hl hf hw1 b1 s1 hD1
  go_enter Try.func20, Try.ntmps20
  go_wp2_with fail
  rw [HW1.out]
  refine cN.mono ?_
  rintro e w2 ⟨b, B1, B2, rfl, hI⟩
  obtain ⟨w3, hw3⟩ : ∃ w3, w2.alloc (.cells #[.pointer (some ⟨b, 0, none⟩)] 57) = w3 := ⟨_, rfl⟩
  obtain ⟨w4, hw4⟩ : ∃ w4, w3.alloc (.map #[] 0) = w4 := ⟨_, rfl⟩
  obtain ⟨w5, hw5⟩ : ∃ w5, w4.alloc (.cells #[.slice a es.length c, .map (some w3.heap.size), .map (some B2)] 43) = w5 := ⟨_, rfl⟩
  have s3 : w3.heap.size = w2.heap.size + 1 := by rw [← hw3]; simp
  have s4 : w4.heap.size = w3.heap.size + 1 := by rw [← hw4]; simp
  have b3 : Below w2.heap.size w2 w3 := by rw [← hw3]; exact al_belowN w2 _
  have b4 : Below w3.heap.size w3 w4 := by rw [← hw4]; exact al_belowN w3 _
  have b5 : Below w4.heap.size w4 w5 := by rw [← hw5]; exact al_belowN w4 _
  have l1 := hI.at_.lt
  obtain ⟨_, _, hm1⟩ := hI.nm
  obtain ⟨_, _, hm2⟩ := hI.df
  have l2 := hm1.lt
  have l3 := hm2.lt
  have hz := hI.below.size
  have t3 : w3.heap[w2.heap.size]? = some (.cells #[.pointer (some ⟨b, 0, none⟩)] 57 (0, 0)) := by rw [← hw3]; exact heap_alloc_new w2 _
  have t4 := (b4.block _ (by omega)).trans t3
  have HR : Hid (RdI b B1 B2 w3.heap.size w2.heap.size w4.heap.size (.slice a es.length c) w1 ((Ti.start, 0), fun _ => none) w5) := by
    refine ⟨hI.stays (b3.trans ((b4.mono (by omega)).trans (b5.mono (by omega)))), ⟨0, Nat.le_refl _, ?_⟩, (b5.block _ (by omega)).trans t4, ?_, ⟨by omega, by omega, by omega⟩, ⟨by omega, by omega, by omega⟩, ⟨by omega, by omega, by omega, by omega⟩, ⟨by omega, by omega, by omega, by omega⟩⟩
    · refine (MapM.made w3 Try.prog 3 dkey Sp.val).same ?_
      rw [hw4]
      exact b5.block _ (by omega)
    · rw [← hw5]
      exact heap_alloc_new w4 _
  have c0 : w4.cell? ⟨w2.heap.size, 0, none⟩ = some (.pointer (some ⟨b, 0, none⟩)) := by rw [Lib.cell_of_heap t4]; rfl
  have c3 : w4.cell? ⟨b, 3, none⟩ = some (.map (some B2)) := (TsAt.same hI.at_ ((b4.block _ (by omega)).trans (b3.block _ (by omega)))).c3
  have cE := eachNode_cl _ _ _ _ _ _ w5 _ es (HV.out.stays ((hI.below.trans (b3.mono (by omega))).trans ((b4.mono (by omega)).trans (b5.mono (by omega))))) HL.out.1 HL.out.2 (tellRead b B1 B2 w3.heap.size w2.heap.size w4.heap.size _ w1 es HV.out HL.out.1) HR.out
  have s4' : w4.heap.size = w2.heap.size + 1 + 1 := by omega
  rw [s3, s4'] at cE
  rw [s3, s4'] at HR
  have HW5 : Hid (((w2.alloc (.cells #[.pointer (some ⟨b, 0, none⟩)] 57)).alloc (.map #[] 0)).alloc (.cells #[.slice a es.length c, .map (some (w2.heap.size + 1)), .map (some B2)] 43) = w5) := by
    show _ = _
    rw [hw3, hw4, ← s3]
    exact hw5
  rw [← hw4, ← hw3] at c0 c3
  have HH2 : Hid (Below w1.heap.size w1 w2 ∧ w1.heap.size ≤ B2) := ⟨hI.below, hI.hi.2.2⟩
  clear b3 b4 b5 t3 t4 s3 s4 s4' hI hm1 hm2 l1 l2 l3 hz cN hw3 hw4 hw5
  go_wp2_with fail
  rw [HW5.out]
  refine cE.mono ?_
  rintro r w6 ⟨rfl, hJ⟩
  obtain ⟨e1, e2⟩ := read_end es
  have HJ : Hid (Rd es (w2.heap.size + 1) B2 w6 ∧ Below w1.heap.size w1 w6) := by
    obtain ⟨m, _, h1⟩ := hJ.nd
    obtain ⟨n, _, h2⟩ := hJ.ts.df
    rw [e1] at h1
    rw [e2] at h2
    exact ⟨⟨⟨m, h1⟩, ⟨n, h2⟩⟩, hJ.ts.below⟩
  have d0 := hJ.c0
  have d1 := hJ.c1
  have d2 := hJ.c2
  have hD6 : w6.heap[w.heap.size]? = some (.cells #[.slice none 0 0, .map none, .map none] 43 (0, 0)) := (HJ.out.2.block _ (by have := HB1.out.2; omega)).trans HD1.out
  have f0 := Lib.frozen_of_heap hD6 0
  have f1 := Lib.frozen_of_heap hD6 1
  have f2 := Lib.frozen_of_heap hD6 2
  have x0 : w6.cell? ⟨w.heap.size, 0, none⟩ = some (.slice none 0 0) := by rw [Lib.cell_of_heap hD6]; rfl
  have x1 : w6.cell? ⟨w.heap.size, 1, none⟩ = some (.map none) := by rw [Lib.cell_of_heap hD6]; rfl
  have x2 : w6.cell? ⟨w.heap.size, 2, none⟩ = some (.map none) := by rw [Lib.cell_of_heap hD6]; rfl
  have HD6 : Hid (w6.heap[w.heap.size]? = some (.cells #[.slice none 0 0, .map none, .map none] 43 (0, 0))) := hD6
  clear hJ e1 e2 cE c0 c3 hD6
  have HO : Hid ((((w6.setCell ⟨w.heap.size, 0, none⟩ (.slice a es.length c)).setCell ⟨w.heap.size, 1, none⟩ (.map (some (w2.heap.size + 1)))).setCell ⟨w.heap.size, 2, none⟩ (.map (some B2))).heap[w.heap.size]? = some (.cells #[.slice a es.length c, .map (some (w2.heap.size + 1)), .map (some B2)] 43 (0, 0)) ∧ Rd es (w2.heap.size + 1) B2 (((w6.setCell ⟨w.heap.size, 0, none⟩ (.slice a es.length c)).setCell ⟨w.heap.size, 1, none⟩ (.map (some (w2.heap.size + 1)))).setCell ⟨w.heap.size, 2, none⟩ (.map (some B2))) ∧ Below w.heap.size w (((w6.setCell ⟨w.heap.size, 0, none⟩ (.slice a es.length c)).setCell ⟨w.heap.size, 1, none⟩ (.map (some (w2.heap.size + 1)))).setCell ⟨w.heap.size, 2, none⟩ (.map (some B2)))) := by
    have hs := HB1.out.2
    have hb := HH2.out.1.size
    have hB2 := HH2.out.2
    refine ⟨by simp [World.setCell, Array.getElem?_modify, HD6.out], ?_, (((HB1.out.1.trans (HJ.out.2.mono (by omega))).setCell (Nat.le_refl _) _).setCell (Nat.le_refl _) _).setCell (Nat.le_refl _) _⟩
    obtain ⟨m, h1⟩ := HJ.out.1.nd
    obtain ⟨n, h2⟩ := HJ.out.1.df
    have ne1 : w2.heap.size + 1 ≠ w.heap.size := by omega
    have ne2 : B2 ≠ w.heap.size := by omega
    exact ⟨⟨m, h1.same (((Below.heap_setCell _ _ _ _ ne1).trans (Below.heap_setCell _ _ _ _ ne1)).trans (Below.heap_setCell _ _ _ _ ne1))⟩, ⟨n, h2.same (((Below.heap_setCell _ _ _ _ ne2).trans (Below.heap_setCell _ _ _ _ ne2)).trans (Below.heap_setCell _ _ _ _ ne2))⟩⟩
  clear HJ HD6 HH2 HB1 HD1 HV HL HR HW5 HW1
  go_wp2_with fail
  refine bodyPost_ret (results_cell_row rfl _ _ w.heap.size 43 _ (0, 0) _ rfl HO.out.1 Try.underlying43 rfl (by kernel_rfl)) rfl ?_
  exact ⟨_, _, rfl, HO.out.2.1, HO.out.2.2⟩
end Go.Proofs.Ytmbbmibkjnlkkaa
/- The contracts of impl's reading.keyText and of impl.KeyText. -/
namespace Go.Proofs.Ytmbbmibkjnlkkaa
open Go.ChangeShapes Go.WideShapes Go.ChangeAt Go.RowKit Go.Maps
theorem defN_lt (l : List Ev) (i : Nat) : defN l i < (i : Int) ∧ -1 ≤ defN l i := by
  unfold defN
  split
  · exact ⟨by omega, by omega⟩
  · exact defG_lt l i _ i
def aimI (es : List Ev) (i : Int) : Int := match (tiEnd es).defs i with | none => i | some d => (d : Int)
theorem textN_no {es : List Ev} {i : Nat} (h : nodB es i = false) : textN es i = ByteArray.empty := by
  unfold nodB at h
  unfold textN
  split
  · rfl
  · rename_i e he
    rw [he] at h
    simp only at h
    rw [if_neg]
    intro h5
    unfold nodE at h
    rw [h5] at h
    simp at h
theorem tiEnd_defs {es : List Ev} (h : nested es = true) (i : Int) : (tiEnd es).defs i = if 0 ≤ i ∧ i < (es.length : Int) ∧ kindAt es i.toNat = 6 ∧ 0 ≤ defN es i.toNat then some (defN es i.toNat).toNat else none := by
  unfold tiEnd
  rw [if_pos h]
  exact (ti_gat h es.length (Nat.le_refl _)).defs i
theorem tiEnd_no {es : List Ev} (h : nested es = false) (i : Int) : (tiEnd es).defs i = none := by
  unfold tiEnd
  rw [if_neg (by rw [h]; simp)]
  rfl
theorem ndEnd_no {es : List Ev} (h : nested es = false) (i : Int) : ndEnd es i = none := by
  unfold ndEnd
  rw [if_neg (by rw [h]; simp)]
theorem ndEnd_is {es : List Ev} (h : nested es = true) (i : Int) : ndEnd es i = if 0 ≤ i ∧ i < (es.length : Int) ∧ nodB es i.toNat = true then some (fin es i.toNat) else none := by
  unfold ndEnd
  rw [if_pos h]
  rfl
/-- What a key is called, by the reading's maps. -/
theorem key_read (es : List Ev) (i : Int) : keyText es i = (match ndEnd es (aimI es i) with | none => ByteArray.empty | some _ => textN es (aimI es i).toNat) := by
  cases h : nested es with
  | false =>
    rw [ndEnd_no h]
    unfold keyText
    rw [if_pos (.inl h)]
  | true =>
    have hm : ∀ j : Int, 0 ≤ j → (match ndEnd es j with | none => ByteArray.empty | some _ => textN es j.toNat) = textN es j.toNat := by
      intro j hj
      rw [ndEnd_is h]
      by_cases hc : 0 ≤ j ∧ j < (es.length : Int) ∧ nodB es j.toNat = true
      · rw [if_pos hc]
      · rw [if_neg hc]
        by_cases hb : nodB es j.toNat = true
        · have hj2 : ¬ j < (es.length : Int) := fun e => hc ⟨hj, e, hb⟩
          show ByteArray.empty = _
          unfold textN
          rw [List.getElem?_eq_none (by omega)]
        · exact (textN_no (by simpa using hb)).symm
    unfold keyText
    by_cases hr : i < 0 ∨ (es.length : Int) ≤ i
    · rw [if_pos (.inr hr)]
      have ha : aimI es i = i := by
        unfold aimI
        rw [tiEnd_defs h, if_neg (by omega)]
      rw [ha, ndEnd_is h, if_neg (by omega)]
    · rw [if_neg (by rw [h]; simp; omega)]
      obtain ⟨e, he⟩ : ∃ e, es[i.toNat]? = some e := ⟨_, List.getElem?_eq_getElem (by omega)⟩
      have hk := kind_at he
      unfold keyN
      rw [he]
      show (if e.kind = 6 then (if defN es i.toNat < 0 then ByteArray.empty else textN es (defN es i.toNat).toNat) else textN es i.toNat) = _
      by_cases h6 : e.kind = 6
      · rw [if_pos h6]
        by_cases hd : defN es i.toNat < 0
        · have ha : aimI es i = i := by
            unfold aimI
            rw [tiEnd_defs h, if_neg (by omega)]
          rw [if_pos hd, ha, hm i (by omega)]
          unfold textN
          rw [he]
          show _ = if e.kind = 5 then e.text else ByteArray.empty
          rw [if_neg (by omega)]
        · have ha : aimI es i = ((defN es i.toNat).toNat : Int) := by
            unfold aimI
            rw [tiEnd_defs h, if_pos ⟨by omega, by omega, hk.trans h6, by omega⟩]
          rw [if_neg hd, ha, hm _ (by omega)]
          congr 1
      · have ha : aimI es i = i := by
          unfold aimI
          rw [tiEnd_defs h, if_neg (by rw [hk]; omega)]
        rw [if_neg h6, ha, hm i (by omega)]
set_option maxRecDepth 100000 in
set_option maxHeartbeats 8000000 in
theorem rdKeyText_any (w : World) (B BN B2 : Nat) (a : Option Addr) (c : Nat) (es : List Ev) (i : Int) (wi : (Lit.int .i64 i).wf = true) (hV : SlE w (.slice a es.length c) es) (hl : es.length ≤ 1048576) (hR : Rd es BN B2 w)
    (c0 : w.cell? ⟨B, 0, none⟩ = some (.slice a es.length c)) (c1 : w.cell? ⟨B, 1, none⟩ = some (.map (some BN))) (c2 : w.cell? ⟨B, 2, none⟩ = some (.map (some B2))) :
    Calls Try.prog 21 #[.pointer (some ⟨B, 0, none⟩), .int .i64 i] w fun r w' => r = .returned (.string (keyText es i)) ∧ Below w.heap.size w w' := by
  have hkr := key_read es i
  obtain ⟨o, ho⟩ : ∃ o, keyText es i = o := ⟨_, rfl⟩
  rw [ho] at hkr ⊢
  have HV : Hid (SlE w (.slice a es.length c) es) := hV
  obtain ⟨m, hN⟩ := hR.nd
  obtain ⟨n2, hD⟩ := hR.df
  obtain ⟨j, hj⟩ : ∃ j, aimI es i = j := ⟨_, rfl⟩
  rw [hj] at hkr
  have HK : Hid (o = (match ndEnd es j with | none => ByteArray.empty | some _ => textN es j.toNat)) := hkr
  have hwj : (Lit.int .i64 j).wf = true := by
    rw [← hj]
    unfold aimI
    cases hd : (tiEnd es).defs i with
    | none => exact wi
    | some d =>
      cases hn : nested es with
      | false => rw [tiEnd_no hn] at hd; cases hd
      | true =>
        rw [tiEnd_defs hn] at hd
        split at hd
        · injection hd with hd
          have := (defN_lt es i.toNat).1
          show (Lit.int .i64 (d : Int)).wf = true
          exact WalkArith.wf_i64 (by omega)
        · cases hd
  have HJ : Hid (aimI es i = j) := hj
  clear hj ho hkr hR
  -- the node at j
  have tail : ∀ (K : Prop), K → K := fun _ h => h
  cases hn : ndEnd es j with
  | none =>
    have HO : Hid (ByteArray.empty = o) := by show _ = _; rw [HK.out, hn]
    have hl2 := hN.look_no dkeyed Try.underlying40 (zeroSp w) (dkey_mk hwj) hn
    have HB : Hid (Below w.heap.size w (w.alloc (.cells #[.int .i64 0, .int .i64 0, .int .i64 0] 64))) := al_belowN w _
    clear hn HK hN tail hV hl
    cases hd : (tiEnd es).defs i with
    | none =>
      have hij : i = j := by have := HJ.out; unfold aimI at this; rw [hd] at this; exact this
      subst hij
      have hl1 := hD.look_no dkeyed Try.underlying41 (zeroNum w) (dkey_mk wi) hd
      clear hd hD HJ
      go_enter Try.func21, Try.ntmps21
      go_wp2_with fail
      go_ret
      exact ⟨ret_tP HO.out, HB.out⟩
    | some d =>
      have hij : (d : Int) = j := by have := HJ.out; unfold aimI at this; rw [hd] at this; exact this
      subst hij
      have hl1 := hD.look_yes dkeyed Try.underlying41 (zeroNum w) (dkey_mk wi) hd
      unfold natV at hl1
      clear hd hD HJ
      go_enter Try.func21, Try.ntmps21
      go_wp2_with fail
      go_ret
      exact ⟨ret_tP HO.out, HB.out⟩
  | some n =>
    have hl2 := hN.look_yes dkeyed Try.underlying40 (zeroSp w) (dkey_mk hwj) hn
    unfold Sp.val at hl2
    have HO : Hid (textN es j.toNat = o) := by show _ = _; rw [HK.out, hn]
    have hr : 0 ≤ j ∧ j < (es.length : Int) := by
      cases hne : nested es with
      | false => rw [ndEnd_no hne] at hn; cases hn
      | true =>
        rw [ndEnd_is hne] at hn
        split at hn
        · rename_i h; exact ⟨h.1, h.2.1⟩
        · cases hn
    obtain ⟨k, rfl⟩ : ∃ k : Nat, j = (k : Int) := ⟨j.toNat, by omega⟩
    obtain ⟨e, he⟩ : ∃ e, es[k]? = some e := ⟨_, List.getElem?_eq_getElem (by omega)⟩
    have HT : Hid ((if e.kind = 5 then e.text else ByteArray.empty) = o) := by
      have := HO.out
      rw [show (k : Int).toNat = k by omega] at this
      unfold textN at this
      rw [he] at this
      exact this
    obtain ⟨W, hW⟩ : ∃ W, w.alloc (.cells #[.int .i64 (n.at_ : Int), .int .i64 n.end_, .int .i64 n.up] 64) = W := ⟨_, rfl⟩
    have hbW : Below w.heap.size w W := by rw [← hW]; exact al_belowN w _
    obtain ⟨bb, off, rfl, _, ⟨e0, _, _, e3, _, _, _, _⟩⟩ := HV.out.at hbW he
    have hB : B < w.heap.size := World.block_lt_of_cell? w _ c0
    have d0 : W.cell? ⟨B, 0, none⟩ = some (.slice (some ⟨bb, off, none⟩) es.length c) := by rw [hbW.cell hB]; exact c0
    have HB : Hid (Below w.heap.size w W) := hbW
    have hk0 : (k : Int) < (es.length : Int) := by omega
    have HW : Hid (w.alloc (.cells #[.int .i64 (n.at_ : Int), .int .i64 n.end_, .int .i64 n.up] 64) = W) := hW
    rw [← hW] at d0 e0 e3
    obtain ⟨kd, hkd⟩ : ∃ kd, e.kind = kd := ⟨_, rfl⟩
    obtain ⟨tx, htx⟩ : ∃ tx, e.text = tx := ⟨_, rfl⟩
    rw [hkd] at e0 HT
    rw [htx] at e3 HT
    clear hn HK hN tail hV hl hbW hW HO hr hB hkd htx he hwj
    cases hd : (tiEnd es).defs i with
    | none =>
      have hij : i = (k : Int) := by have := HJ.out; unfold aimI at this; rw [hd] at this; exact this
      subst hij
      have hl1 := hD.look_no dkeyed Try.underlying41 (zeroNum w) (dkey_mk wi) hd
      clear hd hD HJ
      by_cases h5 : kd = 5
      · subst h5
        have HO : Hid (tx = o) := HT.out
        clear HT
        go_enter Try.func21, Try.ntmps21
        go_wp2_with fail
        rw [HW.out]
        go_ret
        exact ⟨ret_tP HO.out, HB.out⟩
      · have t5 : (kd == 5) = false := by rw [beq_eq_false_iff_ne]; exact h5
        have HO : Hid (ByteArray.empty = o) := by show _ = _; rw [← HT.out, if_neg h5]
        clear HT h5
        go_enter Try.func21, Try.ntmps21
        go_wp2_with fail
        rw [HW.out]
        go_ret
        exact ⟨ret_tP HO.out, HB.out⟩
    | some d =>
      have hij : (d : Int) = (k : Int) := by have := HJ.out; unfold aimI at this; rw [hd] at this; exact this
      obtain rfl : d = k := by omega
      have hl1 := hD.look_yes dkeyed Try.underlying41 (zeroNum w) (dkey_mk wi) hd
      unfold natV at hl1
      clear hd hD HJ hij
      by_cases h5 : kd = 5
      · subst h5
        have HO : Hid (tx = o) := HT.out
        clear HT
        go_enter Try.func21, Try.ntmps21
        go_wp2_with fail
        rw [HW.out]
        go_ret
        exact ⟨ret_tP HO.out, HB.out⟩
      · have t5 : (kd == 5) = false := by rw [beq_eq_false_iff_ne]; exact h5
        have HO : Hid (ByteArray.empty = o) := by show _ = _; rw [← HT.out, if_neg h5]
        clear HT h5
        go_enter Try.func21, Try.ntmps21
        go_wp2_with fail
        rw [HW.out]
        go_ret
        exact ⟨ret_tP HO.out, HB.out⟩
set_option maxHeartbeats 4000000 in
theorem implKt (w : World) (v : Value) (es : List Ev) (i : Int) (hV : SlE w v es) (hl : totE es + es.length ≤ 1048576) (hf : ∀ e ∈ es, wfE e) (wi : (Lit.int .i64 i).wf = true) :
    Calls Try.prog 8 #[v, .int .i64 i] w fun r w' => r = .returned (.string (keyText es i)) ∧ Below w.heap.size w w' := by
  obtain ⟨a, c, rfl⟩ := hV.sl
  have cR := readingOf_any w _ es hV hl hf
  have HV : Hid (SlE w (.slice a es.length c) es ∧ es.length ≤ 1048576 ∧ (Lit.int .i64 i).wf = true) := ⟨hV, by omega, wi⟩
  clear hV hl hf wi
  go_enter Try.func8, Try.ntmps8
  go_wp2_with fail
  refine cR.mono ?_
  rintro e w1 ⟨BN, B2, rfl, hR, hb1⟩
  obtain ⟨W, hW⟩ : ∃ W, w1.alloc (.cells #[.slice a es.length c, .map (some BN), .map (some B2)] 43) = W := ⟨_, rfl⟩
  have hbW : Below w1.heap.size w1 W := by rw [← hW]; exact al_belowN w1 _
  have hx : W.heap[w1.heap.size]? = some (.cells #[.slice a es.length c, .map (some BN), .map (some B2)] 43 (0, 0)) := by rw [← hW]; exact heap_alloc_new w1 _
  have HW : Hid (w1.alloc (.cells #[.slice a es.length c, .map (some BN), .map (some B2)] 43) = W) := hW
  have HB : Hid (Below w.heap.size w W) := hb1.trans (hbW.mono hb1.size)
  have HC : Hid (Calls Try.prog 21 #[.pointer (some ⟨w1.heap.size, 0, none⟩), .int .i64 i] W fun r w' => r = .returned (.string (keyText es i)) ∧ Below W.heap.size W w') :=
    rdKeyText_any W _ BN B2 a c es i HV.out.2.2 (HV.out.1.stays HB.out) HV.out.2.1 (hR.stays hbW) (by rw [Lib.cell_of_heap hx]; rfl) (by rw [Lib.cell_of_heap hx]; rfl) (by rw [Lib.cell_of_heap hx]; rfl)
  clear hb1 hbW hx hW cR hR
  go_wp2_with fail
  rw [HW.out]
  refine HC.out.mono ?_
  rintro e w2 ⟨rfl, hb2⟩
  have HB2 : Hid (Below w.heap.size w w2) := HB.out.trans (hb2.mono HB.out.size)
  clear hb2 HC
  go_wp2_with fail
  go_ret
  exact ⟨rfl, HB2.out⟩
end Go.Proofs.Ytmbbmibkjnlkkaa
/- KeyText: impl's contract as the law asks it. -/
namespace Go.Proofs.Ytmbbmibkjnlkkaa
theorem implKtL : ImplKt := fun w v es i h1 h2 h3 h4 => implKt w v es i h1 h2 h3 h4
end Go.Proofs.Ytmbbmibkjnlkkaa

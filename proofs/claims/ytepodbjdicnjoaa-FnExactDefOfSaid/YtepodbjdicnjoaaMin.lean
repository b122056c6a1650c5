/- Several texts in one: Isp Ien. -/
import Derived.Test.YtepodbjdicnjoaaIns
import Derived.Test.YtepodbjdicnjoaaMpn
import Derived.Test.YtepodbjdicnjoaaInt
import Derived.Test.YtepodbjdicnjoaaLne
import Derived.Deep.RegionHeld3
/- The contracts of impl.spansOf and impl.eachNode. -/
namespace Go.Proofs.Ytepodbjdicnjoaa
open Go.ChangeShapes Go.WideShapes Go.ChangeAt Go.RowKit
theorem spans_le (es : List Ev) (k : Nat) : (spansTo es k).length ≤ k := by
  unfold spansTo
  rw [List.length_map]
  exact nodesTo_le es k
theorem stk_le (es : List Ev) : ∀ k, (stk es k).length ≤ k
  | 0 => Nat.le_refl _
  | k + 1 => by
    have ih := stk_le es k
    rw [stk]
    split
    · omega
    · split
      · rw [List.length_cons]; omega
      · split
        · rw [List.length_tail]; omega
        · omega
theorem begin_at (b : Nat) (es : List Ev) (k : Nat) (hk : k < es.length) (w : World) (hG : Ng b (spansTo es k) (opensTo es k) w) (hl : es.length ≤ 1048576) :
    Calls Try.prog 57 #[.pointer (some ⟨b, 0, none⟩), .int .i64 (k : Int)] w fun e w' => e = .returned (.tuple #[]) ∧ Ng b (spansTo es k ++ [⟨k, -1, headI (stk es k)⟩]) ((spansTo es k).length :: opensTo es k) w' ∧ Below b w w' := by
  have hsl := spans_le es k
  have hkl := stk_le es k
  cases hs : stk es k with
  | nil =>
    have ho : opensTo es k = [] := by unfold opensTo; rw [hs]; rfl
    rw [ho] at hG ⊢
    exact begin_none b _ k w hG (by omega)
  | cons j q =>
    have ho : opensTo es k = openAt es j :: q.map (openAt es) := by unfold opensTo; rw [hs]; rfl
    obtain ⟨s, hs1, hs2⟩ := opens_top hs
    rw [ho] at hG ⊢
    have := begin_some b _ (openAt es j) (q.map (openAt es)) s k w hG (by omega) (by rw [List.length_map]; rw [hs] at hkl; simp at hkl; omega) hs1
    rw [hs2] at this
    exact this
theorem col_step (b : Nat) (es : List Ev) (k : Nat) (e : Ev) (he : es[k]? = some e) (hc : e.kind = 3 ∨ e.kind = 4) (hl : es.length ≤ 1048576) (w : World) (hG : Ng b (spansTo es k) (opensTo es k) w) :
    Calls Try.prog 57 #[.pointer (some ⟨b, 0, none⟩), .int .i64 (k : Int)] w fun r w' => r = .returned (.tuple #[]) ∧ Ng b (spansTo es (k + 1)) (opensTo es (k + 1)) w' ∧ Below b w w' := by
  have hc' : colE e = true := by unfold colE; simp; omega
  rw [spans_col he hc', opens_col he hc']
  exact begin_at b es k (List.getElem?_eq_some_iff.1 he).1 w hG hl
theorem leaf_step (b : Nat) (es : List Ev) (k : Nat) (e : Ev) (he : es[k]? = some e) (hc : e.kind = 5 ∨ e.kind = 6) (hl : es.length ≤ 1048576) (w : World) (hG : Ng b (spansTo es k ++ [⟨k, -1, headI (stk es k)⟩]) ((spansTo es k).length :: opensTo es k) w) :
    Calls Try.prog 58 #[.pointer (some ⟨b, 0, none⟩), .int .i64 (k : Int)] w fun r w' => r = .returned (.tuple #[]) ∧ Ng b (spansTo es (k + 1)) (opensTo es (k + 1)) w' ∧ Below b w w' := by
  have hk := (List.getElem?_eq_some_iff.1 he).1
  have hsl := spans_le es k
  have hkl := stk_le es k
  have hcf : colE e = false := by unfold colE; simp; omega
  have hol : (opensTo es k).length ≤ k := by unfold opensTo; rw [List.length_map]; exact hkl
  have := nend_any b (spansTo es k ++ [⟨k, -1, headI (stk es k)⟩]) (spansTo es k).length (opensTo es k) ⟨k, -1, headI (stk es k)⟩ k w hG (by simp; omega) (by omega) (by simp)
  rw [spans_leaf he hc, opens_else he hcf (by omega)]
  have hset : (spansTo es k ++ [(⟨k, -1, headI (stk es k)⟩ : Sp)]).set (spansTo es k).length (⟨k, (k : Int), headI (stk es k)⟩ : Sp) = spansTo es k ++ [⟨k, (k : Int), headI (stk es k)⟩] := by
    rw [List.set_append_right _ _ (Nat.le_refl _)]
    simp
  simp only [] at this
  rw [hset] at this
  exact this
theorem end_step (b : Nat) (es : List Ev) (hN : nested es = true) (k : Nat) (e : Ev) (he : es[k]? = some e) (h7 : e.kind = 7) (hl : es.length ≤ 1048576) (w : World) (hG : Ng b (spansTo es k) (opensTo es k) w) :
    Calls Try.prog 58 #[.pointer (some ⟨b, 0, none⟩), .int .i64 (k : Int)] w fun r w' => r = .returned (.tuple #[]) ∧ Ng b (spansTo es (k + 1)) (opensTo es (k + 1)) w' ∧ Below b w w' := by
  have hk := (List.getElem?_eq_some_iff.1 he).1
  have hsl := spans_le es k
  have hkl := stk_le es k
  have hne := (ns_at hN he).end_ h7
  cases hs : stk es k with
  | nil => exact absurd hs hne
  | cons j q =>
    obtain ⟨h1, h2⟩ := spans_end he h7 hs
    have h3 := opens_end he h7 hs
    rw [h3] at hG
    have hol : (opensTo es k).length ≤ k := by unfold opensTo; rw [List.length_map]; exact hkl
    rw [h3, List.length_cons] at hol
    have := nend_any b _ _ _ _ k w hG (by omega) (by omega) h1
    rw [h2]
    exact this
def OwnS (w : World) (l : List Sp) (e : Ending) (w' : World) : Prop := ∃ a n c, e = .returned (.slice a n c) ∧ w'.ownsRow w.heap.size 58 3 (.slice a n c) l.length (rowsS l) ∧ Below w.heap.size w w'
theorem row_lowS {w : World} {lo lo' e sz : Nat} {v : Value} {n : Nat} {xs : List Value} (h : w.ownsRow lo e sz v n xs) (hl : lo' ≤ lo) : w.ownsRow lo' e sz v n xs := by
  refine ⟨h.1, ?_⟩
  rcases h.2 with hn | ⟨g, cap, cur, e1, e2, rest⟩
  · exact .inl hn
  · exact .inr ⟨g, cap, cur, e1, by omega, rest⟩
set_option maxHeartbeats 8000000 in
theorem spansOf_any (w : World) (v : Value) (es : List Ev) (hV : SlE w v es) (hl : es.length ≤ 1048576) (hN : nested es = true) : Calls Try.prog 50 #[v] w (OwnS w (spansF es)) := by
  obtain ⟨a, c, rfl⟩ := hV.sl
  have HV : Hid (SlE w (.slice a es.length c) es) := hV
  have HL : Hid (es.length ≤ 1048576) := hl
  have HN : Hid (nested es = true) := hN
  have hlen : (es.length : Int) ≤ 1048576 := by omega
  have HI0 : Hid (Ng w.heap.size (spansTo es 0) (opensTo es 0) (w.alloc (.cells #[.slice none 0 0, .slice none 0 0] 71)) ∧ Below w.heap.size w (w.alloc (.cells #[.slice none 0 0, .slice none 0 0] 71))) :=
    ⟨⟨none, 0, 0, none, 0, 0, heap_alloc_new w _, ⟨rfl, .inl ⟨rfl, rfl⟩⟩, ⟨rfl, .inl ⟨rfl, rfl⟩⟩⟩, (Below.refl _ w).alloc (Nat.le_refl _) _⟩
  clear hV hl hN
  go_enter Try.func50, Try.ntmps50
  go_wp2_with fail
  go_loopw [8] (fun kv wr => ∃ k : Nat, kv = .int .i64 (k : Int) ∧ k ≤ es.length ∧ Hid (Ng w.heap.size (spansTo es k) (opensTo es k) wr ∧ Below w.heap.size w wr)) (fun kv _ => es.length - (intOf kv).toNat)
  case atStart => exact ⟨0, rfl, Nat.zero_le _, HI0⟩
  case round =>
    clear HI0
    obtain ⟨k, rfl, hk, HIN⟩ := hrel
    by_cases hlt : k < es.length
    · obtain ⟨e, hx⟩ : ∃ e, es[k]? = some e := ⟨_, List.getElem?_eq_getElem hlt⟩
      have HX : Hid (es[k]? = some e) := hx
      obtain ⟨bb, off, rfl, _, ⟨c0, c1, c2, c3, c4, c5, c6, c7⟩⟩ := HV.out.at HIN.out.2 hx
      have hlt' : (k : Int) < (es.length : Int) := by omega
      have HLT : Hid (k < es.length) := hlt
      clear hx hlt hk
      obtain ⟨kind, style, flag, text, anchor, tag, at_, code⟩ := e
      simp only at c0 c1 c2 c3 c4 c5 c6 c7
      obtain ⟨W, hW⟩ : ∃ W, wr.alloc (.cells #[.int .i64 kind, .int .i64 style, .bool flag, .string text, .string anchor, .string tag, .int .i64 at_, .int .i64 code] 39) = W := ⟨_, rfl⟩
      have HBW : Hid (Below wr.heap.size wr W) := by show Below _ _ _; rw [← hW]; exact (Below.refl _ wr).alloc (Nat.le_refl _) _
      have HG : Hid (Ng w.heap.size (spansTo es k) (opensTo es k) W) := HIN.out.1.stays HBW.out
      have HB : Hid (Below w.heap.size w W) := HIN.out.2.trans (HBW.out.mono HIN.out.2.size)
      have q0 : W.cell? ⟨wr.heap.size, 0, none⟩ = some (.int .i64 kind) := by rw [← hW]; exact (ev_at (heap_alloc_new wr _)).1
      have HW : Hid (wr.alloc (.cells #[.int .i64 kind, .int .i64 style, .bool flag, .string text, .string anchor, .string tag, .int .i64 at_, .int .i64 code] 39) = W) := hW
      clear hW HBW HIN
      by_cases h3 : kind = 3
      · subst h3
        have hC := col_step w.heap.size es k _ HX.out (.inl rfl) HL.out W HG.out
        go_wp2_with fail
        rw [HW.out]
        clear c0 c1 c2 c3 c4 c5 c6 c7 HW
        go_wp2_with fail
        refine hC.mono ?_
        rintro r w1 ⟨rfl, hg1, hb1⟩
        have HO : Hid (Ng w.heap.size (spansTo es (k + 1)) (opensTo es (k + 1)) w1 ∧ Below w.heap.size w w1) := ⟨hg1, HB.out.trans hb1⟩
        clear hC hg1 hb1 q0
        go_wp2_with fail
        go_roundw
        case rel => exact ⟨k + 1, by go_num, HLT.out, HO⟩
        case measure => have := HLT.out; simp [intOf]; omega
      have t3 : (kind == 3) = false := by rw [beq_eq_false_iff_ne]; exact h3
      by_cases h4 : kind = 4
      · subst h4
        have hC := col_step w.heap.size es k _ HX.out (.inr rfl) HL.out W HG.out
        go_wp2_with fail
        rw [HW.out]
        clear c0 c1 c2 c3 c4 c5 c6 c7 HW
        go_wp2_with fail
        refine hC.mono ?_
        rintro r w1 ⟨rfl, hg1, hb1⟩
        have HO : Hid (Ng w.heap.size (spansTo es (k + 1)) (opensTo es (k + 1)) w1 ∧ Below w.heap.size w w1) := ⟨hg1, HB.out.trans hb1⟩
        clear hC hg1 hb1 q0
        go_wp2_with fail
        go_roundw
        case rel => exact ⟨k + 1, by go_num, HLT.out, HO⟩
        case measure => have := HLT.out; simp [intOf]; omega
      have t4 : (kind == 4) = false := by rw [beq_eq_false_iff_ne]; exact h4
      by_cases h5 : kind = 5
      · subst h5
        have hC := begin_at w.heap.size es k HLT.out W HG.out HL.out
        go_wp2_with fail
        rw [HW.out]
        clear c0 c1 c2 c3 c4 c5 c6 c7 HW
        go_wp2_with fail
        refine hC.mono ?_
        rintro r w1 ⟨rfl, hg1, hb1⟩
        have hD := leaf_step w.heap.size es k _ HX.out (.inl rfl) HL.out w1 hg1
        have HB1 : Hid (Below w.heap.size w w1) := HB.out.trans hb1
        clear hC hg1 hb1 q0
        go_wp2_with fail
        refine hD.mono ?_
        rintro r w2 ⟨rfl, hg2, hb2⟩
        have HO : Hid (Ng w.heap.size (spansTo es (k + 1)) (opensTo es (k + 1)) w2 ∧ Below w.heap.size w w2) := ⟨hg2, HB1.out.trans hb2⟩
        clear hD hg2 hb2
        go_wp2_with fail
        go_roundw
        case rel => exact ⟨k + 1, by go_num, HLT.out, HO⟩
        case measure => have := HLT.out; simp [intOf]; omega
      have t5 : (kind == 5) = false := by rw [beq_eq_false_iff_ne]; exact h5
      by_cases h6 : kind = 6
      · subst h6
        have hC := begin_at w.heap.size es k HLT.out W HG.out HL.out
        go_wp2_with fail
        rw [HW.out]
        clear c0 c1 c2 c3 c4 c5 c6 c7 HW
        go_wp2_with fail
        refine hC.mono ?_
        rintro r w1 ⟨rfl, hg1, hb1⟩
        have hD := leaf_step w.heap.size es k _ HX.out (.inr rfl) HL.out w1 hg1
        have HB1 : Hid (Below w.heap.size w w1) := HB.out.trans hb1
        clear hC hg1 hb1 q0
        go_wp2_with fail
        refine hD.mono ?_
        rintro r w2 ⟨rfl, hg2, hb2⟩
        have HO : Hid (Ng w.heap.size (spansTo es (k + 1)) (opensTo es (k + 1)) w2 ∧ Below w.heap.size w w2) := ⟨hg2, HB1.out.trans hb2⟩
        clear hD hg2 hb2
        go_wp2_with fail
        go_roundw
        case rel => exact ⟨k + 1, by go_num, HLT.out, HO⟩
        case measure => have := HLT.out; simp [intOf]; omega
      have t6 : (kind == 6) = false := by rw [beq_eq_false_iff_ne]; exact h6
      by_cases h7 : kind = 7
      · subst h7
        have hC := end_step w.heap.size es HN.out k _ HX.out rfl HL.out W HG.out
        go_wp2_with fail
        rw [HW.out]
        clear c0 c1 c2 c3 c4 c5 c6 c7 HW
        go_wp2_with fail
        refine hC.mono ?_
        rintro r w1 ⟨rfl, hg1, hb1⟩
        have HO : Hid (Ng w.heap.size (spansTo es (k + 1)) (opensTo es (k + 1)) w1 ∧ Below w.heap.size w w1) := ⟨hg1, HB.out.trans hb1⟩
        clear hC hg1 hb1 q0
        go_wp2_with fail
        go_roundw
        case rel => exact ⟨k + 1, by go_num, HLT.out, HO⟩
        case measure => have := HLT.out; simp [intOf]; omega
      have t7 : (kind == 7) = false := by rw [beq_eq_false_iff_ne]; exact h7
      have HO : Hid (Ng w.heap.size (spansTo es (k + 1)) (opensTo es (k + 1)) W ∧ Below w.heap.size w W) := by
        refine ⟨?_, HB.out⟩
        have hnn : nodE ⟨kind, style, flag, text, anchor, tag, at_, code⟩ = false := by
          unfold nodE
          simp
          omega
        rw [spans_else HX.out hnn h7, opens_else HX.out (by unfold colE; simp; omega) h7]
        exact HG.out
      clear h3 h4 h5 h6 h7
      go_wp2_with fail
      rw [HW.out]
      clear c0 c1 c2 c3 c4 c5 c6 c7 HW
      go_wp2_with fail
      go_roundw
      case rel => exact ⟨k + 1, by go_num, HLT.out, HO⟩
      case measure => have := HLT.out; simp [intOf]; omega
    · have hlt' : ¬ (k : Int) < (es.length : Int) := by omega
      have hke : k = es.length := by omega
      subst hke
      obtain ⟨hG, hB⟩ := HIN.out
      rw [spans_all] at hG
      obtain ⟨sa, sn, sc, oa, on, oc, h1, h2, h3⟩ := hG
      have c0 := h1.c0
      have HO : Hid (OwnS w (spansF es) (.returned (.slice sa sn sc)) wr) := ⟨sa, sn, sc, rfl, row_lowS h2 (Nat.le_succ _), hB⟩
      clear h1 h2 h3 hB HIN hk hlt
      go_wp2_with fail
      go_ret
      exact HO.out
end Go.Proofs.Ytepodbjdicnjoaa
/- The contract of impl.eachNode, over what is asked of the function that is told each node; EndOf and UpOf. -/
namespace Go.Proofs.Ytepodbjdicnjoaa
open Go.ChangeShapes Go.WideShapes Go.ChangeAt Go.RowKit
def Sp.val (n : Sp) : Value := .agg #[.int .i64 (n.at_ : Int), .int .i64 n.end_, .int .i64 n.up]
/-- No block of nodes is changed. -/
def KeepS (w w' : World) : Prop := ∀ (k : Nat) (cs : Array Value) (fr : Nat × Nat), w.heap[k]? = some (.cells cs 58 fr) → w'.heap[k]? = some (.cells cs 58 fr)
theorem KeepS.of {w w' : World} (h : Below w.heap.size w w') : KeepS w w' := fun k _ _ hk => (h.block k (Array.getElem?_eq_some_iff.1 hk).1).trans hk
theorem KeepS.trans {a b c : World} (h : KeepS a b) (k : KeepS b c) : KeepS a c := fun j cs fr hj => k j cs fr (h j cs fr hj)
theorem KeepS.set {w0 w : World} (h : KeepS w0 w) {b j : Nat} {cs : Array Value} {t : TypeId} {fr : Nat × Nat} (hb : w.heap[b]? = some (.cells cs t fr)) (ht : t ≠ 58) (v : Value) : KeepS w0 (w.setCell ⟨b, j, none⟩ v) := by
  intro k cs' fr' hk
  have hk2 := h k cs' fr' hk
  by_cases e : k = b
  · subst e
    rw [hb] at hk2
    injection hk2 with hk2
    injection hk2 with _ h2
    exact absurd h2 ht
  · rw [Below.heap_setCell _ _ _ _ e]
    exact hk2
theorem rowS_keep {w w' : World} {lo : Nat} {v : Value} {n : Nat} {xs : List Value} (h : w.ownsRow lo 58 3 v n xs) (hk : KeepS w w') : w'.ownsRow lo 58 3 v n xs := by
  refine ⟨h.1, ?_⟩
  rcases h.2 with hn | ⟨g, cap, cur, e1, e2, hg, rest⟩
  · exact .inl hn
  · exact .inr ⟨g, cap, cur, e1, e2, hk g cur (0, 0) hg, rest⟩
/-- What is asked of the function that is told each node. -/
structure TellC {α : Type} (g : Nat) (rv : Value) (L : List Sp) (F : α → Sp → α) (I : α → World → Prop) (a0 : α) : Prop where
  enters : ∀ args w, (callFunc g args).run Try.prog w = .ok (.enter g args) w
  stays : ∀ a w w', I a w → Below w.heap.size w w' → I a w'
  call : ∀ k n w, L[k]? = some n → I ((L.take k).foldl F a0) w → Calls Try.prog g #[rv, n.val] w fun e w' => e = .returned (.tuple #[]) ∧ I (F ((L.take k).foldl F a0) n) w' ∧ KeepS w w'
set_option maxHeartbeats 8000000 in
theorem eachNode_any {α : Type} (g : Nat) (rv : Value) (F : α → Sp → α) (I : α → World → Prop) (a : α) (w : World) (v : Value) (es : List Ev) (hV : SlE w v es) (hl : totE es + es.length ≤ 1048576) (hf : ∀ e ∈ es, wfE e) (hT : TellC g rv (spansF es) F I a) (hI : I a w) :
    Calls Try.prog 35 #[v, .func (.func g) #[rv] #[]] w fun e w' => e = .returned (.bool (nested es)) ∧ I (if nested es = true then gat es F a es.length else a) w' := by
  have eg := hT.enters
  have HV : Hid (SlE w v es) := hV
  have HL : Hid (es.length ≤ 1048576) := by show es.length ≤ 1048576; omega
  have HI : Hid (I a w) := hI
  have cN := implNe w v es hV hl hf
  obtain ⟨L, hL⟩ : ∃ L, spansF es = L := ⟨_, rfl⟩
  rw [hL] at hT
  have HT : Hid (TellC g rv L F I a) := hT
  have hLl : L.length ≤ 1048576 := by
    rw [← hL]
    unfold spansF
    rw [List.length_map]
    have := nodesTo_le es es.length
    omega
  have HLL : Hid (spansF es = L) := hL
  have HLN : Hid (L.length ≤ 1048576) := hLl
  cases hn : nested es with
  | false =>
    rw [hn] at cN
    clear hV hl hf hT hI hLl hn
    go_enter Try.func35, Try.ntmps35
    go_wp2_with fail
    refine cN.mono ?_
    rintro e w1 ⟨rfl, hb1⟩
    have HO : Hid (I a w1) := HT.out.stays _ _ _ HI.out hb1
    clear hb1 cN
    go_wp2_with fail
    go_ret
    exact ⟨rfl, HO.out⟩
  | true =>
    have HN : Hid (nested es = true) := hn
    rw [hn] at cN
    simp only [if_true]
    have HR : Hid (gat es F a es.length = L.foldl F a) := by
      show _ = _
      rw [← hL]
      rfl
    rw [HR.out]
    clear hV hl hf hT hI hLl hn hL
    go_enter Try.func35, Try.ntmps35
    go_wp2_with fail
    refine cN.mono ?_
    rintro e w1 ⟨rfl, hb1⟩
    have HI1 : Hid (I a w1) := HT.out.stays _ _ _ HI.out hb1
    have cS := spansOf_any w1 v es (HV.out.stays hb1) HL.out HN.out
    rw [HLL.out] at cS
    clear hb1 cN
    go_wp2_with fail
    refine cS.mono ?_
    rintro e w2 ⟨sa, sn, sc, rfl, hrow, hb2⟩
    obtain rfl := slen hrow
    have HRW : Hid (w2.ownsRow w1.heap.size 58 3 (.slice sa L.length sc) L.length (rowsS L)) := hrow
    have HI2 : Hid (I (([] : List Sp).foldl F a) w2) := HT.out.stays _ _ _ HI1.out hb2
    clear hrow hb2 cS
    have hlen : (L.length : Int) ≤ 1048576 := by have := HLN.out; omega
    go_wp2_with fail
    go_loopw [13] (fun kv wr => ∃ k : Nat, kv = .int .i64 (k : Int) ∧ k ≤ L.length ∧ Hid (I ((L.take k).foldl F a) wr ∧ wr.ownsRow w1.heap.size 58 3 (.slice sa L.length sc) L.length (rowsS L))) (fun kv _ => L.length - (intOf kv).toNat)
    case atStart => exact ⟨0, rfl, Nat.zero_le _, HI2.out, HRW.out⟩
    case round =>
      clear HI2 HRW HI HI1
      obtain ⟨k, rfl, hk, HIN⟩ := hrel
      by_cases hlt : k < L.length
      · obtain ⟨n, hx⟩ : ∃ n, L[k]? = some n := ⟨_, List.getElem?_eq_getElem hlt⟩
        obtain ⟨gs, gc, cur, hsv, hs1, hs2, hs3, hs4, t0, t1, t2, _⟩ := rowS_at HIN.out.2 hx
        injection hsv with hsa _ hsc
        subst hsa
        subst hsc
        have hlt' : (k : Int) < (L.length : Int) := by omega
        have HLT : Hid (k < L.length) := hlt
        have htk : (L.take (k + 1)).foldl F a = F ((L.take k).foldl F a) n := by
          rw [List.take_add_one, hx, List.foldl_append]
          rfl
        obtain ⟨W, hW⟩ : ∃ W, wr.alloc (.cells #[.int .i64 (n.at_ : Int), .int .i64 n.end_, .int .i64 n.up] 58) = W := ⟨_, rfl⟩
        have hBW : Below wr.heap.size wr W := by rw [← hW]; exact (Below.refl _ wr).alloc (Nat.le_refl _) _
        have HIW : Hid (I ((L.take k).foldl F a) W) := HT.out.stays _ _ _ HIN.out.1 hBW
        have HRW : Hid (W.ownsRow w1.heap.size 58 3 (.slice (some ⟨gs, 0, none⟩) L.length sc) L.length (rowsS L)) := row_stays HIN.out.2 hBW
        have hnew : W.heap[wr.heap.size]? = some (.cells #[.int .i64 (n.at_ : Int), .int .i64 n.end_, .int .i64 n.up] 58 (0, 0)) := by rw [← hW]; exact heap_alloc_new wr _
        have u0 : W.cell? ⟨wr.heap.size, 0, none⟩ = some (.int .i64 (n.at_ : Int)) := Lib.cell_of_heap hnew 0
        have u1 : W.cell? ⟨wr.heap.size, 1, none⟩ = some (.int .i64 n.end_) := Lib.cell_of_heap hnew 1
        have u2 : W.cell? ⟨wr.heap.size, 2, none⟩ = some (.int .i64 n.up) := Lib.cell_of_heap hnew 2
        have cG := HT.out.call k n W hx HIW.out
        rw [← htk] at cG
        unfold Sp.val at cG
        have HW : Hid (wr.alloc (.cells #[.int .i64 (n.at_ : Int), .int .i64 n.end_, .int .i64 n.up] 58) = W) := hW
        clear hx hlt hk hs1 hs2 hs3 hs4 hW hBW hnew HIN HIW htk
        go_wp2_with fail
        rw [HW.out]
        clear HW t0 t1 t2
        go_wp2_with (go_at_fn g; refine cG.mono ?_; rintro e w3 ⟨rfl, hi3, hk3⟩)
        have HO : Hid (I ((L.take (k + 1)).foldl F a) w3 ∧ w3.ownsRow w1.heap.size 58 3 (.slice (some ⟨gs, 0, none⟩) L.length sc) L.length (rowsS L)) := ⟨hi3, rowS_keep HRW.out hk3⟩
        clear hi3 hk3 cG u0 u1 u2 HRW
        go_wp2_with fail
        go_roundw
        case rel => exact ⟨k + 1, by go_num, HLT.out, HO⟩
        case measure => have := HLT.out; simp [intOf]; omega
      · have hlt' : ¬ (k : Int) < (L.length : Int) := by omega
        have HO : Hid (I (L.foldl F a) wr) := by
          have := HIN.out.1
          rw [List.take_of_length_le (by omega)] at this
          exact this
        clear HIN hk hlt
        go_wp2_with fail
        go_ret
        exact ⟨rfl, HO.out⟩
end Go.Proofs.Ytepodbjdicnjoaa

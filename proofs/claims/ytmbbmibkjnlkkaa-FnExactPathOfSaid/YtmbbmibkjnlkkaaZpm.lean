/- Several texts in one: Sno Srt Lne Ien Jec Ifn. -/
import Derived.Test.YtmbbmibkjnlkkaaSnt
import Derived.Test.YtmbbmibkjnlkkaaZpf
import Derived.Test.YtmbbmibkjnlkkaaZpe
import Derived.Test.YtmbbmibkjnlkkaaZpl
import Derived.Test.YtmbbmibkjnlkkaaZpk
import Derived.Deep.RegionHeld3
import Derived.Test.YtmbbmibkjnlkkaaZpb
/- The specification's nodes within events: the functions that ask whether the events are nested. -/
namespace Go.Proofs.Ytmbbmibkjnlkkaa
open Go.ChangeShapes Go.WideShapes Go.ChangeAt Go.RowKit
end Go.Proofs.Ytmbbmibkjnlkkaa
/- The specification's nodes within events: roots, ties, whole streams. -/
namespace Go.Proofs.Ytmbbmibkjnlkkaa
open Go.ChangeShapes Go.WideShapes Go.ChangeAt Go.RowKit
theorem rootsTo_succ (es : List Ev) (k : Nat) : rootsTo es (k + 1) = if rootAt es (nested es) k = true then rootsTo es k ++ [k] else rootsTo es k := by
  unfold rootsTo
  rw [List.range_succ, List.filter_append]
  split
  · rename_i h
    simp [h]
  · rename_i h
    simp [h]
theorem rootsTo_len (es : List Ev) (k : Nat) : (rootsTo es k).length ≤ k := by
  unfold rootsTo
  exact Nat.le_trans (List.length_filter_le _ _) (by simp)
theorem tiedTo_succ (es : List Ev) (k : Nat) : tiedTo es (k + 1) = (tiedTo es k && tiedAt es k) := by
  unfold tiedTo
  rw [List.range_succ, List.all_append]
  simp
theorem nested_ne {es : List Ev} (h : nested es = true) : es ≠ [] := by
  intro e
  subst e
  cases h
end Go.Proofs.Ytmbbmibkjnlkkaa
/- The laws on nodes within events, walked, over impl's contracts: numbers and truths. -/
namespace Go.Proofs.Ytmbbmibkjnlkkaa
open Go.ChangeShapes Go.WideShapes Go.ChangeAt Go.RowKit
/-- What is asked of impl.UpOf. -/
def ImplUpOf : Prop := ∀ (w : World) (v : Value) (es : List Ev) (i : Int), SlE w v es → totE es + es.length ≤ 1048576 → (∀ e ∈ es, wfE e) → (Lit.int .i64 i).wf = true →
    Calls Try.prog 48 #[v, .int .i64 i] w fun r w' => r = .returned (.int .i64 (upOf es i)) ∧ Below w.heap.size w w'
end Go.Proofs.Ytmbbmibkjnlkkaa
/- The contract of impl.eachNode, over what is asked of the function that is told each node; EndOf and UpOf. -/
namespace Go.Proofs.Ytmbbmibkjnlkkaa
open Go.ChangeShapes Go.WideShapes Go.ChangeAt Go.RowKit
def Sp.val (n : Sp) : Value := .agg #[.int .i64 (n.at_ : Int), .int .i64 n.end_, .int .i64 n.up]
/-- No block of nodes is changed. -/
def KeepS (w w' : World) : Prop := ∀ (k : Nat) (cs : Array Value) (fr : Nat × Nat), w.heap[k]? = some (.cells cs 64 fr) → w'.heap[k]? = some (.cells cs 64 fr)
theorem KeepS.of {w w' : World} (h : Below w.heap.size w w') : KeepS w w' := fun k _ _ hk => (h.block k (Array.getElem?_eq_some_iff.1 hk).1).trans hk
theorem KeepS.trans {a b c : World} (h : KeepS a b) (k : KeepS b c) : KeepS a c := fun j cs fr hj => k j cs fr (h j cs fr hj)
theorem KeepS.set {w0 w : World} (h : KeepS w0 w) {b j : Nat} {cs : Array Value} {t : TypeId} {fr : Nat × Nat} (hb : w.heap[b]? = some (.cells cs t fr)) (ht : t ≠ 64) (v : Value) : KeepS w0 (w.setCell ⟨b, j, none⟩ v) := by
  intro k cs' fr' hk
  have hk2 := h k cs' fr' hk
  by_cases e : k = b
  · subst e
    rw [hb] at hk2
    injection hk2 with hk2
    injection hk2 with _ h2
    exact absurd h2 ht
  · rw [Below.heap_setCell _ _ _ _ e]
    exact hk2
theorem rowS_keep {w w' : World} {lo : Nat} {v : Value} {n : Nat} {xs : List Value} (h : w.ownsRow lo 64 3 v n xs) (hk : KeepS w w') : w'.ownsRow lo 64 3 v n xs := by
  refine ⟨h.1, ?_⟩
  rcases h.2 with hn | ⟨g, cap, cur, e1, e2, hg, rest⟩
  · exact .inl hn
  · exact .inr ⟨g, cap, cur, e1, e2, hk g cur (0, 0) hg, rest⟩
/-- What is asked of the function that is told each node. -/
structure TellC {α : Type} (g : Nat) (rv : Value) (L : List Sp) (F : α → Sp → α) (I : α → World → Prop) (a0 : α) : Prop where
  enters : ∀ args w, (callFunc g args).run Try.prog w = .ok (.enter g args) w
  stays : ∀ a w w', I a w → Below w.heap.size w w' → I a w'
  call : ∀ k n w, L[k]? = some n → I ((L.take k).foldl F a0) w → Calls Try.prog g #[rv, n.val] w fun e w' => e = .returned (.tuple #[]) ∧ I (F ((L.take k).foldl F a0) n) w' ∧ KeepS w w'
set_option maxHeartbeats 8000000 in
theorem eachNode_any {α : Type} (g : Nat) (rv : Value) (F : α → Sp → α) (I : α → World → Prop) (a : α) (w : World) (v : Value) (es : List Ev) (hV : SlE w v es) (hl : totE es + es.length ≤ 1048576) (hf : ∀ e ∈ es, wfE e) (hT : TellC g rv (spansF es) F I a) (hI : I a w) :
    Calls Try.prog 32 #[v, .func (.func g) #[rv] #[]] w fun e w' => e = .returned (.bool (nested es)) ∧ I (if nested es = true then gat es F a es.length else a) w' := by
  have eg := hT.enters
  have HV : Hid (SlE w v es) := hV
  have HL : Hid (es.length ≤ 1048576) := by show es.length ≤ 1048576; omega
  have HI : Hid (I a w) := hI
  have cN := implNe w v es hV hl hf
  obtain ⟨L, hL⟩ : ∃ L, spansF es = L := ⟨_, rfl⟩
  rw [hL] at hT
  have HT : Hid (TellC g rv L F I a) := hT
  have hLl : L.length ≤ 1048576 := by
    rw [← hL]
    unfold spansF
    rw [List.length_map]
    have := nodesTo_le es es.length
    omega
  have HLL : Hid (spansF es = L) := hL
  have HLN : Hid (L.length ≤ 1048576) := hLl
  cases hn : nested es with
  | false =>
    rw [hn] at cN
    clear hV hl hf hT hI hLl hn
    go_enter Try.func32, Try.ntmps32
    go_wp2_with fail
    refine cN.mono ?_
    rintro e w1 ⟨rfl, hb1⟩
    have HO : Hid (I a w1) := HT.out.stays _ _ _ HI.out hb1
    clear hb1 cN
    go_wp2_with fail
    go_ret
    exact ⟨rfl, HO.out⟩
  | true =>
    have HN : Hid (nested es = true) := hn
    rw [hn] at cN
    simp only [if_true]
    have HR : Hid (gat es F a es.length = L.foldl F a) := by
      show _ = _
      rw [← hL]
      rfl
    rw [HR.out]
    clear hV hl hf hT hI hLl hn hL
    go_enter Try.func32, Try.ntmps32
    go_wp2_with fail
    refine cN.mono ?_
    rintro e w1 ⟨rfl, hb1⟩
    have HI1 : Hid (I a w1) := HT.out.stays _ _ _ HI.out hb1
    have cS := spansOf_any w1 v es (HV.out.stays hb1) HL.out HN.out
    rw [HLL.out] at cS
    clear hb1 cN
    go_wp2_with fail
    refine cS.mono ?_
    rintro e w2 ⟨sa, sn, sc, rfl, hrow, hb2⟩
    obtain rfl := slen hrow
    have HRW : Hid (w2.ownsRow w1.heap.size 64 3 (.slice sa L.length sc) L.length (rowsS L)) := hrow
    have HI2 : Hid (I (([] : List Sp).foldl F a) w2) := HT.out.stays _ _ _ HI1.out hb2
    clear hrow hb2 cS
    have hlen : (L.length : Int) ≤ 1048576 := by have := HLN.out; omega
    go_wp2_with fail
    go_loopw [13] (fun kv wr => ∃ k : Nat, kv = .int .i64 (k : Int) ∧ k ≤ L.length ∧ Hid (I ((L.take k).foldl F a) wr ∧ wr.ownsRow w1.heap.size 64 3 (.slice sa L.length sc) L.length (rowsS L))) (fun kv _ => L.length - (intOf kv).toNat)
    case atStart => exact ⟨0, rfl, Nat.zero_le _, HI2.out, HRW.out⟩
    case round =>
      clear HI2 HRW HI HI1
      obtain ⟨k, rfl, hk, HIN⟩ := hrel
      by_cases hlt : k < L.length
      · obtain ⟨n, hx⟩ : ∃ n, L[k]? = some n := ⟨_, List.getElem?_eq_getElem hlt⟩
        obtain ⟨gs, gc, cur, hsv, hs1, hs2, hs3, hs4, t0, t1, t2, _⟩ := rowS_at HIN.out.2 hx
        injection hsv with hsa _ hsc
        subst hsa
        subst hsc
        have hlt' : (k : Int) < (L.length : Int) := by omega
        have HLT : Hid (k < L.length) := hlt
        have htk : (L.take (k + 1)).foldl F a = F ((L.take k).foldl F a) n := by
          rw [List.take_add_one, hx, List.foldl_append]
          rfl
        obtain ⟨W, hW⟩ : ∃ W, wr.alloc (.cells #[.int .i64 (n.at_ : Int), .int .i64 n.end_, .int .i64 n.up] 64) = W := ⟨_, rfl⟩
        have hBW : Below wr.heap.size wr W := by rw [← hW]; exact (Below.refl _ wr).alloc (Nat.le_refl _) _
        have HIW : Hid (I ((L.take k).foldl F a) W) := HT.out.stays _ _ _ HIN.out.1 hBW
        have HRW : Hid (W.ownsRow w1.heap.size 64 3 (.slice (some ⟨gs, 0, none⟩) L.length sc) L.length (rowsS L)) := row_stays HIN.out.2 hBW
        have hnew : W.heap[wr.heap.size]? = some (.cells #[.int .i64 (n.at_ : Int), .int .i64 n.end_, .int .i64 n.up] 64 (0, 0)) := by rw [← hW]; exact heap_alloc_new wr _
        have u0 : W.cell? ⟨wr.heap.size, 0, none⟩ = some (.int .i64 (n.at_ : Int)) := Lib.cell_of_heap hnew 0
        have u1 : W.cell? ⟨wr.heap.size, 1, none⟩ = some (.int .i64 n.end_) := Lib.cell_of_heap hnew 1
        have u2 : W.cell? ⟨wr.heap.size, 2, none⟩ = some (.int .i64 n.up) := Lib.cell_of_heap hnew 2
        have cG := HT.out.call k n W hx HIW.out
        rw [← htk] at cG
        unfold Sp.val at cG
        have HW : Hid (wr.alloc (.cells #[.int .i64 (n.at_ : Int), .int .i64 n.end_, .int .i64 n.up] 64) = W) := hW
        clear hx hlt hk hs1 hs2 hs3 hs4 hW hBW hnew HIN HIW htk
        go_wp2_with fail
        rw [HW.out]
        clear HW t0 t1 t2
        go_wp2_with (go_at_fn g; refine cG.mono ?_; rintro e w3 ⟨rfl, hi3, hk3⟩)
        have HO : Hid (I ((L.take (k + 1)).foldl F a) w3 ∧ w3.ownsRow w1.heap.size 64 3 (.slice (some ⟨gs, 0, none⟩) L.length sc) L.length (rowsS L)) := ⟨hi3, rowS_keep HRW.out hk3⟩
        clear hi3 hk3 cG u0 u1 u2 HRW
        go_wp2_with fail
        go_roundw
        case rel => exact ⟨k + 1, by go_num, HLT.out, HO⟩
        case measure => have := HLT.out; simp [intOf]; omega
      · have hlt' : ¬ (k : Int) < (L.length : Int) := by omega
        have HO : Hid (I (L.foldl F a) wr) := by
          have := HIN.out.1
          rw [List.take_of_length_le (by omega)] at this
          exact this
        clear HIN hk hlt
        go_wp2_with fail
        go_ret
        exact ⟨rfl, HO.out⟩
end Go.Proofs.Ytmbbmibkjnlkkaa
/- The contract of impl.eachNode over a closure of two variables. -/
namespace Go.Proofs.Ytmbbmibkjnlkkaa
open Go.ChangeShapes Go.WideShapes Go.ChangeAt Go.RowKit
/-- What is asked of the function that is told each node. -/
structure TellD {α : Type} (g : Nat) (x1 x2 : Value) (L : List Sp) (F : α → Sp → α) (I : α → World → Prop) (a0 : α) : Prop where
  enters : ∀ args w, (callFunc g args).run Try.prog w = .ok (.enter g args) w
  stays : ∀ a w w', I a w → Below w.heap.size w w' → I a w'
  call : ∀ k n w, L[k]? = some n → I ((L.take k).foldl F a0) w → Calls Try.prog g #[n.val, x1, x2] w fun e w' => e = .returned (.tuple #[]) ∧ I (F ((L.take k).foldl F a0) n) w' ∧ KeepS w w'
set_option maxHeartbeats 8000000 in
theorem eachNode_cl {α : Type} (g : Nat) (x1 x2 : Value) (F : α → Sp → α) (I : α → World → Prop) (a : α) (w : World) (v : Value) (es : List Ev) (hV : SlE w v es) (hl : totE es + es.length ≤ 1048576) (hf : ∀ e ∈ es, wfE e) (hT : TellD g x1 x2 (spansF es) F I a) (hI : I a w) :
    Calls Try.prog 32 #[v, .func (.func g) #[] #[x1, x2]] w fun e w' => e = .returned (.bool (nested es)) ∧ I (if nested es = true then gat es F a es.length else a) w' := by
  have eg := hT.enters
  have HV : Hid (SlE w v es) := hV
  have HL : Hid (es.length ≤ 1048576) := by show es.length ≤ 1048576; omega
  have HI : Hid (I a w) := hI
  have cN := implNe w v es hV hl hf
  obtain ⟨L, hL⟩ : ∃ L, spansF es = L := ⟨_, rfl⟩
  rw [hL] at hT
  have HT : Hid (TellD g x1 x2 L F I a) := hT
  have hLl : L.length ≤ 1048576 := by
    rw [← hL]
    unfold spansF
    rw [List.length_map]
    have := nodesTo_le es es.length
    omega
  have HLL : Hid (spansF es = L) := hL
  have HLN : Hid (L.length ≤ 1048576) := hLl
  cases hn : nested es with
  | false =>
    rw [hn] at cN
    clear hV hl hf hT hI hLl hn
    go_enter Try.func32, Try.ntmps32
    go_wp2_with fail
    refine cN.mono ?_
    rintro e w1 ⟨rfl, hb1⟩
    have HO : Hid (I a w1) := HT.out.stays _ _ _ HI.out hb1
    clear hb1 cN
    go_wp2_with fail
    go_ret
    exact ⟨rfl, HO.out⟩
  | true =>
    have HN : Hid (nested es = true) := hn
    rw [hn] at cN
    simp only [if_true]
    have HR : Hid (gat es F a es.length = L.foldl F a) := by
      show _ = _
      rw [← hL]
      rfl
    rw [HR.out]
    clear hV hl hf hT hI hLl hn hL
    go_enter Try.func32, Try.ntmps32
    go_wp2_with fail
    refine cN.mono ?_
    rintro e w1 ⟨rfl, hb1⟩
    have HI1 : Hid (I a w1) := HT.out.stays _ _ _ HI.out hb1
    have cS := spansOf_any w1 v es (HV.out.stays hb1) HL.out HN.out
    rw [HLL.out] at cS
    clear hb1 cN
    go_wp2_with fail
    refine cS.mono ?_
    rintro e w2 ⟨sa, sn, sc, rfl, hrow, hb2⟩
    obtain rfl := slen hrow
    have HRW : Hid (w2.ownsRow w1.heap.size 64 3 (.slice sa L.length sc) L.length (rowsS L)) := hrow
    have HI2 : Hid (I (([] : List Sp).foldl F a) w2) := HT.out.stays _ _ _ HI1.out hb2
    clear hrow hb2 cS
    have hlen : (L.length : Int) ≤ 1048576 := by have := HLN.out; omega
    go_wp2_with fail
    go_loopw [13] (fun kv wr => ∃ k : Nat, kv = .int .i64 (k : Int) ∧ k ≤ L.length ∧ Hid (I ((L.take k).foldl F a) wr ∧ wr.ownsRow w1.heap.size 64 3 (.slice sa L.length sc) L.length (rowsS L))) (fun kv _ => L.length - (intOf kv).toNat)
    case atStart => exact ⟨0, rfl, Nat.zero_le _, HI2.out, HRW.out⟩
    case round =>
      clear HI2 HRW HI HI1
      obtain ⟨k, rfl, hk, HIN⟩ := hrel
      by_cases hlt : k < L.length
      · obtain ⟨n, hx⟩ : ∃ n, L[k]? = some n := ⟨_, List.getElem?_eq_getElem hlt⟩
        obtain ⟨gs, gc, cur, hsv, hs1, hs2, hs3, hs4, t0, t1, t2, _⟩ := rowS_at HIN.out.2 hx
        injection hsv with hsa _ hsc
        subst hsa
        subst hsc
        have hlt' : (k : Int) < (L.length : Int) := by omega
        have HLT : Hid (k < L.length) := hlt
        have htk : (L.take (k + 1)).foldl F a = F ((L.take k).foldl F a) n := by
          rw [List.take_add_one, hx, List.foldl_append]
          rfl
        obtain ⟨W, hW⟩ : ∃ W, wr.alloc (.cells #[.int .i64 (n.at_ : Int), .int .i64 n.end_, .int .i64 n.up] 64) = W := ⟨_, rfl⟩
        have hBW : Below wr.heap.size wr W := by rw [← hW]; exact (Below.refl _ wr).alloc (Nat.le_refl _) _
        have HIW : Hid (I ((L.take k).foldl F a) W) := HT.out.stays _ _ _ HIN.out.1 hBW
        have HRW : Hid (W.ownsRow w1.heap.size 64 3 (.slice (some ⟨gs, 0, none⟩) L.length sc) L.length (rowsS L)) := row_stays HIN.out.2 hBW
        have hnew : W.heap[wr.heap.size]? = some (.cells #[.int .i64 (n.at_ : Int), .int .i64 n.end_, .int .i64 n.up] 64 (0, 0)) := by rw [← hW]; exact heap_alloc_new wr _
        have u0 : W.cell? ⟨wr.heap.size, 0, none⟩ = some (.int .i64 (n.at_ : Int)) := Lib.cell_of_heap hnew 0
        have u1 : W.cell? ⟨wr.heap.size, 1, none⟩ = some (.int .i64 n.end_) := Lib.cell_of_heap hnew 1
        have u2 : W.cell? ⟨wr.heap.size, 2, none⟩ = some (.int .i64 n.up) := Lib.cell_of_heap hnew 2
        have cG := HT.out.call k n W hx HIW.out
        rw [← htk] at cG
        unfold Sp.val at cG
        have HW : Hid (wr.alloc (.cells #[.int .i64 (n.at_ : Int), .int .i64 n.end_, .int .i64 n.up] 64) = W) := hW
        clear hx hlt hk hs1 hs2 hs3 hs4 hW hBW hnew HIN HIW htk
        go_wp2_with fail
        rw [HW.out]
        clear HW t0 t1 t2
        go_wp2_with (go_at_fn g; refine cG.mono ?_; rintro e w3 ⟨rfl, hi3, hk3⟩)
        have HO : Hid (I ((L.take (k + 1)).foldl F a) w3 ∧ w3.ownsRow w1.heap.size 64 3 (.slice (some ⟨gs, 0, none⟩) L.length sc) L.length (rowsS L)) := ⟨hi3, rowS_keep HRW.out hk3⟩
        clear hi3 hk3 cG u0 u1 u2 HRW
        go_wp2_with fail
        go_roundw
        case rel => exact ⟨k + 1, by go_num, HLT.out, HO⟩
        case measure => have := HLT.out; simp [intOf]; omega
      · have hlt' : ¬ (k : Int) < (L.length : Int) := by omega
        have HO : Hid (I (L.foldl F a) wr) := by
          have := HIN.out.1
          rw [List.take_of_length_le (by omega)] at this
          exact this
        clear HIN hk hlt
        go_wp2_with fail
        go_ret
        exact ⟨rfl, HO.out⟩
end Go.Proofs.Ytmbbmibkjnlkkaa
/- The contracts of impl.EndOf and impl.UpOf. -/
namespace Go.Proofs.Ytmbbmibkjnlkkaa
open Go.ChangeShapes Go.WideShapes Go.ChangeAt Go.RowKit
theorem al_belowN (w : World) (o : Obj) : Below w.heap.size w (w.alloc o) := (Below.refl _ w).alloc (Nat.le_refl _) _
theorem al_new3 {w : World} {x y z : Value} : (w.alloc (.cells #[x, y, z] 64)).cell? ⟨w.heap.size, 0, none⟩ = some x ∧ (w.alloc (.cells #[x, y, z] 64)).cell? ⟨w.heap.size, 1, none⟩ = some y ∧ (w.alloc (.cells #[x, y, z] 64)).cell? ⟨w.heap.size, 2, none⟩ = some z :=
  ⟨Lib.cell_of_heap (heap_alloc_new w _) 0, Lib.cell_of_heap (heap_alloc_new w _) 1, Lib.cell_of_heap (heap_alloc_new w _) 2⟩
def FdAt (b : Nat) (i f : Int) (w : World) : Prop := w.heap[b]? = some (.cells #[.int .i64 i, .int .i64 f] 101 (0, 0))
section
variable {b : Nat} {i f : Int} {w w' : World}
theorem FdAt.lt (h : FdAt b i f w) : b < w.heap.size := (Array.getElem?_eq_some_iff.1 h).1
theorem FdAt.c0 (h : FdAt b i f w) : w.cell? ⟨b, 0, none⟩ = some (.int .i64 i) := by rw [Lib.cell_of_heap h]; rfl
theorem FdAt.c1 (h : FdAt b i f w) : w.cell? ⟨b, 1, none⟩ = some (.int .i64 f) := by rw [Lib.cell_of_heap h]; rfl
theorem FdAt.fz (h : FdAt b i f w) (j : Nat) : w.frozen? ⟨b, j, none⟩ = false := Lib.frozen_of_heap h j
theorem FdAt.same (h : FdAt b i f w) (hb : w'.heap[b]? = w.heap[b]?) : FdAt b i f w' := hb.trans h
theorem FdAt.set1 (h : FdAt b i f w) (x : Int) : FdAt b i x (w.setCell ⟨b, 1, none⟩ (.int .i64 x)) := by
  unfold FdAt at *
  simp [World.setCell, Array.getElem?_modify, h]
end
/-- The finder, and that all below it is as it was. -/
def FdI (b : Nat) (i : Int) (w0 : World) (f : Int) (w : World) : Prop := FdAt b i f w ∧ Below b w0 w
theorem FdI.stays {b : Nat} {i f : Int} {w0 w w' : World} (h : FdI b i w0 f w) (hb : Below w.heap.size w w') : FdI b i w0 f w' := ⟨h.1.same (hb.block b h.1.lt), h.2.trans (hb.mono (Nat.le_of_lt h.1.lt))⟩
set_option maxHeartbeats 4000000 in
theorem ahead_any (n : Sp) (i : Int) (w : World) :
    Calls Try.prog 55 #[n.val, .int .i64 i] w fun e w' => e = .returned (.bool (ahead n i)) ∧ Below w.heap.size w w' := by
  obtain ⟨W, hW⟩ : ∃ W, w.alloc (.cells #[.int .i64 (n.at_ : Int), .int .i64 n.end_, .int .i64 n.up] 64) = W := ⟨_, rfl⟩
  have hBW : Below w.heap.size w W := by rw [← hW]; exact al_belowN w _
  obtain ⟨u0, u1, u2⟩ : W.cell? ⟨w.heap.size, 0, none⟩ = some (.int .i64 (n.at_ : Int)) ∧ W.cell? ⟨w.heap.size, 1, none⟩ = some (.int .i64 n.end_) ∧ W.cell? ⟨w.heap.size, 2, none⟩ = some (.int .i64 n.up) := by rw [← hW]; exact al_new3
  have HB : Hid (Below w.heap.size w W) := hBW
  have HW : Hid (w.alloc (.cells #[.int .i64 (n.at_ : Int), .int .i64 n.end_, .int .i64 n.up] 64) = W) := hW
  obtain ⟨r, hr⟩ : ∃ r, ahead n i = r := ⟨_, rfl⟩
  have HR : Hid (ahead n i = r) := hr
  rw [hr]
  clear hW hBW hr
  unfold Sp.val
  by_cases h : n.end_ = -1
  · have tt : (n.end_ != -1) = false := by simp [h]
    have HE : Hid (false = r) := by
      show _ = _
      rw [← HR.out]
      unfold ahead
      simp [h]
    clear h
    go_enter Try.func55, Try.ntmps55
    go_wp2_with fail
    rw [HW.out]
    go_wp2_with fail
    go_ret
    exact ⟨ret_bool HE.out, HB.out⟩
  · have tt : (n.end_ != -1) = true := by simp [h]
    have HE : Hid (decide (n.end_ < i) = r) := by
      show _ = _
      rw [← HR.out]
      unfold ahead
      simp [h]
    clear h
    go_enter Try.func55, Try.ntmps55
    go_wp2_with fail
    rw [HW.out]
    go_wp2_with fail
    go_ret
    exact ⟨ret_bool HE.out, HB.out⟩
set_option maxHeartbeats 4000000 in
theorem takeAround_any (b : Nat) (i f : Int) (n : Sp) (w0 w : World) (hI : FdI b i w0 f w) :
    Calls Try.prog 56 #[.pointer (some ⟨b, 0, none⟩), n.val] w fun e w' => e = .returned (.tuple #[]) ∧ FdI b i w0 (fUp i f n) w' ∧ KeepS w w' := by
  obtain ⟨W, hW⟩ : ∃ W, w.alloc (.cells #[.int .i64 (n.at_ : Int), .int .i64 n.end_, .int .i64 n.up] 64) = W := ⟨_, rfl⟩
  have hBW : Below w.heap.size w W := by rw [← hW]; exact al_belowN w _
  obtain ⟨u0, u1, u2⟩ : W.cell? ⟨w.heap.size, 0, none⟩ = some (.int .i64 (n.at_ : Int)) ∧ W.cell? ⟨w.heap.size, 1, none⟩ = some (.int .i64 n.end_) ∧ W.cell? ⟨w.heap.size, 2, none⟩ = some (.int .i64 n.up) := by rw [← hW]; exact al_new3
  have hIW := hI.stays hBW
  have HI : Hid (FdI b i w0 f W) := hIW
  have HK : Hid (KeepS w W) := KeepS.of hBW
  have nb : w.heap.size ≠ b := by have := hI.1.lt; omega
  have hsz : w.heap.size < W.heap.size := by rw [← hW]; simp
  have hm : ∀ (m : Bw W) (k j : Nat), k < W.heap.size → m.val.cell? ⟨k, j, none⟩ = W.cell? ⟨k, j, none⟩ := fun m k j hk => m.ok.cell hk
  have m0 := fun m : Bw W => (hm m w.heap.size 0 hsz).trans u0
  have m1 := fun m : Bw W => (hm m w.heap.size 1 hsz).trans u1
  have m2 := fun m : Bw W => (hm m w.heap.size 2 hsz).trans u2
  have mc := fun m : Bw W => (hm m b 0 hIW.1.lt).trans hIW.1.c0
  have hne0 := Bw.some W
  have hA := Bw.calls (w := W) (fun w' _ => ahead_any n i w')
  unfold Sp.val at hA ⊢
  have HW : Hid (w.alloc (.cells #[.int .i64 (n.at_ : Int), .int .i64 n.end_, .int .i64 n.up] 64) = W) := hW
  have HS : Hid (w.heap.size < W.heap.size) := hsz
  have HU : Hid (W.cell? ⟨w.heap.size, 0, none⟩ = some (.int .i64 (n.at_ : Int))) := u0
  obtain ⟨r, hr⟩ : ∃ r, ahead n i = r := ⟨_, rfl⟩
  rw [hr] at hA
  have HR : Hid (ahead n i = r) := hr
  clear hI hIW hBW hW hm hsz u0 u1 u2 hr
  by_cases h : (n.at_ : Int) < i
  · cases r with
    | false =>
      have HF : Hid (fUp i f n = (n.at_ : Int)) := by
        show _ = _
        unfold fUp
        rw [if_pos ⟨h, HR.out⟩]
      go_enter Try.func56, Try.ntmps56
      go_wp2_with fail
      rw [HW.out]
      go_wp2_with fail
      refine wp_region_bw (w0 := W) (by kernel_rfl) (by kernel_rfl) (Below.refl _ _) ?_
      repeat (go_big_quiet_step ((go_at_call 55; exact hA _)))
      refine wpQuiet_nil ?_
      rintro _ ⟨mw, rfl⟩
      have hI2 := HI.out.stays mw.ok
      have d0 := m0 mw
      have dc := hI2.1.c1
      have df := hI2.1.fz 1
      have HQ : Hid (FdI b i w0 (fUp i f n) (mw.val.setCell ⟨b, 1, none⟩ (.int .i64 (n.at_ : Int))) ∧ KeepS w (mw.val.setCell ⟨b, 1, none⟩ (.int .i64 (n.at_ : Int)))) := by
        rw [HF.out]
        exact ⟨⟨hI2.1.set1 _, hI2.2.trans (below_set _)⟩, (HK.out.trans (KeepS.of mw.ok)).set hI2.1 (by decide) _⟩
      clear hI2 m0 m1 m2 mc hA hne0
      generalize mw.val = w2 at *
      go_wp2_with fail
      go_end0
      exact ⟨rfl, HQ.out⟩
    | true =>
      have HF : Hid (fUp i f n = f) := by
        show _ = _
        unfold fUp
        rw [if_neg (fun h' => by have := h'.2; rw [HR.out] at this; cases this)]
      go_enter Try.func56, Try.ntmps56
      go_wp2_with fail
      rw [HW.out]
      go_wp2_with fail
      refine wp_region_bw (w0 := W) (by kernel_rfl) (by kernel_rfl) (Below.refl _ _) ?_
      repeat (go_big_quiet_step ((go_at_call 55; exact hA _)))
      refine wpQuiet_nil ?_
      rintro _ ⟨mw, rfl⟩
      have HQ : Hid (FdI b i w0 (fUp i f n) mw.val ∧ KeepS w mw.val) := by
        rw [HF.out]
        exact ⟨HI.out.stays mw.ok, HK.out.trans (KeepS.of mw.ok)⟩
      clear m0 m1 m2 mc hA hne0
      generalize mw.val = w2 at *
      go_wp2_with fail
      go_end0
      exact ⟨rfl, HQ.out⟩
  · have HF : Hid (fUp i f n = f) := by
      show _ = _
      unfold fUp
      rw [if_neg (fun h' => h h'.1)]
    have h' : decide ((n.at_ : Int) < i) = false := decide_eq_false h
    go_enter Try.func56, Try.ntmps56
    go_wp2_with fail
    rw [HW.out]
    go_wp2_with fail
    refine wp_region_bw (w0 := W) (by kernel_rfl) (by kernel_rfl) (Below.refl _ _) ?_
    repeat (go_big_quiet_step ((go_at_call 55; exact hA _)))
    refine wpQuiet_nil ?_
    rintro _ ⟨mw, rfl⟩
    have HQ : Hid (FdI b i w0 (fUp i f n) mw.val ∧ KeepS w mw.val) := by
      rw [HF.out]
      exact ⟨HI.out.stays mw.ok, HK.out.trans (KeepS.of mw.ok)⟩
    clear m0 m1 m2 mc hA hne0
    generalize mw.val = w2 at *
    go_wp2_with fail
    go_end0
    exact ⟨rfl, HQ.out⟩
theorem tellUp (b : Nat) (i : Int) (w0 : World) (L : List Sp) : TellC 56 (.pointer (some ⟨b, 0, none⟩)) L (fUp i) (FdI b i w0) (-1) :=
  ⟨enters_of Try.func56 (by kernel_rfl) rfl, fun _ _ _ h hb => h.stays hb, fun k n w _ hI => takeAround_any b i _ n w0 w hI⟩
theorem fd_new (w : World) (i : Int) : FdI w.heap.size i w (-1) (w.alloc (.cells #[.int .i64 i, .int .i64 (-1)] 101)) := ⟨heap_alloc_new w _, al_belowN w _⟩
set_option maxHeartbeats 4000000 in
theorem implUpOf : ImplUpOf := by
  intro w v es i hV hl hf _
  obtain ⟨o, ho⟩ : ∃ o, upOf es i = o := ⟨_, rfl⟩
  rw [ho]
  obtain ⟨a, c, rfl⟩ := hV.sl
  have hlen : (es.length : Int) ≤ 1048576 := by omega
  by_cases hi : (es.length : Int) ≤ i
  · have HE : Hid ((-1 : Int) = o) := by
      show _ = _
      rw [← ho]
      unfold upOf
      rw [if_pos (by omega)]
    clear hV hl hf ho
    go_enter Try.func48, Try.ntmps48
    go_wp2_with fail
    go_ret
    exact ⟨ret_i HE.out, Below.refl _ _⟩
  · obtain ⟨W, hW⟩ : ∃ W, w.alloc (.cells #[.int .i64 i, .int .i64 (-1)] 101) = W := ⟨_, rfl⟩
    have hI : FdI w.heap.size i w (-1) W := by rw [← hW]; exact fd_new w i
    have hBW : Below w.heap.size w W := by rw [← hW]; exact al_belowN w _
    have cE := eachNode_any _ _ _ _ (-1) W _ es (hV.stays hBW) hl hf (tellUp w.heap.size i w (spansF es)) hI
    have HE : Hid ((if nested es = true then gat es (fUp i) (-1) es.length else -1) = o) := by
      show _ = _
      by_cases h : nested es = true
      · rw [if_pos h, up_gat h i (by omega), ho]
      · rw [if_neg h, ← ho]
        unfold upOf
        rw [if_pos (.inl (by simpa using h))]
    rw [HE.out] at cE
    have HW : Hid (w.alloc (.cells #[.int .i64 i, .int .i64 (-1)] 101) = W) := hW
    have hi' : ¬ (es.length : Int) ≤ i := hi
    clear hV hl hf ho hW hI hBW HE hi
    go_enter Try.func48, Try.ntmps48
    go_wp2_with fail
    rw [HW.out]
    go_wp2_with fail
    refine cE.mono ?_
    rintro e w1 ⟨rfl, hI1⟩
    have c1 := hI1.1.c1
    have HB : Hid (Below w.heap.size w w1) := hI1.2
    clear cE hI1
    go_wp2_with fail
    go_ret
    exact ⟨rfl, HB.out⟩
end Go.Proofs.Ytmbbmibkjnlkkaa

/- Several texts in one: Pge Teo Rwf Lpo. -/
import Derived.Test.YtmbbmibkjnlkkaaZpq
import Derived.Test.YtmbbmibkjnlkkaaZpl
import Derived.Test.YtmbbmibkjnlkkaaZpb
import Derived.Test.YtmbbmibkjnlkkaaZpc
import Derived.Test.YtmbbmibkjnlkkaaZpg
import Derived.Test.YtmbbmibkjnlkkaaZpk
/- Where a place is, by the nodes, the seats and the last ones: plain. -/
namespace Go.Proofs.Ytmbbmibkjnlkkaa
open Go.RowKit
theorem seatF_up {es : List Ev} {m : Nat} {s : Sea} (h : seatF es es.length (m : Int) = some s) : ∃ u : Nat, s.up = (u : Int) ∧ u < m := by
  unfold seatF at h
  split at h
  · rename_i hc
    rw [show (m : Int).toNat = m by omega] at h hc
    injection h with h
    subst h
    have hlt := upG_lt es m 0
    refine ⟨(upG es m 0).toNat, ?_, ?_⟩
    · show upG es m 0 = _
      have := hc.2.2.2
      omega
    · have := hc.2.2.2
      omega
  · cases h
theorem chainF_more {es : List Ev} : ∀ (f g m : Nat), m < f → m < g → chainF es f (m : Int) = chainF es g (m : Int)
  | 0, _, _, h, _ => by omega
  | _ + 1, 0, _, _, h => by omega
  | f + 1, g + 1, m, h1, h2 => by
    rw [chainF, chainF]
    cases hs : seatF es es.length (m : Int) with
    | none => rfl
    | some s =>
      obtain ⟨u, hu, hlt⟩ := seatF_up hs
      simp only [hu]
      rw [chainF_more f g u (by omega) (by omega)]
theorem chainF_neg (es : List Ev) (f : Nat) : chainF es f (-1) = [] := by
  cases f with
  | zero => rfl
  | succ f =>
    rw [chainF]
    unfold seatF
    rw [if_neg (by omega)]
def seatE (es : List Ev) : Int → Option Sea := if nested es = true then seatF es es.length else fun _ => none
def lastE (es : List Ev) : Int → Option Nat := if nested es = true then lastF es es.length else fun _ => none
def endU (es : List Ev) (u : Int) : Int := match ndEnd es u with | none => 0 | some n => n.end_
/-- The node that has the path of a place. -/
def forF (es : List Ev) (i : Int) : Int := match ndEnd es i with
  | some _ => i
  | none => match lastE es (upOf es i) with
    | none => upOf es i
    | some a => if endU es (upOf es i) = i then upOf es i else (a : Int)
def chainE (es : List Ev) : Nat → Int → List Sg
  | 0, _ => []
  | f + 1, m => match seatE es m with
    | none => []
    | some s => stepT es s :: chainE es f s.up
theorem chainE_yes {es : List Ev} (h : nested es = true) : ∀ (f : Nat) (m : Int), chainE es f m = chainF es f m
  | 0, _ => rfl
  | f + 1, m => by
    rw [chainE, chainF]
    unfold seatE
    rw [if_pos h]
    cases seatF es es.length m with
    | none => rfl
    | some s => simp only []; rw [chainE_yes h f]
theorem chainE_no {es : List Ev} (h : nested es = false) : ∀ (f : Nat) (m : Int), chainE es f m = []
  | 0, _ => rfl
  | f + 1, m => by
    rw [chainE]
    unfold seatE
    rw [if_neg (by rw [h]; simp)]
theorem lastK_top (A : List Nat) (a i : Nat) (h : a ≤ i) : lastK (A ++ [a]) i ((A ++ [a]).length - 1) = A.length := by
  have hl : (A ++ [a]).length - 1 = A.length := by simp
  rw [hl]
  cases hA : A.length with
  | zero => rfl
  | succ n =>
    rw [lastK, if_neg]
    rw [List.getD_eq_getElem?_getD, List.getElem?_append_right (by omega), hA]
    simp
    omega
set_option maxRecDepth 100000 in
theorem path_for (es : List Ev) (i : Int) : pathOf es i = (chainE es (es.length + 1) (forF es i)).reverse := by
  cases h : nested es with
  | false =>
    rw [chainE_no h]
    unfold pathOf
    rw [if_pos (.inl h)]
    rfl
  | true =>
    rw [chainE_yes h]
    have hle : lastE es = lastF es es.length := by unfold lastE; rw [if_pos h]
    have hlm : lastF es es.length (-1) = none := by unfold lastF; rw [if_pos rfl]
    by_cases hr : i < 0 ∨ (es.length : Int) ≤ i
    · have hu : upOf es i = -1 := by unfold upOf; rw [if_pos (.inr hr)]
      have hf : forF es i = -1 := by
        unfold forF
        rw [ndEnd_is h, if_neg (by omega), hu, hle, hlm]
      rw [hf, chainF_neg]
      unfold pathOf
      rw [if_pos (.inr hr)]
      rfl
    · obtain ⟨k, rfl⟩ : ∃ k : Nat, i = (k : Int) := ⟨i.toNat, by omega⟩
      have hk : k < es.length := by omega
      have hkt : (k : Int).toNat = k := by omega
      unfold pathOf
      rw [if_neg (by rw [h]; simp; omega), hkt]
      obtain ⟨e, he⟩ : ∃ e, es[k]? = some e := ⟨_, List.getElem?_eq_getElem hk⟩
      cases hn : nodB es k with
      | true =>
        have hf : forF es (k : Int) = (k : Int) := by
          unfold forF
          rw [ndEnd_is h, if_pos ⟨by omega, by omega, by rw [hkt]; exact hn⟩]
        rw [hf, path_node h (k + 1) k (by omega) hk hn, chainF_more (k + 1) (es.length + 1) k (by omega) (by omega)]
      | false =>
        have hnd : ndEnd es (k : Int) = none := by rw [ndEnd_is h, if_neg (by rw [hkt, hn]; simp)]
        have hup : upOf es (k : Int) = upG es k 0 := by unfold upOf; rw [if_neg (by rw [h]; simp; omega), hkt]
        have hlt := upG_lt es k 0
        rw [pathF]
        by_cases hu : upG es k 0 = -1
        · have hf : forF es (k : Int) = -1 := by
            unfold forF
            rw [hnd, hup, hu, hle, hlm]
          rw [if_pos (by omega), hf, chainF_neg]
          rfl
        · obtain ⟨u, hu2⟩ : ∃ u : Nat, upG es k 0 = (u : Int) := ⟨(upG es k 0).toNat, by omega⟩
          obtain ⟨h1, h2, h3⟩ := up_node (Nat.le_of_lt hk) hu2
          have hut : (u : Int).toNat = u := by omega
          rw [if_neg (by omega), hu2, hut]
          have hend : endU es (u : Int) = endN es u := by
            unfold endU
            rw [ndEnd_is h, if_pos ⟨by omega, by omega, by rw [hut]; exact h2⟩, hut]
            rfl
          have hpu : pathF es k u = (chainF es (es.length + 1) (u : Int)).reverse := by
            rw [path_node h k u h1 (by omega) h2, chainF_more k (es.length + 1) u h1 (by omega)]
          rw [hpu]
          have hff : forF es (k : Int) = (match lastF es es.length (u : Int) with | none => (u : Int) | some a => if endN es u = (k : Int) then (u : Int) else (a : Int)) := by
            unfold forF
            rw [hnd, hup, hu2, hle, hend]
          by_cases hE : endN es u = (k : Int)
          · rw [if_pos hE, List.append_nil, hff]
            cases lastF es es.length (u : Int) with
            | none => rfl
            | some a => simp only [if_pos hE]
          · rw [if_neg hE, hff]
            have hkk : kidsA es (u : Int) es.length = kidsA es (u : Int) k := by
              have hs := ns_at h he
              have hne : nodE e = false := by rw [nodB_some he] at hn; exact hn
              have hst : stk es k ≠ [] := fun e0 => by rw [e0] at h3; cases h3
              have h7 : e.kind ≠ 7 := by
                intro h7
                cases hsk : stk es k with
                | nil => exact hst hsk
                | cons a r =>
                  have hh := up_head es k (by omega)
                  rw [hsk, hu2] at hh
                  have hau : (a : Int) = (u : Int) := by simpa [headI] using hh.symm
                  have : a = u := by omega
                  subst this
                  exact hE (endN_top he h7 hsk)
              have hl := hs.last hne h7 hst
              rw [← hl, kidsA_succ, if_neg, List.append_nil]
              unfold inAt
              rw [hn]
              simp
            have hne1 : ¬ (u : Int) = -1 := by omega
            cases hla : lastF es es.length (u : Int) with
            | none =>
              unfold lastF at hla
              rw [if_neg hne1, List.getLast?_eq_none_iff] at hla
              have hK : kidN es u = [] := by rw [kids_all h (by omega), hla]
              rw [hK]
              show _ ++ stepU es [] u k = _
              unfold stepU
              rw [if_pos (show ([] : List Nat).length = 0 from rfl), List.append_nil]
            | some a =>
              simp only [if_neg hE]
              unfold lastF at hla
              rw [if_neg hne1] at hla
              obtain ⟨h4, h5, h6⟩ := kids_last hla
              unfold inAt at h6
              simp only [Bool.and_eq_true, decide_eq_true_eq] at h6
              have hak : a < k := by
                rw [hkk] at hla
                exact (kids_last hla).2.1
              have hsm := step_member h h5 h6.1 h6.2
              have hst : stepU es (kidN es u) u k = stepU es (kidN es u) u a := by
                unfold stepU
                rw [kids_all h (by omega), h4, lastK_top _ a k (by omega), lastK_top _ a a (Nat.le_refl _)]
              rw [hst, hsm]
              have hsa : seatF es es.length (a : Int) = some (seaOf es a) := by
                unfold seatF
                rw [show (a : Int).toNat = a by omega, if_pos ⟨by omega, by omega, h6.1, by rw [h6.2]; exact hne1⟩]
              have hca : chainF es (es.length + 1) (a : Int) = stepT es (seaOf es a) :: chainF es es.length (u : Int) := by
                rw [chainF, hsa]
                simp only []
                rw [show (seaOf es a).up = (u : Int) from h6.2]
              rw [hca, List.reverse_cons, chainF_more es.length (es.length + 1) u (by omega) (by omega)]
end Go.Proofs.Ytmbbmibkjnlkkaa
/- A copy of a list of events, which is the call's own. -/
namespace Go.Proofs.Ytmbbmibkjnlkkaa
open Go.ChangeShapes Go.WideShapes Go.ChangeAt Go.RowKit Go.Deep
theorem own_of_rowE {w : World} {g t n : Nat} {f : Nat → Value} {size m : Nat} {xs : List Value} (h : w.rowIs g t (m * size) f) (hn : n = m) (hx : xs.length = m * size) (hf : ∀ i, i < m * size → xs[i]? = some (f i)) (hm : m ≤ maxLen) {lo : Nat} (hlo : lo ≤ g) :
    w.ownsRow lo t size (.slice (some ⟨g, 0, none⟩) n n) m xs := by
  subst hn
  obtain ⟨c, hb, hs, hc⟩ := h
  refine ⟨hx, .inr ⟨g, n, c, rfl, hlo, hb, Nat.le_refl _, hm, hs, ?_⟩⟩
  apply List.ext_getElem?
  intro i
  rw [List.getElem?_take]
  by_cases hi : i < n * size
  · rw [if_pos hi, Array.getElem?_toList, hc i hi, hf i hi]
  · rw [if_neg hi, List.getElem?_eq_none (by omega)]
set_option maxHeartbeats 8000000 in
theorem toEs_own (w : World) (v : Value) (es : List Ev) (hV : SlE w v es) (hl : es.length ≤ 1048576) :
    Calls Try.prog 7 #[v] w fun e w' => (e = .returned (.slice (some ⟨w.heap.size, 0, none⟩) es.length es.length) ∧ w'.ownsRow w.heap.size 38 8 (.slice (some ⟨w.heap.size, 0, none⟩) es.length es.length) es.length (rowsE es)) ∧ Below w.heap.size w w' := by
  obtain ⟨a, c, rfl⟩ := hV.sl
  have HV : Hid (SlE w (.slice a es.length c) es) := hV
  clear hV
  obtain ⟨ti, hti, hz0, hz1, hz2⟩ := infoE_parts
  have hmk : ∀ w : World, (Instr.makeSlice 25 (.int .i64 (es.length : Int)) (.int .i64 (es.length : Int))).run Try.prog w = .ok (.slice (some ⟨w.heap.size, 0, none⟩) es.length es.length) (w.alloc (.cells (madeCells zrow (es.length * 8)) 38)) := by
    intro w
    have := run_make (P := Try.prog) w 25 38 ti _ Try.underlying25 hti hz0 .i64 .i64 es.length es.length (by omega) (Int.le_refl _) (by rw [hz2]; omega) (by omega)
    rw [hz1] at this
    simpa [Value.cells] using this
  clear hti hz0 hz1 hz2
  go_enter Try.func7, Try.ntmps7
  go_wp2_with fail
  go_loopw [4] (fun i wr => ∃ k : Nat, k ≤ es.length ∧ i = .int .i64 k ∧ Hid (wr.rowIs w.heap.size 38 (es.length * 8) (fun j => (cellsE (es.take k))[j]?.getD (zE j))) ∧ Below w.heap.size w wr) (fun i _ => es.length - (intOf i).toNat)
  case atStart =>
    refine ⟨0, Nat.zero_le _, rfl, ?_, (Below.refl _ _).alloc (Nat.le_refl _) _⟩
    have := World.rowIs_alloc w (madeCells zrow (es.length * 8)) 38 zE (fun i hi => by
      rw [size_madeCells] at hi
      unfold madeCells zE
      have h8 : zrow.size = 8 := rfl
      simp [hi, h8])
    rw [size_madeCells] at this
    exact this.congr (fun i hi => by simp [cellsE])
  case round =>
    obtain ⟨k, hk, rfl, HC, hb⟩ := hrel
    by_cases hlt : k < es.length
    · obtain ⟨e, hx⟩ : ∃ h, es[k]? = some h := ⟨_, List.getElem?_eq_getElem hlt⟩
      obtain ⟨b, off, rfl, _, ⟨c0, c1, c2, c3, c4, c5, c6, c7⟩⟩ := HV.out.at hb hx
      have HX : Hid (es.take (k + 1) = es.take k ++ [e]) := by show es.take (k + 1) = _; rw [List.take_add_one, hx]; rfl
      have hlt' : (k : Int) < (es.length : Int) := by omega
      have hszH := HC.out.lt
      have htl : (es.take k).length = k := by rw [List.length_take]; omega
      have HTL : Hid ((es.take k).length = k) := htl
      have hE := toE_any e wr
      clear hx htl
      obtain ⟨kind, style, flag, text, anchor, tag, at_, code⟩ := e
      unfold Ev.row at hE
      go_wp2_with fail
      refine hE.mono ?_
      rintro e w1 ⟨rfl, hb1⟩
      clear hE c0 c1 c2 c3 c4 c5 c6 c7
      have hrow := HC.out.of_block (hb1.block _ hszH)
      have k0 : w1.cell? ⟨w.heap.size, k * 8, none⟩ = some _ := hrow.cell (by omega)
      have k1 : w1.cell? ⟨w.heap.size, k * 8 + 1, none⟩ = some _ := hrow.cell (by omega)
      have k2 : w1.cell? ⟨w.heap.size, k * 8 + 2, none⟩ = some _ := hrow.cell (by omega)
      have k3 : w1.cell? ⟨w.heap.size, k * 8 + 3, none⟩ = some _ := hrow.cell (by omega)
      have k4 : w1.cell? ⟨w.heap.size, k * 8 + 4, none⟩ = some _ := hrow.cell (by omega)
      have k5 : w1.cell? ⟨w.heap.size, k * 8 + 5, none⟩ = some _ := hrow.cell (by omega)
      have k6 : w1.cell? ⟨w.heap.size, k * 8 + 6, none⟩ = some _ := hrow.cell (by omega)
      have k7 : w1.cell? ⟨w.heap.size, k * 8 + 7, none⟩ = some _ := hrow.cell (by omega)
      have f0 := hrow.frozen (k * 8)
      have f1 := hrow.frozen (k * 8 + 1)
      have f2 := hrow.frozen (k * 8 + 2)
      have f3 := hrow.frozen (k * 8 + 3)
      have f4 := hrow.frozen (k * 8 + 4)
      have f5 := hrow.frozen (k * 8 + 5)
      have f6 := hrow.frozen (k * 8 + 6)
      have f7 := hrow.frozen (k * 8 + 7)
      have hB1 : Below w.heap.size w w1 := hb.trans (hb1.mono hb.size)
      have RA : Hid (((((((((w1.setCell ⟨w.heap.size, k * 8, none⟩ (.int .i64 kind)).setCell ⟨w.heap.size, k * 8 + 1, none⟩ (.int .i64 style)).setCell ⟨w.heap.size, k * 8 + 2, none⟩ (.bool flag)).setCell ⟨w.heap.size, k * 8 + 3, none⟩ (.string text)).setCell ⟨w.heap.size, k * 8 + 4, none⟩ (.string anchor)).setCell ⟨w.heap.size, k * 8 + 5, none⟩ (.string tag)).setCell ⟨w.heap.size, k * 8 + 6, none⟩ (.int .i64 at_)).setCell ⟨w.heap.size, k * 8 + 7, none⟩ (.int .i64 code)).rowIs w.heap.size 38 (es.length * 8) (fun j => (cellsE (es.take (k + 1)))[j]?.getD (zE j))) := by
        show World.rowIs _ _ _ _ _
        rw [HX.out]
        exact ((((((((hrow.set (k * 8) _).set (k * 8 + 1) _).set (k * 8 + 2) _).set (k * 8 + 3) _).set (k * 8 + 4) _).set (k * 8 + 5) _).set (k * 8 + 6) _).set (k * 8 + 7) _).congr (fun j _ => cellsE_step HTL.out ⟨kind, style, flag, text, anchor, tag, at_, code⟩ j)
      have RB : Hid (Below w.heap.size w ((((((((w1.setCell ⟨w.heap.size, k * 8, none⟩ (.int .i64 kind)).setCell ⟨w.heap.size, k * 8 + 1, none⟩ (.int .i64 style)).setCell ⟨w.heap.size, k * 8 + 2, none⟩ (.bool flag)).setCell ⟨w.heap.size, k * 8 + 3, none⟩ (.string text)).setCell ⟨w.heap.size, k * 8 + 4, none⟩ (.string anchor)).setCell ⟨w.heap.size, k * 8 + 5, none⟩ (.string tag)).setCell ⟨w.heap.size, k * 8 + 6, none⟩ (.int .i64 at_)).setCell ⟨w.heap.size, k * 8 + 7, none⟩ (.int .i64 code))) :=
        (((((((hB1.setCell (Nat.le_refl _) _).setCell (Nat.le_refl _) _).setCell (Nat.le_refl _) _).setCell (Nat.le_refl _) _).setCell (Nat.le_refl _) _).setCell (Nat.le_refl _) _).setCell (Nat.le_refl _) _).setCell (Nat.le_refl _) _
      clear hb1 hrow HC hB1
      go_wp2_with fail
      go_roundw
      case rel => exact ⟨k + 1, hlt, by go_num, RA, RB.out⟩
      case measure => simp [intOf]; omega
    · go_wp2_with fail
      go_ret
      have ek : k = es.length := by omega
      have hrow := HC.out
      rw [ek, List.take_length] at hrow
      refine ⟨⟨rfl, ?_⟩, hb⟩
      exact own_of_rowE (m := es.length) hrow rfl (cellsE_len es) (fun i hi => by
        have hl : i < (rowsE es).length := by show i < (cellsE es).length; rw [cellsE_len]; exact hi
        have h1 : (rowsE es)[i]? = some ((rowsE es)[i]'hl) := List.getElem?_eq_getElem hl
        have h2 : (cellsE es)[i]? = some ((rowsE es)[i]'hl) := h1
        show (rowsE es)[i]? = some ((cellsE es)[i]?.getD (zE i))
        rw [h2, h1]
        rfl) (by unfold maxLen; omega) (Nat.le_refl _)
end Go.Proofs.Ytmbbmibkjnlkkaa
/- A row of events is a list of events; a row beside another one. -/
namespace Go.Proofs.Ytmbbmibkjnlkkaa
open Go.RowKit
theorem rowsE_at : ∀ (es : List Ev) (i : Nat) (e : Ev), es[i]? = some e → ∀ j u, e.row[j]? = some u → (rowsE es)[i * 8 + j]? = some u
  | [], i, e, h => by simp at h
  | x :: t, 0, e, h => by
    intro j u hu
    obtain rfl : x = e := by simpa using h
    have hj : j < 8 := by
      rcases Nat.lt_or_ge j 8 with h' | h'
      · exact h'
      · rw [Array.getElem?_eq_none (by exact h')] at hu; cases hu
    rw [Nat.zero_mul, Nat.zero_add]
    show (x.row.toList ++ rowsE t)[j]? = some u
    rw [List.getElem?_append_left (by show j < 8; exact hj)]
    rw [← hu]
    simp
  | x :: t, i + 1, e, h => by
    intro j u hu
    have ih := rowsE_at t i e (by simpa using h) j u hu
    show (x.row.toList ++ rowsE t)[(i + 1) * 8 + j]? = some u
    rw [List.getElem?_append_right (by show 8 ≤ _; omega)]
    rw [show (i + 1) * 8 + j - x.row.toList.length = i * 8 + j by show (i + 1) * 8 + j - 8 = _; omega]
    exact ih
theorem slE_row {w : World} {lo : Nat} {v : Value} {es : List Ev} (h : w.ownsRow lo 38 8 v es.length (rowsE es)) : SlE w v es := by
  by_cases hz : es = []
  · subst hz
    left
    rcases h.2 with ⟨e, _⟩ | ⟨g, cap, cur, e, _⟩
    · exact ⟨rfl, _, _, e⟩
    · exact ⟨rfl, _, _, e⟩
  · right
    have hpos : 0 < es.length := List.length_pos_iff.2 hz
    rcases h.2 with ⟨_, e⟩ | ⟨g, cap, cur, rfl, hb, hg, hn, hm, hs, ht⟩
    · omega
    · refine ⟨hz, g, 0, cap, rfl, (Array.getElem?_eq_some_iff.1 hg).1, hn, fun i e hi j u hu => ?_⟩
      have hx := rowsE_at es i e hi j u hu
      have h1 := h.cells (g := g) rfl (i * 8 + j) _ hx
      have hadd : (⟨g, 0, none⟩ : Addr).add (i * 8 + j) = ⟨g, 0 + i * 8 + j, none⟩ := by unfold Addr.add; split <;> simp_all
      rw [hadd] at h1
      exact h1
theorem SlE.far {w w' : World} {v v' : Value} {lo : Nat} {es : List Ev} (h : w.ownsRow lo 38 8 v es.length (rowsE es)) {B : Nat} (hB : ∀ b, v.ownBlock = some b → b < B) (hg : w.grownBy w' v'.ownBlock) (hf : ∀ b, v'.ownBlock = some b → B ≤ b) : w'.ownsRow lo 38 8 v es.length (rowsE es) := by
  refine ⟨h.1, ?_⟩
  rcases h.2 with hn | ⟨g, cap, cur, rfl, hlo, hgg, rest⟩
  · exact .inl hn
  · refine .inr ⟨g, cap, cur, rfl, hlo, ?_, rest⟩
    rw [hg.block g (Array.getElem?_eq_some_iff.1 hgg).1 (fun e => by have h1 := hB g rfl; have h2 := hf g e.symm; omega)]
    exact hgg
end Go.Proofs.Ytmbbmibkjnlkkaa
/- The law on PathOf, walked, over impl's contract. -/
namespace Go.Proofs.Ytmbbmibkjnlkkaa
open Go.ChangeShapes Go.WideShapes Go.ChangeAt Go.RowKit
theorem rlenG {w : World} {lo e sz : Nat} {a : Option Addr} {m c n : Nat} {xs : List Value} (h : w.ownsRow lo e sz (.slice a m c) n xs) : m = n := by
  rcases h.2 with ⟨e1, e2⟩ | ⟨g, cap, cur, e1, _⟩
  · injection e1 with _ e1 e3; omega
  · injection e1 with _ e1 e3
theorem row_lowerG {w : World} {lo lo' e sz : Nat} {v : Value} {n : Nat} {xs : List Value} (h : w.ownsRow lo e sz v n xs) (hl : lo' ≤ lo) : w.ownsRow lo' e sz v n xs := by
  refine ⟨h.1, ?_⟩
  rcases h.2 with hn | ⟨g, cap, cur, e1, e2, rest⟩
  · exact .inl hn
  · exact .inr ⟨g, cap, cur, e1, by omega, rest⟩
theorem row_farG {w w' : World} {v v' : Value} {lo e sz n : Nat} {xs : List Value} (h : w.ownsRow lo e sz v n xs) {B : Nat} (hB : ∀ b, v.ownBlock = some b → b < B) (hg : w.grownBy w' v'.ownBlock) (hf : ∀ b, v'.ownBlock = some b → B ≤ b) : w'.ownsRow lo e sz v n xs := by
  refine ⟨h.1, ?_⟩
  rcases h.2 with hn | ⟨g, cap, cur, rfl, hlo, hgg, rest⟩
  · exact .inl hn
  · refine .inr ⟨g, cap, cur, rfl, hlo, ?_, rest⟩
    rw [hg.block g (Array.getElem?_eq_some_iff.1 hgg).1 (fun e => by have h1 := hB g rfl; have h2 := hf g e.symm; omega)]
    exact hgg
theorem slG_own {w : World} {lo : Nat} {v : Value} {es : List Sg} (h : w.ownsRow lo 54 3 v es.length (cellsP es)) : SgL w v es := by
  by_cases hz : es = []
  · subst hz
    left
    rcases h.2 with ⟨e, _⟩ | ⟨g, cap, cur, e, _⟩
    · exact ⟨rfl, _, _, e⟩
    · exact ⟨rfl, _, _, e⟩
  · right
    have hpos : 0 < es.length := List.length_pos_iff.2 hz
    rcases h.2 with ⟨_, e⟩ | ⟨g, cap, cur, rfl, hb, hg, hn, hm, hs, ht⟩
    · omega
    · refine ⟨hz, g, 0, cap, rfl, (Array.getElem?_eq_some_iff.1 hg).1, hn, fun i e hi j u hu => ?_⟩
      have hx := cellsP_at hi j u hu
      have h1 := h.cells (g := g) rfl (i * 3 + j) _ hx
      have hadd : (⟨g, 0, none⟩ : Addr).add (i * 3 + j) = ⟨g, 0 + i * 3 + j, none⟩ := by unfold Addr.add; split <;> simp_all
      rw [hadd] at h1
      exact h1
theorem eqGs (v u : Value) (es : List Sg) (w : World) (hV : SgL w v es) (hU : SgL w u es) (hl : es.length ≤ 1048577) :
    Calls Try.prog 12 #[v, u] w fun e w' => e = .returned (.bool true) ∧ Below w.heap.size w w' := eqPs_ w v u es hV hU (by omega)
theorem chain_le (es : List Ev) : ∀ (f : Nat) (m : Int), (chainE es f m).length ≤ f
  | 0, _ => Nat.le_refl 0
  | f + 1, m => by
    rw [chainE]
    split
    · exact Nat.zero_le _
    · have := chain_le es f
      rw [List.length_cons]
      exact Nat.succ_le_succ (this _)
theorem pathOf_len (es : List Ev) (i : Int) (h : es.length ≤ 1048576) : (pathOf es i).length ≤ 1048577 := by
  rw [path_for, List.length_reverse]
  have := chain_le es (es.length + 1) (forF es i)
  omega
/-- What is asked of impl.PathOf. -/
def ImplPathOf : Prop := ∀ (w : World) (v : Value) (es : List Ev) (i : Int) (L : List Sg), SlE w v es → totE es + es.length ≤ 1048576 → (∀ e ∈ es, wfE e) → (Lit.int .i64 i).wf = true → pathOf es i = L → Calls Try.prog 11 #[v, .int .i64 i] w fun e w' => OwnSg w L e w'
set_option maxRecDepth 100000 in
set_option maxHeartbeats 8000000 in
theorem law_pathOf (HI : ImplPathOf) (v : Value) (es : List Ev) (w : World) (hV : SlE w v es) (hw : wideEs es) (hf : ∀ e ∈ es, wfE e) (hl : es.length ≤ 9223372036854775807) (i : Int) (wi : (Lit.int .i64 i).wf = true) :
    Calls Try.prog 4 #[v, .int .i64 i] w fun e w' => e = .returned (.bool true) ∧ Below w.heap.size w w' := by
  obtain ⟨a, c, rfl⟩ := hV.sl
  have hSz := szEs_ w _ es hV hw hl
  have HV : Hid (SlE w (.slice a es.length c) es) := hV
  obtain ⟨L, hL⟩ : ∃ L, pathOf es i = L := ⟨_, rfl⟩
  have cI : Hid (totE es + es.length ≤ 1048576 → ∀ w' v', SlE w' v' es → Calls Try.prog 11 #[v', .int .i64 i] w' fun e w'' => OwnSg w' L e w'') := fun hb w' v' h => HI w' v' es i L h hb hf wi hL
  have cS : Hid (totE es + es.length ≤ 1048576 → ∀ w' v', SlE w' v' es → Calls Try.prog 10 #[v', .int .i64 i] w' fun e w'' => OwnSg w' L e w'') := fun hb w' v' h => by rw [← hL]; exact spec_pathOf w' v' es h hb i
  have HLL : Hid (es.length ≤ 1048576 → L.length ≤ 1048577) := fun h => by rw [← hL]; exact pathOf_len es i h
  clear hV hw hl hf HI hL wi
  go_enter Try.func4, Try.ntmps4
  go_wp2_with fail
  refine hSz.mono ?_
  rintro e w1 ⟨⟨r, rfl, hr⟩, hb1⟩
  clear hSz
  rcases hr with rfl | ⟨hr0, hrt⟩
  · go_wp2_with fail
    go_ret
    exact ⟨rfl, hb1⟩
  have HES : Hid (es.length ≤ 1048576) := by show es.length ≤ 1048576; omega
  have HLN : Hid (L.length ≤ 1048577) := HLL.out (by omega)
  have cI2 : Hid (∀ w' v', SlE w' v' es → Calls Try.prog 11 #[v', .int .i64 i] w' fun e w'' => OwnSg w' L e w'') := cI.out hrt
  have cS2 : Hid (∀ w' v', SlE w' v' es → Calls Try.prog 10 #[v', .int .i64 i] w' fun e w'' => OwnSg w' L e w'') := cS.out hrt
  have cT : Hid (∀ w', Below w.heap.size w w' → Calls Try.prog 7 #[.slice a es.length c] w' fun e w'' => (e = .returned (.slice (some ⟨w'.heap.size, 0, none⟩) es.length es.length) ∧ w''.ownsRow w'.heap.size 38 8 (.slice (some ⟨w'.heap.size, 0, none⟩) es.length es.length) es.length (rowsE es)) ∧ Below w'.heap.size w' w'') := fun w' hb => toEs_own w' _ es (HV.out.stays hb) HES.out
  have hr0' : ¬ r < 0 := by omega
  have HB1 : Hid (Below w.heap.size w w1) := hb1
  clear hrt cI cS HLL hb1
  go_wp2_with fail
  refine (cT.out w1 HB1.out).mono ?_
  rintro e w2 ⟨⟨rfl, ho2⟩, hb2⟩
  have HS2 : Hid (SlE w2 (.slice (some ⟨w1.heap.size, 0, none⟩) es.length es.length) es) := slE_row ho2
  have HB2 : Hid (Below w.heap.size w w2) := HB1.out.trans (hb2.mono HB1.out.size)
  clear ho2 hb2 HB1
  go_wp2_with fail
  refine (cS2.out w2 _ HS2.out).mono ?_
  rintro e w3 ⟨a0, n0, c0, rfl, ho3, hb3⟩
  obtain rfl := rlenG ho3
  have HO3 : Hid (w3.ownsRow w.heap.size 54 3 (.slice a0 L.length c0) L.length (cellsP L)) := row_lowerG ho3 HB2.out.size
  have HB3 : Hid (Below w.heap.size w w3) := HB2.out.trans (hb3.mono HB2.out.size)
  clear ho3 hb3 HB2 HS2
  go_wp2_with fail
  refine (cT.out w3 HB3.out).mono ?_
  rintro e w4 ⟨⟨rfl, ho4⟩, hb4⟩
  have HX4 : Hid (w4.ownsRow w3.heap.size 38 8 (.slice (some ⟨w3.heap.size, 0, none⟩) es.length es.length) es.length (rowsE es)) := ho4
  have HO4 : Hid (w4.ownsRow w.heap.size 54 3 (.slice a0 L.length c0) L.length (cellsP L)) := row_below HO3.out hb4
  have HB4 : Hid (Below w.heap.size w w4) := HB3.out.trans (hb4.mono HB3.out.size)
  have HW3 : Hid (w.heap.size ≤ w3.heap.size ∧ w3.heap.size < w4.heap.size) := ⟨HB3.out.size, (ho4.lt w3.heap.size rfl).2⟩
  have HA0 : Hid (∀ b, (Value.slice a0 L.length c0).ownBlock = some b → b < w3.heap.size) := fun b hb => (HO3.out.lt b hb).2
  clear ho4 hb4 HB3 HO3
  go_wp2_with fail
  refine (cI2.out w4 _ (slE_row HX4.out)).mono ?_
  rintro e w5 ⟨a1, n1, c1, rfl, ho5, hb5⟩
  obtain rfl := rlenG ho5
  have HG5 : Hid (w5.ownsRow w4.heap.size 54 3 (.slice a1 L.length c1) L.length (cellsP L)) := ho5
  have HX5 : Hid (w5.ownsRow w3.heap.size 38 8 (.slice (some ⟨w3.heap.size, 0, none⟩) es.length es.length) es.length (rowsE es)) := row_below HX4.out hb5
  have HO5 : Hid (w5.ownsRow w.heap.size 54 3 (.slice a0 L.length c0) L.length (cellsP L)) := row_below HO4.out hb5
  have HB5 : Hid (Below w.heap.size w w5) := HB4.out.trans (hb5.mono HB4.out.size)
  have HA1 : Hid (∀ b, (Value.slice a1 L.length c1).ownBlock = some b → w4.heap.size ≤ b) := fun b hb => (ho5.lt b hb).1
  clear ho5 hb5 HX4 HO4 HB4
  go_wp2_with fail
  refine (eqGs _ _ L w5 (slG_own HG5.out) (slG_own HO5.out) HLN.out).mono ?_
  rintro e w6 ⟨rfl, hb6⟩
  have HG6 : Hid (w6.ownsRow w4.heap.size 54 3 (.slice a1 L.length c1) L.length (cellsP L)) := row_below HG5.out hb6
  have HX6 : Hid (w6.ownsRow w3.heap.size 38 8 (.slice (some ⟨w3.heap.size, 0, none⟩) es.length es.length) es.length (rowsE es)) := row_below HX5.out hb6
  have HO6 : Hid (w6.ownsRow w.heap.size 54 3 (.slice a0 L.length c0) L.length (cellsP L)) := row_below HO5.out hb6
  have HB6 : Hid (Below w.heap.size w w6) := HB5.out.trans (hb6.mono HB5.out.size)
  clear hb6 HG5 HX5 HO5 HB5
  go_wp2_with fail
  refine (cT.out w6 HB6.out).mono ?_
  rintro e w7 ⟨⟨rfl, ho7⟩, hb7⟩
  have HG7 : Hid (w7.ownsRow w4.heap.size 54 3 (.slice a1 L.length c1) L.length (cellsP L)) := row_below HG6.out hb7
  have HX7 : Hid (w7.ownsRow w3.heap.size 38 8 (.slice (some ⟨w3.heap.size, 0, none⟩) es.length es.length) es.length (rowsE es)) := row_below HX6.out hb7
  have HO7 : Hid (w7.ownsRow w.heap.size 54 3 (.slice a0 L.length c0) L.length (cellsP L)) := row_below HO6.out hb7
  have HB7 : Hid (Below w.heap.size w w7) := HB6.out.trans (hb7.mono HB6.out.size)
  have cE := eqEs_ w7 _ _ es (slE_row HX7.out) (slE_row ho7) (by have := HES.out; omega)
  clear ho7 hb7 HG6 HX6 HO6 HB6
  go_wp2_with fail
  refine cE.mono ?_
  rintro e w8 ⟨rfl, hb8⟩
  have HG8 : Hid (w8.ownsRow w4.heap.size 54 3 (.slice a1 L.length c1) L.length (cellsP L)) := row_below HG7.out hb8
  have HX8 : Hid (w8.ownsRow w3.heap.size 38 8 (.slice (some ⟨w3.heap.size, 0, none⟩) es.length es.length) es.length (rowsE es)) := row_below HX7.out hb8
  have HO8 : Hid (w8.ownsRow w.heap.size 54 3 (.slice a0 L.length c0) L.length (cellsP L)) := row_below HO7.out hb8
  have HB8 : Hid (Below w.heap.size w w8) := HB7.out.trans (hb8.mono HB7.out.size)
  clear hb8 cE HG7 HX7 HO7 HB7
  go_wp2_with fail
  refine (markEs_any w8 w3.heap.size _ es 1 HX8.out (by have := HES.out; omega) (by decide) (by decide)).mono ?_
  rintro e w9 ⟨rfl, _, hg9⟩
  have HG9 : Hid (w9.ownsRow w4.heap.size 54 3 (.slice a1 L.length c1) L.length (cellsP L)) := row_same HG8.out (fun k hk hlt => hg9.block k hlt (by intro e; have h1 := HW3.out; simp [Value.ownBlock] at e; omega))
  have HO9 : Hid (w9.ownsRow w.heap.size 54 3 (.slice a0 L.length c0) L.length (cellsP L)) := row_farG HO8.out HA0.out hg9 (fun b e => by simp [Value.ownBlock] at e; omega)
  have HB9 : Hid (Below w.heap.size w w9) := HB8.out.trans ⟨hg9.os, hg9.tape, hg9.output, hg9.size, fun k hk => hg9.block k (by have := HB8.out.size; omega) (fun e => by have h2 := HW3.out; simp [Value.ownBlock] at e; omega)⟩
  have hm8 : ((1 + 8 * es.length : Nat) : Int) ≤ 35154433 := by have := HES.out; omega
  have hm0 : (1 : Int) ≤ ((1 + 8 * es.length : Nat) : Int) := by omega
  generalize ((1 + 8 * es.length : Nat) : Int) = M at *
  have hM2 : ¬ M < 0 := by omega
  have HW4 : Hid (w.heap.size ≤ w4.heap.size) := by show _ ≤ _; have := HW3.out; omega
  have HA0b : Hid (∀ b, (Value.slice a0 L.length c0).ownBlock = some b → b < w4.heap.size) := fun b hb => by have h1 := HA0.out b hb; have h2 := HW3.out; omega
  clear hg9 HG8 HX8 HO8 HB8 HA0 HW3
  go_wp2_with fail
  refine (eqGs _ _ L w9 (slG_own HG9.out) (slG_own HO9.out) HLN.out).mono ?_
  rintro e w10 ⟨rfl, hb10⟩
  have HG10 : Hid (w10.ownsRow w4.heap.size 54 3 (.slice a1 L.length c1) L.length (cellsP L)) := row_below HG9.out hb10
  have HO10 : Hid (w10.ownsRow w.heap.size 54 3 (.slice a0 L.length c0) L.length (cellsP L)) := row_below HO9.out hb10
  have HB10 : Hid (Below w.heap.size w w10) := HB9.out.trans (hb10.mono HB9.out.size)
  clear hb10 HG9 HO9 HB9 hm8 hm0
  have hM3 : decide (M < 0) = false := by simpa using hM2
  have cM := markGs_any w10 w4.heap.size _ L 1 HG10.out (by have := HLN.out; omega) (by decide) (by decide)
  obtain ⟨Q, hQ⟩ : ∃ Q : Int, ((1 + 3 * L.length : Nat) : Int) = Q := ⟨_, rfl⟩
  rw [hQ] at cM
  have HQ : Hid (((1 + 3 * L.length : Nat) : Int) = Q) := hQ
  have hQ1 : ¬ Q < 0 := by omega
  have hQ2 : (Q != Q) = false := by simp
  have cH : Hid (∀ w', SgL w' (.slice a1 L.length c1) (mkGs 1 L.length) → Calls Try.prog 15 #[.slice a1 L.length c1, .int .i64 1] w' fun e w'' => e = .returned (.int .i64 Q) ∧ Below w'.heap.size w' w'') := fun w' h => by
    have := heldGs_any w' _ L.length 1 h (by have := HLN.out; omega) (by decide) (by decide)
    rw [HQ.out] at this
    exact this
  clear hQ
  go_wp2_with fail
  refine cM.mono ?_
  rintro e w11 ⟨rfl, ho11, hg11⟩
  have HG11 : Hid (w11.ownsRow w4.heap.size 54 3 (.slice a1 L.length c1) (mkGs 1 L.length).length (cellsP (mkGs 1 L.length))) := by show World.ownsRow _ _ _ _ _ _ _; rw [mkGs_len]; exact ho11
  have HO11 : Hid (w11.ownsRow w.heap.size 54 3 (.slice a0 L.length c0) L.length (cellsP L)) := row_farG HO10.out HA0b.out hg11 HA1.out
  have HB11 : Hid (Below w.heap.size w w11) := HB10.out.trans ⟨hg11.os, hg11.tape, hg11.output, hg11.size, fun k hk => hg11.block k (by have := HB10.out.size; omega) (fun e => by have h1 := HA1.out k e.symm; have h2 := HW4.out; omega)⟩
  clear ho11 hg11 cM HG10 HO10 HB10
  go_wp2_with fail
  refine (cH.out w11 (slG_own HG11.out)).mono ?_
  rintro e w12 ⟨rfl, hb12⟩
  have HG12 : Hid (w12.ownsRow w4.heap.size 54 3 (.slice a1 L.length c1) (mkGs 1 L.length).length (cellsP (mkGs 1 L.length))) := row_below HG11.out hb12
  have HO12 : Hid (w12.ownsRow w.heap.size 54 3 (.slice a0 L.length c0) L.length (cellsP L)) := row_below HO11.out hb12
  have HB12 : Hid (Below w.heap.size w w12) := HB11.out.trans (hb12.mono HB11.out.size)
  clear hb12 HG11 HO11 HB11
  go_wp2_with fail
  refine (cT.out w12 HB12.out).mono ?_
  rintro e w13 ⟨⟨rfl, ho13⟩, hb13⟩
  have HS13 : Hid (SlE w13 (.slice (some ⟨w12.heap.size, 0, none⟩) es.length es.length) es) := slE_row ho13
  have HG13 : Hid (w13.ownsRow w4.heap.size 54 3 (.slice a1 L.length c1) (mkGs 1 L.length).length (cellsP (mkGs 1 L.length))) := row_below HG12.out hb13
  have HO13 : Hid (w13.ownsRow w.heap.size 54 3 (.slice a0 L.length c0) L.length (cellsP L)) := row_below HO12.out hb13
  have HB13 : Hid (Below w.heap.size w w13) := HB12.out.trans (hb13.mono HB12.out.size)
  clear ho13 hb13 HG12 HO12 HB12
  go_wp2_with fail
  refine (cI2.out w13 _ HS13.out).mono ?_
  rintro e w14 ⟨a2, n2, c2, rfl, ho14, hb14⟩
  obtain rfl := rlenG ho14
  have HH14 : Hid (SgL w14 (.slice a2 L.length c2) L) := slG_own ho14
  have HG14 : Hid (w14.ownsRow w4.heap.size 54 3 (.slice a1 L.length c1) (mkGs 1 L.length).length (cellsP (mkGs 1 L.length))) := row_below HG13.out hb14
  have HO14 : Hid (w14.ownsRow w.heap.size 54 3 (.slice a0 L.length c0) L.length (cellsP L)) := row_below HO13.out hb14
  have HB14 : Hid (Below w.heap.size w w14) := HB13.out.trans (hb14.mono HB13.out.size)
  clear ho14 hb14 HG13 HO13 HB13 cI2
  go_wp2_with fail
  refine (eqGs _ _ L w14 HH14.out (slG_own HO14.out) HLN.out).mono ?_
  rintro e w15 ⟨rfl, hb15⟩
  have HG15 : Hid (w15.ownsRow w4.heap.size 54 3 (.slice a1 L.length c1) (mkGs 1 L.length).length (cellsP (mkGs 1 L.length))) := row_below HG14.out hb15
  have HB15 : Hid (Below w.heap.size w w15) := HB14.out.trans (hb15.mono HB14.out.size)
  clear hb15 HG14 HO14 HB14 HH14
  go_wp2_with fail
  refine (cH.out w15 (slG_own HG15.out)).mono ?_
  rintro e w16 ⟨rfl, hb16⟩
  have HB16 : Hid (Below w.heap.size w w16) := HB15.out.trans (hb16.mono HB15.out.size)
  clear hb16 HG15 HB15 cH
  go_wp2_with fail
  go_ret
  exact ⟨rfl, HB16.out⟩
end Go.Proofs.Ytmbbmibkjnlkkaa

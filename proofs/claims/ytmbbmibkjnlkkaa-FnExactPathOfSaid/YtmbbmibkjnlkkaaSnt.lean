/- The contract of spec.Nested. -/
import Derived.Test.YtmbbmibkjnlkkaaZpd
import Derived.OwnWalk
namespace Go.Proofs.Ytmbbmibkjnlkkaa
open Go.ChangeShapes Go.WideShapes Go.ChangeAt Go.RowKit
abbrev ints (st : List Int) : List Value := st.reverse.map (Value.int .i64)
theorem ints_len (st : List Int) : (ints st).length = st.length := by simp [ints]
theorem ints_cons (x : Int) (st : List Int) : ints (x :: st) = ints st ++ [.int .i64 x] := by simp [ints]
theorem infoI : (Try.prog.info? 3).map (fun i => (i.zero, i.size, i.bytes)) = some (some (.int .i64 0), 1, 8) := by kernel_rfl
/-- What is open, as it lies. -/
structure Opn (lo : Nat) (st : List Int) (v : Value) (k : Nat) (w : World) : Prop where
  own : w.ownsRow lo 3 1 v st.length (ints st)
  bnd : ∀ x ∈ st, -1 ≤ x ∧ x ≤ (k : Int)
  len : st.length ≤ k
theorem Opn.more {lo : Nat} {st : List Int} {v : Value} {k : Nat} {w : World} (h : Opn lo st v k w) : Opn lo st v (k + 1) w := ⟨h.own, fun x hx => by have := h.bnd x hx; omega, by have := h.len; omega⟩
theorem Opn.stays {lo : Nat} {st : List Int} {v : Value} {k : Nat} {w w' : World} (h : Opn lo st v k w) (hb : Below w.heap.size w w') : Opn lo st v k w' := ⟨row_stays h.own hb, h.bnd, h.len⟩
theorem Opn.put {lo : Nat} {st : List Int} {v : Value} {k : Nat} {w : World} (h : Opn lo st v k w) (hlo : lo ≤ w.heap.size) (hk : k ≤ 2000000) (y : Int) (hy : -1 ≤ y ∧ y ≤ 0) (k' : Nat) (hkk : k ≤ k') (hlk : st.length + 1 ≤ k') (ty : TypeId) :
    ∃ v' w', (Builtin.append_ #[55, 55] ty #[v, .slice (some ⟨w.heap.size, 0, none⟩) 1 1]).run Try.prog (w.alloc (.cells #[.int .i64 y] 3)) = .ok v' w' ∧ isSl' v' ∧ Opn lo (y :: st) v' k' w' ∧ Below lo w w' ∧ (∀ b, b < w.heap.size → v.ownBlock ≠ some b → w'.heap[b]? = w.heap[b]?) := by
  obtain ⟨v', w', h1, h2, h3, h4, h5⟩ := push_own (P := Try.prog) Try.underlying55 infoI rfl (by decide) w lo v _ _ h.own #[.int .i64 y] rfl (by intro u hu; simp at hu; subst hu; rfl) (by have := h.len; omega) (by omega) hlo ty
  refine ⟨v', w', h1, h2, ⟨by rw [ints_cons]; exact h3, ?_, by simpa using hlk⟩, h4, h5⟩
  intro x hx
  rcases List.mem_cons.1 hx with rfl | hx
  · omega
  · have := h.bnd x hx
    omega
theorem Opn.sl {lo : Nat} {st : List Int} {v : Value} {k : Nat} {w : World} (h : Opn lo st v k w) : ∃ a c, v = .slice a st.length c := by
  rcases h.own.2 with ⟨rfl, e⟩ | ⟨g, cap, cur, rfl, _⟩
  · exact ⟨_, _, by rw [e]⟩
  · exact ⟨_, _, rfl⟩
/-- The top of it. -/
theorem Opn.top {lo : Nat} {x : Int} {st : List Int} {a : Option Addr} {n c : Nat} {k : Nat} {w : World} (h : Opn lo (x :: st) (.slice a n c) k w) :
    ∃ g, a = some ⟨g, 0, none⟩ ∧ n = st.length + 1 ∧ lo ≤ g ∧ g < w.heap.size ∧ n ≤ c ∧ w.cell? ⟨g, st.length, none⟩ = some (.int .i64 x) ∧ w.frozen? ⟨g, st.length, none⟩ = false ∧ -1 ≤ x ∧ x ≤ (k : Int) ∧
      Opn lo st (.slice (some ⟨g, 0, none⟩) st.length c) (k + 1) w ∧ (∀ y, -1 ≤ y → y ≤ (k : Int) + 1 → ∀ k', k ≤ k' → y ≤ (k' : Int) → Opn lo (y :: st) (.slice a n c) k' (w.setCell ⟨g, st.length, none⟩ (.int .i64 y))) := by
  have h1 := h.own
  rw [ints_cons] at h1
  obtain ⟨g, c', e, en, hlo, hg, hc, hcell, hfz, hset, hcut⟩ := row_top h1
  rw [ints_len] at *
  injection e with e1 e2 e3
  subst e1 e3
  have hb := h.bnd
  refine ⟨g, rfl, e2, hlo, hg, by simpa [e2] using hc, hcell, hfz, (hb x (by simp)).1, (hb x (by simp)).2, ⟨hcut, fun y hy => ?_, by have := h.len; simp at this; omega⟩, fun y y1 y2 k' hk' hyk => ⟨?_, fun z hz => ?_, by have := h.len; simp at this ⊢; omega⟩⟩
  · have := hb y (by simp [hy])
    omega
  · rw [ints_cons]
    exact hset (.int .i64 y)
  · rcases List.mem_cons.1 hz with rfl | hz
    · exact ⟨y1, hyk⟩
    · have := hb z (by simp [hz])
      omega
theorem Opn.nil {lo : Nat} {a : Option Addr} {n c k : Nat} {w : World} (h : Opn lo [] (.slice a n c) k w) : n = 0 := by
  have := (row_none h.own).2
  obtain ⟨_, _, e⟩ := this
  injection e
/-- A block of another type isn't the row. -/
theorem Opn.ne {lo : Nat} {st : List Int} {v : Value} {k : Nat} {w : World} (h : Opn lo st v k w) {b : Nat} {cs : Array Value} (hb : w.heap[b]? = some (.cells cs 38 (0, 0))) : v.ownBlock ≠ some b := by
  rcases h.own.2 with ⟨rfl, _⟩ | ⟨g, cap, cur, rfl, _, hg, _⟩
  · simp [Value.ownBlock]
  · intro e
    obtain rfl : g = b := by simpa [Value.ownBlock] using e
    rw [hb] at hg
    injection hg with hg
    injection hg with _ hg
    exact absurd hg (by decide)
set_option linter.unusedSimpArgs false in
set_option maxRecDepth 100000 in
set_option maxHeartbeats 64000000 in
theorem spec_nested (w : World) (v : Value) (es : List Ev) (hV : SlE w v es) (hl : totE es + es.length ≤ 1048576) (b : Bool) (hb : nested es = b) :
    Calls Try.prog 17 #[v] w fun r w' => r = .returned (.bool b) ∧ Below w.heap.size w w' := by
  obtain ⟨a, c, rfl⟩ := hV.sl
  have HV : Hid (SlE w (.slice a es.length c) es) := hV
  have HT : Hid (totE es + es.length ≤ 1048576) := hl
  have HB0 : Hid (nst true 0 [] es = b) := hb
  have hlen : es.length ≤ 1048576 := by omega
  clear hV hl hb
  go_enter Try.func17, Try.ntmps17
  go_wp2_with fail
  have HO0 : Hid (Opn w.heap.size [] (.slice (some ⟨w.heap.size, 0, none⟩) 0 0) 0 (w.alloc (.cells #[] 3))) := ⟨World.ownsRow_made w #[] 0 (Nat.le_refl _) (Nat.zero_le _) rfl, fun x hx => (by cases hx), Nat.le_refl _⟩
  have HA0 : Hid (Below w.heap.size w (w.alloc (.cells #[] 3))) := (Below.refl _ w).alloc (Nat.le_refl _) _
  go_loopw [3, 4, 13] (fun ov dv kv wr => ∃ (k : Nat) (doc : Int) (st : List Int), kv = .int .i64 (k : Int) ∧ k ≤ es.length ∧ dv = .int .i64 doc ∧ Hid (Opn w.heap.size st ov k wr) ∧ Hid (nst (k == 0) doc st (es.drop k) = b) ∧ Hid (Below w.heap.size w wr)) (fun _ _ kv _ => es.length - (intOf kv).toNat)
  case atStart => exact ⟨0, 0, [], rfl, Nat.zero_le _, rfl, HO0, HB0, HA0⟩
  case round =>
    clear HO0 HA0 HB0
    obtain ⟨k, doc, st, rfl, hk, rfl, HO, HN, HBl⟩ := hrel
    by_cases hlt : k < es.length
    · obtain ⟨e, hx⟩ : ∃ e, es[k]? = some e := ⟨_, List.getElem?_eq_getElem hlt⟩
      obtain ⟨bb, off, rfl, hbl, ⟨c0, c1, c2, c3, c4, c5, c6, c7⟩⟩ := HV.out.at HBl.out hx
      have hd : es.drop k = e :: es.drop (k + 1) := by
        rw [List.drop_eq_getElem_cons hlt]
        congr 1
        have := List.getElem?_eq_getElem hlt
        rw [hx] at this
        injection this with this
        exact this.symm
      have HN1 : Hid (nst (k == 0) doc st (e :: es.drop (k + 1)) = b) := by rw [← hd]; exact HN.out
      have htm := totE_mem (List.mem_of_getElem? hx)
      have cE : Hid (∀ w, Calls Try.prog 29 #[.agg e.row] w fun r w' => r = .returned (.bool (evOk e)) ∧ Below w.heap.size w w') := fun w => by
        have := HT.out
        unfold Ev.tot at htm
        exact spec_eventOk e w ⟨by unfold mx; omega, by unfold mx; omega, by unfold mx; omega⟩ _ rfl
      have HLast : Hid ((es.drop (k + 1)).isEmpty = decide (k + 1 = es.length)) := by
        show (es.drop (k + 1)).isEmpty = decide (k + 1 = es.length)
        have hdl : (es.drop (k + 1)).length = es.length - (k + 1) := List.length_drop
        cases hdd : es.drop (k + 1) with
        | nil => rw [hdd] at hdl; simp at hdl; rw [decide_eq_true (by omega)]; rfl
        | cons x t => rw [hdd] at hdl; simp at hdl; rw [decide_eq_false (by omega)]; rfl
      have hlt' : (k : Int) < (es.length : Int) := by omega
      have hkb : (k : Int) ≤ 1048576 := by omega
      obtain ⟨oa, oc, rfl⟩ := HO.out.sl
      generalize hnn : st.length = n at *
      have HKN : Hid (evOk e = true → 1 ≤ e.kind ∧ e.kind ≤ 10) := evOk_kind
      have HBad : Hid (evOk e = false → false = b) := nst_bad HN1.out
      have HFst : Hid (evOk e = true → ((k == 0) != (e.kind == 1)) = true → false = b) := nst_first HN1.out
      have HIn := fun h1 h2 => nst_in HN1.out h1 h2
      obtain ⟨kind, style, flag, text, anchor, tag, at_, code⟩ := e
      unfold Ev.row at cE
      simp only at c0 c1 c2 c3 c4 c5 c6 c7
      have HAL : Hid (Below wr.heap.size wr (wr.alloc (.cells #[.int .i64 kind, .int .i64 style, .bool flag, .string text, .string anchor, .string tag, .int .i64 at_, .int .i64 code] 38))) := (Below.refl _ wr).alloc (Nat.le_refl _) _
      have HNEW : Hid ((wr.alloc (.cells #[.int .i64 kind, .int .i64 style, .bool flag, .string text, .string anchor, .string tag, .int .i64 at_, .int .i64 code] 38)).heap[wr.heap.size]? = some (.cells #[.int .i64 kind, .int .i64 style, .bool flag, .string text, .string anchor, .string tag, .int .i64 at_, .int .i64 code] 38 (0, 0))) := heap_alloc_new wr _
      have HIN : Hid (evOk ⟨kind, style, flag, text, anchor, tag, at_, code⟩ = true → ((k == 0) != (kind == 1)) = false → (if kind = 10 then (es.drop (k + 1)).isEmpty
          else if kind = 2 then (if doc = 0 then nst false 1 st (es.drop (k + 1)) else false)
          else if 3 ≤ kind ∧ kind ≤ 6 then
            (if st = [] then (if doc = 1 then nst false 2 (pushK kind []) (es.drop (k + 1)) else false) else nst false doc (pushK kind (stI (st.headD 0) :: st.tail)) (es.drop (k + 1)))
          else if kind = 7 then
            (if st = [] then false else if 0 < st.headD 0 ∧ st.headD 0 % 2 = 1 then false else nst false doc st.tail (es.drop (k + 1)))
          else if kind = 8 then (if doc = 2 ∧ st = [] then nst false 0 [] (es.drop (k + 1)) else false)
          else if kind = 9 then (es.drop (k + 1)).isEmpty && decide (doc = 0)
          else nst false doc st (es.drop (k + 1))) = b) := HIn
      have HLI : Hid (((k : Int) == (es.length : Int) - 1) = decide (k + 1 = es.length)) := by
        show ((k : Int) == (es.length : Int) - 1) = decide (k + 1 = es.length)
        rw [Bool.eq_iff_iff, beq_iff_eq, decide_eq_true_eq]
        omega
      clear hx hd HN1 HN htm HIn hnn
      go_wp2_with fail
      refine (cE.out _).mono ?_
      rintro r w1 ⟨rfl, hb1⟩
      clear cE c0 c1 c2 c3 c4 c5 c6 c7
      have hB1 : Below wr.heap.size wr w1 := HAL.out.trans (hb1.mono HAL.out.size)
      have hnew : w1.heap[wr.heap.size]? = some (.cells #[.int .i64 kind, .int .i64 style, .bool flag, .string text, .string anchor, .string tag, .int .i64 at_, .int .i64 code] 38 (0, 0)) := (hb1.block _ (by show wr.heap.size < (wr.heap.push _).size; simp)).trans HNEW.out
      have HO1 : Hid (Opn w.heap.size st (.slice oa n oc) k w1) := HO.out.stays hB1
      have HBl1 : Hid (Below w.heap.size w w1) := HBl.out.trans (hB1.mono HBl.out.size)
      have HSZ : Hid (w.heap.size ≤ w1.heap.size) := HBl1.out.size
      have HNEW1 : Hid (w1.heap[wr.heap.size]? = some (.cells #[.int .i64 kind, .int .i64 style, .bool flag, .string text, .string anchor, .string tag, .int .i64 at_, .int .i64 code] 38 (0, 0))) := hnew
      have q0 : w1.cell? ⟨wr.heap.size, 0, none⟩ = some (.int .i64 kind) := (ev_at hnew).1
      clear hb1 hB1 hnew HAL HNEW HO HBl
      obtain ⟨Bk, hBk⟩ : ∃ Bk, wr.heap.size = Bk := ⟨_, rfl⟩
      rw [hBk] at q0 HNEW1 ⊢
      clear hBk
      generalize evOk ⟨kind, style, flag, text, anchor, tag, at_, code⟩ = ev at *
      cases ev with
      | false =>
        obtain rfl := HBad.out rfl
        clear HBad HFst HIN HKN
        go_wp2_with fail
        go_ret
        exact ⟨rfl, HBl1.out⟩
      | true =>
        obtain ⟨kk1, kk2⟩ : 1 ≤ kind ∧ kind ≤ 10 := HKN.out rfl
        clear HBad HKN
        by_cases hk0 : k = 0
        · have e0 : ((k : Int) == 0) = true := by rw [beq_iff_eq]; omega
          have ek : (k == 0) = true := by rw [beq_iff_eq]; exact hk0
          rw [ek] at HFst HIN
          by_cases h1 : kind = 1
          · subst h1
            have hin := HIN.out rfl rfl
            rw [if_neg (by decide), if_neg (by decide), if_neg (by decide), if_neg (by decide), if_neg (by decide), if_neg (by decide)] at hin
            have HNX : Hid (nst (k + 1 == 0) doc st (es.drop (k + 1)) = b) := hin
            have HOn : Hid (Opn w.heap.size st (.slice oa n oc) (k + 1) w1) := HO1.out.more
            clear hin HIN HFst ek hk0
            go_wp2_with fail
            go_roundw
            case rel => exact ⟨k + 1, doc, st, by go_num, hlt, rfl, HOn, HNX, HBl1⟩
            case measure => simp [intOf]; omega
          · have h1' : (kind == 1) = false := by rw [beq_eq_false_iff_ne]; exact h1
            obtain rfl := HFst.out rfl (by rw [h1']; rfl)
            clear HFst HIN ek hk0 h1
            go_wp2_with fail
            go_ret
            exact ⟨rfl, HBl1.out⟩
        · have e0 : ((k : Int) == 0) = false := by rw [beq_eq_false_iff_ne]; omega
          have ek : (k == 0) = false := by rw [beq_eq_false_iff_ne]; exact hk0
          rw [ek] at HFst HIN
          by_cases h1 : kind = 1
          · subst h1
            obtain rfl := HFst.out rfl rfl
            clear HFst HIN ek hk0
            go_wp2_with fail
            go_ret
            exact ⟨rfl, HBl1.out⟩
          · have h1' : (kind == 1) = false := by rw [beq_eq_false_iff_ne]; exact h1
            have hin := HIN.out rfl (by rw [h1']; rfl)
            clear HFst HIN ek hk0
            have hK : kind = 2 ∨ kind = 3 ∨ kind = 4 ∨ (5 ≤ kind ∧ kind ≤ 6) ∨ kind = 7 ∨ kind = 8 ∨ kind = 9 ∨ kind = 10 := by omega
            clear kk1 kk2 h1
            rcases hK with rfl | rfl | rfl | ⟨k5, k6⟩ | rfl | rfl | rfl | rfl
            · rw [if_neg (by decide), if_pos rfl] at hin
              by_cases hd0 : doc = 0
              · subst hd0
                rw [if_pos rfl] at hin
                have HNX : Hid (nst (k + 1 == 0) 1 st (es.drop (k + 1)) = b) := hin
                have HOn : Hid (Opn w.heap.size st (.slice oa n oc) (k + 1) w1) := HO1.out.more
                clear hin
                go_wp2_with fail
                go_roundw
                case rel => exact ⟨k + 1, 1, st, by go_num, hlt, rfl, HOn, HNX, HBl1⟩
                case measure => simp [intOf]; omega
              · rw [if_neg hd0] at hin
                have hd' : (doc != 0) = true := by rw [bne_iff_ne]; exact hd0
                obtain rfl := hin
                clear hd0
                go_wp2_with fail
                go_ret
                exact ⟨rfl, HBl1.out⟩
            · rw [if_neg (by decide), if_neg (by decide), if_pos (by decide)] at hin
              cases st with
              | nil =>
                obtain rfl := HO1.out.nil
                rw [if_pos rfl] at hin
                by_cases hd1 : doc = 1
                · subst hd1
                  rw [if_pos rfl] at hin
                  have HNX : Hid (nst (k + 1 == 0) 2 [-1] (es.drop (k + 1)) = b) := hin
                  clear hin
                  have HNEWs := HNEW1
                  obtain ⟨v', w2, hrun, ⟨u0, u1, u2, rfl⟩, hO2, hB2, hot⟩ := HO1.out.put (HBl1.out).size (by omega) (-1) (by omega) (k + 1) (by omega) (by have h := HO1.out.len; simp only [List.length_nil, List.length_cons] at h ⊢; omega) 55
                  have hn2 : w2.heap[Bk]? = some (.cells #[.int .i64 3, .int .i64 style, .bool flag, .string text, .string anchor, .string tag, .int .i64 at_, .int .i64 code] 38 (0, 0)) := (hot Bk (Array.getElem?_eq_some_iff.1 HNEWs.out).1 (HO1.out.ne HNEWs.out)).trans HNEWs.out
                  have r0 : w2.cell? ⟨Bk, 0, none⟩ = some (.int .i64 3) := (ev_at hn2).1
                  have HOn : Hid (Opn w.heap.size ((-1) :: []) (.slice u0 u1 u2) (k + 1) w2) := hO2
                  have HBn : Hid (Below w.heap.size w w2) := (HBl1.out).trans hB2
                  clear hO2 hB2 hot hn2
                  go_wp2_with (at_builtin; refine append_run rfl _ _ 55 rfl (.slice oa 0 oc) (.slice (some ⟨w1.heap.size, 0, none⟩) 1 1) rfl rfl (.slice u0 u1 u2) w2 hrun ?_)
                  go_roundw
                  case rel => exact ⟨k + 1, 2, (-1) :: [], by go_num, hlt, rfl, HOn, HNX, HBn⟩
                  case measure => simp [intOf]; omega
                · rw [if_neg hd1] at hin
                  have hd' : (doc != 1) = true := by rw [bne_iff_ne]; exact hd1
                  obtain rfl := hin
                  clear hd1
                  go_wp2_with fail
                  go_ret
                  exact ⟨rfl, HBl1.out⟩
              | cons x r =>
                obtain ⟨g, rfl, hn, hglo, hgl, hnc, hcell, hfz, hx1, hx2, hcut, hset⟩ := HO1.out.top
                rw [if_neg (by simp)] at hin
                have hin' : nst false doc ((-1) :: stI x :: r) (es.drop (k + 1)) = b := hin
                clear hin
                have hm : (n : Int) - 1 = (r.length : Int) := by omega
                have hmn : (r.length : Int) < (n : Int) := by omega
                have hmn' : r.length < n := by omega
                have hm0 : ¬ (r.length : Int) < 0 := by omega
                have hrl : (r.length : Int) ≤ 1048576 := by have h := HO1.out.len; simp only [List.length_cons] at h; omega
                have hgk : g ≠ Bk := fun e => HO1.out.ne HNEW1.out (by rw [e]; rfl)
                have hkg : Bk ≠ g := fun e => hgk e.symm
                clear hcut hn
                by_cases hx0 : 0 ≤ x
                · have HS : Hid (Opn w.heap.size ((x + 1) :: r) (.slice (some ⟨g, 0, none⟩) n oc) (k + 1) (w1.setCell ⟨g, r.length, none⟩ (.int .i64 (x + 1)))) := hset (x + 1) (by omega) (by omega) (k + 1) (by omega) (by omega)
                  have HSB : Hid (Below w.heap.size w (w1.setCell ⟨g, r.length, none⟩ (.int .i64 (x + 1)))) := HBl1.out.setCell hglo _
                  have HNEWs : Hid ((w1.setCell ⟨g, r.length, none⟩ (.int .i64 (x + 1))).heap[Bk]? = some (.cells #[.int .i64 3, .int .i64 style, .bool flag, .string text, .string anchor, .string tag, .int .i64 at_, .int .i64 code] 38 (0, 0))) := by
                    show _ = _
                    rw [Below.heap_setCell _ _ _ _ hkg]
                    exact HNEW1.out
                  have hxb : x < 9223372036854775807 := by omega
                  have HNX : Hid (nst (k + 1 == 0) doc ((-1) :: (x + 1) :: r) (es.drop (k + 1)) = b) := by
                    rw [show stI x = x + 1 from if_pos hx0] at hin'
                    exact hin'
                  clear hset hin' hglo hgl hnc
                  obtain ⟨W2, hW2⟩ : ∃ W2, w1.setCell ⟨g, r.length, none⟩ (.int .i64 (x + 1)) = W2 := ⟨_, rfl⟩
                  rw [hW2] at HS HSB HNEWs
                  have s0 : W2.cell? ⟨Bk, 0, none⟩ = some (.int .i64 3) := (ev_at HNEWs.out).1
                  by_cases hd1 : doc = 1
                  · have hd' : (doc != 1) = false := by rw [bne_eq_false_iff_eq]; exact hd1
                    clear hd1
                    obtain ⟨v', w2, hrun, ⟨u0, u1, u2, rfl⟩, hO2, hB2, hot⟩ := HS.out.put (HSB.out).size (by omega) (-1) (by omega) (k + 1) (by omega) (by have h := HO1.out.len; simp only [List.length_nil, List.length_cons] at h ⊢; omega) 55
                    have hn2 : w2.heap[Bk]? = some (.cells #[.int .i64 3, .int .i64 style, .bool flag, .string text, .string anchor, .string tag, .int .i64 at_, .int .i64 code] 38 (0, 0)) := (hot Bk (Array.getElem?_eq_some_iff.1 HNEWs.out).1 (HS.out.ne HNEWs.out)).trans HNEWs.out
                    have r0 : w2.cell? ⟨Bk, 0, none⟩ = some (.int .i64 3) := (ev_at hn2).1
                    have HOn : Hid (Opn w.heap.size ((-1) :: (x + 1) :: r) (.slice u0 u1 u2) (k + 1) w2) := hO2
                    have HBn : Hid (Below w.heap.size w w2) := (HSB.out).trans hB2
                    clear hO2 hB2 hot hn2
                    go_wp2_with (at_builtin; refine append_run rfl _ _ 55 rfl (.slice (some ⟨g, 0, none⟩) n oc) (.slice (some ⟨W2.heap.size, 0, none⟩) 1 1) rfl rfl (.slice u0 u1 u2) w2 hrun ?_)
                    go_roundw
                    case rel => exact ⟨k + 1, doc, (-1) :: (x + 1) :: r, by go_num, hlt, rfl, HOn, HNX, HBn⟩
                    case measure => simp [intOf]; omega
                  · have hd' : (doc != 1) = true := by rw [bne_iff_ne]; exact hd1
                    clear hd1
                    obtain ⟨v', w2, hrun, ⟨u0, u1, u2, rfl⟩, hO2, hB2, hot⟩ := HS.out.put (HSB.out).size (by omega) (-1) (by omega) (k + 1) (by omega) (by have h := HO1.out.len; simp only [List.length_nil, List.length_cons] at h ⊢; omega) 55
                    have hn2 : w2.heap[Bk]? = some (.cells #[.int .i64 3, .int .i64 style, .bool flag, .string text, .string anchor, .string tag, .int .i64 at_, .int .i64 code] 38 (0, 0)) := (hot Bk (Array.getElem?_eq_some_iff.1 HNEWs.out).1 (HS.out.ne HNEWs.out)).trans HNEWs.out
                    have r0 : w2.cell? ⟨Bk, 0, none⟩ = some (.int .i64 3) := (ev_at hn2).1
                    have HOn : Hid (Opn w.heap.size ((-1) :: (x + 1) :: r) (.slice u0 u1 u2) (k + 1) w2) := hO2
                    have HBn : Hid (Below w.heap.size w w2) := (HSB.out).trans hB2
                    clear hO2 hB2 hot hn2
                    go_wp2_with (at_builtin; refine append_run rfl _ _ 55 rfl (.slice (some ⟨g, 0, none⟩) n oc) (.slice (some ⟨W2.heap.size, 0, none⟩) 1 1) rfl rfl (.slice u0 u1 u2) w2 hrun ?_)
                    go_roundw
                    case rel => exact ⟨k + 1, doc, (-1) :: (x + 1) :: r, by go_num, hlt, rfl, HOn, HNX, HBn⟩
                    case measure => simp [intOf]; omega
                · have hxs : stI x = x := if_neg hx0
                  have HNX : Hid (nst (k + 1 == 0) doc ((-1) :: x :: r) (es.drop (k + 1)) = b) := by
                    rw [hxs] at hin'
                    exact hin'
                  have HNEWs := HNEW1
                  clear hset hin' hglo hgl hnc hxs
                  by_cases hd1 : doc = 1
                  · have hd' : (doc != 1) = false := by rw [bne_eq_false_iff_eq]; exact hd1
                    clear hd1
                    obtain ⟨v', w2, hrun, ⟨u0, u1, u2, rfl⟩, hO2, hB2, hot⟩ := HO1.out.put (HBl1.out).size (by omega) (-1) (by omega) (k + 1) (by omega) (by have h := HO1.out.len; simp only [List.length_nil, List.length_cons] at h ⊢; omega) 55
                    have hn2 : w2.heap[Bk]? = some (.cells #[.int .i64 3, .int .i64 style, .bool flag, .string text, .string anchor, .string tag, .int .i64 at_, .int .i64 code] 38 (0, 0)) := (hot Bk (Array.getElem?_eq_some_iff.1 HNEWs.out).1 (HO1.out.ne HNEWs.out)).trans HNEWs.out
                    have r0 : w2.cell? ⟨Bk, 0, none⟩ = some (.int .i64 3) := (ev_at hn2).1
                    have HOn : Hid (Opn w.heap.size ((-1) :: x :: r) (.slice u0 u1 u2) (k + 1) w2) := hO2
                    have HBn : Hid (Below w.heap.size w w2) := (HBl1.out).trans hB2
                    clear hO2 hB2 hot hn2
                    go_wp2_with (at_builtin; refine append_run rfl _ _ 55 rfl (.slice (some ⟨g, 0, none⟩) n oc) (.slice (some ⟨w1.heap.size, 0, none⟩) 1 1) rfl rfl (.slice u0 u1 u2) w2 hrun ?_)
                    go_roundw
                    case rel => exact ⟨k + 1, doc, (-1) :: x :: r, by go_num, hlt, rfl, HOn, HNX, HBn⟩
                    case measure => simp [intOf]; omega
                  · have hd' : (doc != 1) = true := by rw [bne_iff_ne]; exact hd1
                    clear hd1
                    obtain ⟨v', w2, hrun, ⟨u0, u1, u2, rfl⟩, hO2, hB2, hot⟩ := HO1.out.put (HBl1.out).size (by omega) (-1) (by omega) (k + 1) (by omega) (by have h := HO1.out.len; simp only [List.length_nil, List.length_cons] at h ⊢; omega) 55
                    have hn2 : w2.heap[Bk]? = some (.cells #[.int .i64 3, .int .i64 style, .bool flag, .string text, .string anchor, .string tag, .int .i64 at_, .int .i64 code] 38 (0, 0)) := (hot Bk (Array.getElem?_eq_some_iff.1 HNEWs.out).1 (HO1.out.ne HNEWs.out)).trans HNEWs.out
                    have r0 : w2.cell? ⟨Bk, 0, none⟩ = some (.int .i64 3) := (ev_at hn2).1
                    have HOn : Hid (Opn w.heap.size ((-1) :: x :: r) (.slice u0 u1 u2) (k + 1) w2) := hO2
                    have HBn : Hid (Below w.heap.size w w2) := (HBl1.out).trans hB2
                    clear hO2 hB2 hot hn2
                    go_wp2_with (at_builtin; refine append_run rfl _ _ 55 rfl (.slice (some ⟨g, 0, none⟩) n oc) (.slice (some ⟨w1.heap.size, 0, none⟩) 1 1) rfl rfl (.slice u0 u1 u2) w2 hrun ?_)
                    go_roundw
                    case rel => exact ⟨k + 1, doc, (-1) :: x :: r, by go_num, hlt, rfl, HOn, HNX, HBn⟩
                    case measure => simp [intOf]; omega
            · rw [if_neg (by decide), if_neg (by decide), if_pos (by decide)] at hin
              cases st with
              | nil =>
                obtain rfl := HO1.out.nil
                rw [if_pos rfl] at hin
                by_cases hd1 : doc = 1
                · subst hd1
                  rw [if_pos rfl] at hin
                  have HNX : Hid (nst (k + 1 == 0) 2 [0] (es.drop (k + 1)) = b) := hin
                  clear hin
                  have HNEWs := HNEW1
                  obtain ⟨v', w2, hrun, ⟨u0, u1, u2, rfl⟩, hO2, hB2, hot⟩ := HO1.out.put (HBl1.out).size (by omega) (0) (by omega) (k + 1) (by omega) (by have h := HO1.out.len; simp only [List.length_nil, List.length_cons] at h ⊢; omega) 55
                  have hn2 : w2.heap[Bk]? = some (.cells #[.int .i64 4, .int .i64 style, .bool flag, .string text, .string anchor, .string tag, .int .i64 at_, .int .i64 code] 38 (0, 0)) := (hot Bk (Array.getElem?_eq_some_iff.1 HNEWs.out).1 (HO1.out.ne HNEWs.out)).trans HNEWs.out
                  have r0 : w2.cell? ⟨Bk, 0, none⟩ = some (.int .i64 4) := (ev_at hn2).1
                  have HOn : Hid (Opn w.heap.size ((0) :: []) (.slice u0 u1 u2) (k + 1) w2) := hO2
                  have HBn : Hid (Below w.heap.size w w2) := (HBl1.out).trans hB2
                  clear hO2 hB2 hot hn2
                  go_wp2_with (at_builtin; refine append_run rfl _ _ 55 rfl (.slice oa 0 oc) (.slice (some ⟨w1.heap.size, 0, none⟩) 1 1) rfl rfl (.slice u0 u1 u2) w2 hrun ?_)
                  go_roundw
                  case rel => exact ⟨k + 1, 2, (0) :: [], by go_num, hlt, rfl, HOn, HNX, HBn⟩
                  case measure => simp [intOf]; omega
                · rw [if_neg hd1] at hin
                  have hd' : (doc != 1) = true := by rw [bne_iff_ne]; exact hd1
                  obtain rfl := hin
                  clear hd1
                  go_wp2_with fail
                  go_ret
                  exact ⟨rfl, HBl1.out⟩
              | cons x r =>
                obtain ⟨g, rfl, hn, hglo, hgl, hnc, hcell, hfz, hx1, hx2, hcut, hset⟩ := HO1.out.top
                rw [if_neg (by simp)] at hin
                have hin' : nst false doc ((0) :: stI x :: r) (es.drop (k + 1)) = b := hin
                clear hin
                have hm : (n : Int) - 1 = (r.length : Int) := by omega
                have hmn : (r.length : Int) < (n : Int) := by omega
                have hmn' : r.length < n := by omega
                have hm0 : ¬ (r.length : Int) < 0 := by omega
                have hrl : (r.length : Int) ≤ 1048576 := by have h := HO1.out.len; simp only [List.length_cons] at h; omega
                have hgk : g ≠ Bk := fun e => HO1.out.ne HNEW1.out (by rw [e]; rfl)
                have hkg : Bk ≠ g := fun e => hgk e.symm
                clear hcut hn
                by_cases hx0 : 0 ≤ x
                · have HS : Hid (Opn w.heap.size ((x + 1) :: r) (.slice (some ⟨g, 0, none⟩) n oc) (k + 1) (w1.setCell ⟨g, r.length, none⟩ (.int .i64 (x + 1)))) := hset (x + 1) (by omega) (by omega) (k + 1) (by omega) (by omega)
                  have HSB : Hid (Below w.heap.size w (w1.setCell ⟨g, r.length, none⟩ (.int .i64 (x + 1)))) := HBl1.out.setCell hglo _
                  have HNEWs : Hid ((w1.setCell ⟨g, r.length, none⟩ (.int .i64 (x + 1))).heap[Bk]? = some (.cells #[.int .i64 4, .int .i64 style, .bool flag, .string text, .string anchor, .string tag, .int .i64 at_, .int .i64 code] 38 (0, 0))) := by
                    show _ = _
                    rw [Below.heap_setCell _ _ _ _ hkg]
                    exact HNEW1.out
                  have hxb : x < 9223372036854775807 := by omega
                  have HNX : Hid (nst (k + 1 == 0) doc ((0) :: (x + 1) :: r) (es.drop (k + 1)) = b) := by
                    rw [show stI x = x + 1 from if_pos hx0] at hin'
                    exact hin'
                  clear hset hin' hglo hgl hnc
                  obtain ⟨W2, hW2⟩ : ∃ W2, w1.setCell ⟨g, r.length, none⟩ (.int .i64 (x + 1)) = W2 := ⟨_, rfl⟩
                  rw [hW2] at HS HSB HNEWs
                  have s0 : W2.cell? ⟨Bk, 0, none⟩ = some (.int .i64 4) := (ev_at HNEWs.out).1
                  by_cases hd1 : doc = 1
                  · have hd' : (doc != 1) = false := by rw [bne_eq_false_iff_eq]; exact hd1
                    clear hd1
                    obtain ⟨v', w2, hrun, ⟨u0, u1, u2, rfl⟩, hO2, hB2, hot⟩ := HS.out.put (HSB.out).size (by omega) (0) (by omega) (k + 1) (by omega) (by have h := HO1.out.len; simp only [List.length_nil, List.length_cons] at h ⊢; omega) 55
                    have hn2 : w2.heap[Bk]? = some (.cells #[.int .i64 4, .int .i64 style, .bool flag, .string text, .string anchor, .string tag, .int .i64 at_, .int .i64 code] 38 (0, 0)) := (hot Bk (Array.getElem?_eq_some_iff.1 HNEWs.out).1 (HS.out.ne HNEWs.out)).trans HNEWs.out
                    have r0 : w2.cell? ⟨Bk, 0, none⟩ = some (.int .i64 4) := (ev_at hn2).1
                    have HOn : Hid (Opn w.heap.size ((0) :: (x + 1) :: r) (.slice u0 u1 u2) (k + 1) w2) := hO2
                    have HBn : Hid (Below w.heap.size w w2) := (HSB.out).trans hB2
                    clear hO2 hB2 hot hn2
                    go_wp2_with (at_builtin; refine append_run rfl _ _ 55 rfl (.slice (some ⟨g, 0, none⟩) n oc) (.slice (some ⟨W2.heap.size, 0, none⟩) 1 1) rfl rfl (.slice u0 u1 u2) w2 hrun ?_)
                    go_roundw
                    case rel => exact ⟨k + 1, doc, (0) :: (x + 1) :: r, by go_num, hlt, rfl, HOn, HNX, HBn⟩
                    case measure => simp [intOf]; omega
                  · have hd' : (doc != 1) = true := by rw [bne_iff_ne]; exact hd1
                    clear hd1
                    obtain ⟨v', w2, hrun, ⟨u0, u1, u2, rfl⟩, hO2, hB2, hot⟩ := HS.out.put (HSB.out).size (by omega) (0) (by omega) (k + 1) (by omega) (by have h := HO1.out.len; simp only [List.length_nil, List.length_cons] at h ⊢; omega) 55
                    have hn2 : w2.heap[Bk]? = some (.cells #[.int .i64 4, .int .i64 style, .bool flag, .string text, .string anchor, .string tag, .int .i64 at_, .int .i64 code] 38 (0, 0)) := (hot Bk (Array.getElem?_eq_some_iff.1 HNEWs.out).1 (HS.out.ne HNEWs.out)).trans HNEWs.out
                    have r0 : w2.cell? ⟨Bk, 0, none⟩ = some (.int .i64 4) := (ev_at hn2).1
                    have HOn : Hid (Opn w.heap.size ((0) :: (x + 1) :: r) (.slice u0 u1 u2) (k + 1) w2) := hO2
                    have HBn : Hid (Below w.heap.size w w2) := (HSB.out).trans hB2
                    clear hO2 hB2 hot hn2
                    go_wp2_with (at_builtin; refine append_run rfl _ _ 55 rfl (.slice (some ⟨g, 0, none⟩) n oc) (.slice (some ⟨W2.heap.size, 0, none⟩) 1 1) rfl rfl (.slice u0 u1 u2) w2 hrun ?_)
                    go_roundw
                    case rel => exact ⟨k + 1, doc, (0) :: (x + 1) :: r, by go_num, hlt, rfl, HOn, HNX, HBn⟩
                    case measure => simp [intOf]; omega
                · have hxs : stI x = x := if_neg hx0
                  have HNX : Hid (nst (k + 1 == 0) doc ((0) :: x :: r) (es.drop (k + 1)) = b) := by
                    rw [hxs] at hin'
                    exact hin'
                  have HNEWs := HNEW1
                  clear hset hin' hglo hgl hnc hxs
                  by_cases hd1 : doc = 1
                  · have hd' : (doc != 1) = false := by rw [bne_eq_false_iff_eq]; exact hd1
                    clear hd1
                    obtain ⟨v', w2, hrun, ⟨u0, u1, u2, rfl⟩, hO2, hB2, hot⟩ := HO1.out.put (HBl1.out).size (by omega) (0) (by omega) (k + 1) (by omega) (by have h := HO1.out.len; simp only [List.length_nil, List.length_cons] at h ⊢; omega) 55
                    have hn2 : w2.heap[Bk]? = some (.cells #[.int .i64 4, .int .i64 style, .bool flag, .string text, .string anchor, .string tag, .int .i64 at_, .int .i64 code] 38 (0, 0)) := (hot Bk (Array.getElem?_eq_some_iff.1 HNEWs.out).1 (HO1.out.ne HNEWs.out)).trans HNEWs.out
                    have r0 : w2.cell? ⟨Bk, 0, none⟩ = some (.int .i64 4) := (ev_at hn2).1
                    have HOn : Hid (Opn w.heap.size ((0) :: x :: r) (.slice u0 u1 u2) (k + 1) w2) := hO2
                    have HBn : Hid (Below w.heap.size w w2) := (HBl1.out).trans hB2
                    clear hO2 hB2 hot hn2
                    go_wp2_with (at_builtin; refine append_run rfl _ _ 55 rfl (.slice (some ⟨g, 0, none⟩) n oc) (.slice (some ⟨w1.heap.size, 0, none⟩) 1 1) rfl rfl (.slice u0 u1 u2) w2 hrun ?_)
                    go_roundw
                    case rel => exact ⟨k + 1, doc, (0) :: x :: r, by go_num, hlt, rfl, HOn, HNX, HBn⟩
                    case measure => simp [intOf]; omega
                  · have hd' : (doc != 1) = true := by rw [bne_iff_ne]; exact hd1
                    clear hd1
                    obtain ⟨v', w2, hrun, ⟨u0, u1, u2, rfl⟩, hO2, hB2, hot⟩ := HO1.out.put (HBl1.out).size (by omega) (0) (by omega) (k + 1) (by omega) (by have h := HO1.out.len; simp only [List.length_nil, List.length_cons] at h ⊢; omega) 55
                    have hn2 : w2.heap[Bk]? = some (.cells #[.int .i64 4, .int .i64 style, .bool flag, .string text, .string anchor, .string tag, .int .i64 at_, .int .i64 code] 38 (0, 0)) := (hot Bk (Array.getElem?_eq_some_iff.1 HNEWs.out).1 (HO1.out.ne HNEWs.out)).trans HNEWs.out
                    have r0 : w2.cell? ⟨Bk, 0, none⟩ = some (.int .i64 4) := (ev_at hn2).1
                    have HOn : Hid (Opn w.heap.size ((0) :: x :: r) (.slice u0 u1 u2) (k + 1) w2) := hO2
                    have HBn : Hid (Below w.heap.size w w2) := (HBl1.out).trans hB2
                    clear hO2 hB2 hot hn2
                    go_wp2_with (at_builtin; refine append_run rfl _ _ 55 rfl (.slice (some ⟨g, 0, none⟩) n oc) (.slice (some ⟨w1.heap.size, 0, none⟩) 1 1) rfl rfl (.slice u0 u1 u2) w2 hrun ?_)
                    go_roundw
                    case rel => exact ⟨k + 1, doc, (0) :: x :: r, by go_num, hlt, rfl, HOn, HNX, HBn⟩
                    case measure => simp [intOf]; omega
            · rw [if_neg (by omega), if_neg (by omega), if_pos (by omega)] at hin
              have n2 : (kind == 2) = false := by rw [beq_eq_false_iff_ne]; omega
              have n3 : (kind == 3) = false := by rw [beq_eq_false_iff_ne]; omega
              have n4 : (kind == 4) = false := by rw [beq_eq_false_iff_ne]; omega
              have n10 : (kind == 10) = false := by rw [beq_eq_false_iff_ne]; omega
              have g3 : 3 ≤ kind := by omega
              have hpk : ∀ l, pushK kind l = l := fun l => by unfold pushK; rw [if_neg (by omega), if_neg (by omega)]
              rw [hpk, hpk] at hin
              clear hpk k5
              cases st with
              | nil =>
                obtain rfl := HO1.out.nil
                rw [if_pos rfl] at hin
                by_cases hd1 : doc = 1
                · subst hd1
                  rw [if_pos rfl] at hin
                  have HNX : Hid (nst (k + 1 == 0) 2 [] (es.drop (k + 1)) = b) := hin
                  clear hin
                  have HOn : Hid (Opn w.heap.size [] (.slice oa 0 oc) (k + 1) w1) := HO1.out.more
                  go_wp2_with fail
                  go_roundw
                  case rel => exact ⟨k + 1, 2, [], by go_num, hlt, rfl, HOn, HNX, HBl1⟩
                  case measure => simp [intOf]; omega
                · rw [if_neg hd1] at hin
                  have hd' : (doc != 1) = true := by rw [bne_iff_ne]; exact hd1
                  obtain rfl := hin
                  clear hd1
                  go_wp2_with fail
                  go_ret
                  exact ⟨rfl, HBl1.out⟩
              | cons x r =>
                obtain ⟨g, rfl, hn, hglo, hgl, hnc, hcell, hfz, hx1, hx2, hcut, hset⟩ := HO1.out.top
                rw [if_neg (by simp)] at hin
                have hin' : nst false doc (stI x :: r) (es.drop (k + 1)) = b := hin
                clear hin
                have hm : (n : Int) - 1 = (r.length : Int) := by omega
                have hmn : (r.length : Int) < (n : Int) := by omega
                have hmn' : r.length < n := by omega
                have hm0 : ¬ (r.length : Int) < 0 := by omega
                have hrl : (r.length : Int) ≤ 1048576 := by have h := HO1.out.len; simp only [List.length_cons] at h; omega
                have hgk : g ≠ Bk := fun e => HO1.out.ne HNEW1.out (by rw [e]; rfl)
                have hkg : Bk ≠ g := fun e => hgk e.symm
                have HCUT := hcut
                clear hcut HCUT hn
                by_cases hx0 : 0 ≤ x
                · have HS : Hid (Opn w.heap.size ((x + 1) :: r) (.slice (some ⟨g, 0, none⟩) n oc) (k + 1) (w1.setCell ⟨g, r.length, none⟩ (.int .i64 (x + 1)))) := hset (x + 1) (by omega) (by omega) (k + 1) (by omega) (by omega)
                  have HSB : Hid (Below w.heap.size w (w1.setCell ⟨g, r.length, none⟩ (.int .i64 (x + 1)))) := HBl1.out.setCell hglo _
                  have HNEWs : Hid ((w1.setCell ⟨g, r.length, none⟩ (.int .i64 (x + 1))).heap[Bk]? = some (.cells #[.int .i64 kind, .int .i64 style, .bool flag, .string text, .string anchor, .string tag, .int .i64 at_, .int .i64 code] 38 (0, 0))) := by
                    show _ = _
                    rw [Below.heap_setCell _ _ _ _ hkg]
                    exact HNEW1.out
                  have hxb : x < 9223372036854775807 := by omega
                  have HNX : Hid (nst (k + 1 == 0) doc ((x + 1) :: r) (es.drop (k + 1)) = b) := by
                    rw [show stI x = x + 1 from if_pos hx0] at hin'
                    exact hin'
                  clear hset hin' hglo hgl hnc
                  obtain ⟨W2, hW2⟩ : ∃ W2, w1.setCell ⟨g, r.length, none⟩ (.int .i64 (x + 1)) = W2 := ⟨_, rfl⟩
                  rw [hW2] at HS HSB HNEWs
                  have s0 : W2.cell? ⟨Bk, 0, none⟩ = some (.int .i64 kind) := (ev_at HNEWs.out).1
                  by_cases hd1 : doc = 1
                  · have hd' : (doc != 1) = false := by rw [bne_eq_false_iff_eq]; exact hd1
                    clear hd1
                    go_wp2_with fail
                    go_roundw
                    case rel => exact ⟨k + 1, doc, (x + 1) :: r, by go_num, hlt, rfl, HS, HNX, HSB⟩
                    case measure => simp [intOf]; omega
                  · have hd' : (doc != 1) = true := by rw [bne_iff_ne]; exact hd1
                    clear hd1
                    go_wp2_with fail
                    go_roundw
                    case rel => exact ⟨k + 1, doc, (x + 1) :: r, by go_num, hlt, rfl, HS, HNX, HSB⟩
                    case measure => simp [intOf]; omega
                · have hxs : stI x = x := if_neg hx0
                  have HNX : Hid (nst (k + 1 == 0) doc (x :: r) (es.drop (k + 1)) = b) := by
                    rw [hxs] at hin'
                    exact hin'
                  have HNEWs := HNEW1
                  clear hset hin' hglo hgl hnc hxs
                  by_cases hd1 : doc = 1
                  · have hd' : (doc != 1) = false := by rw [bne_eq_false_iff_eq]; exact hd1
                    clear hd1
                    have HOn : Hid (Opn w.heap.size (x :: r) (.slice (some ⟨g, 0, none⟩) n oc) (k + 1) w1) := HO1.out.more
                    go_wp2_with fail
                    go_roundw
                    case rel => exact ⟨k + 1, doc, x :: r, by go_num, hlt, rfl, HOn, HNX, HBl1⟩
                    case measure => simp [intOf]; omega
                  · have hd' : (doc != 1) = true := by rw [bne_iff_ne]; exact hd1
                    clear hd1
                    have HOn : Hid (Opn w.heap.size (x :: r) (.slice (some ⟨g, 0, none⟩) n oc) (k + 1) w1) := HO1.out.more
                    go_wp2_with fail
                    go_roundw
                    case rel => exact ⟨k + 1, doc, x :: r, by go_num, hlt, rfl, HOn, HNX, HBl1⟩
                    case measure => simp [intOf]; omega
            · rw [if_neg (by decide), if_neg (by decide), if_neg (by decide), if_pos rfl] at hin
              cases st with
              | nil =>
                obtain rfl := HO1.out.nil
                rw [if_pos rfl] at hin
                obtain rfl := hin
                go_wp2_with fail
                go_ret
                exact ⟨rfl, HBl1.out⟩
              | cons x r =>
                obtain ⟨g, rfl, hn, hglo, hgl, hnc, hcell, hfz, hx1, hx2, hcut, hset⟩ := HO1.out.top
                have hm : (n : Int) - 1 = (r.length : Int) := by omega
                have hmn : (r.length : Int) < (n : Int) := by omega
                have hmn' : r.length < n := by omega
                have hm0 : ¬ (r.length : Int) < 0 := by omega
                have hrl : (r.length : Int) ≤ 1048576 := by have h := HO1.out.len; simp only [List.length_cons] at h; omega
                have hrc : r.length ≤ oc := by omega
                have hrc' : (r.length : Int) ≤ (oc : Int) := by omega
                have HOn : Hid (Opn w.heap.size r (.slice (some ⟨g, 0, none⟩) r.length oc) (k + 1) w1) := hcut
                clear hcut hset hn hglo hgl hnc
                rw [if_neg (by simp)] at hin
                have hin' : (if 0 < x ∧ x % 2 = 1 then false else nst false doc r (es.drop (k + 1))) = b := hin
                clear hin
                by_cases hx0 : 0 < x
                · have ht : x.tmod 2 = x % 2 := Int.tmod_eq_emod_of_nonneg (by omega)
                  by_cases hodd : x % 2 = 1
                  · rw [if_pos ⟨hx0, hodd⟩] at hin'
                    obtain rfl := hin'
                    have o1 : (x % 2 == 1) = true := by rw [beq_iff_eq]; exact hodd
                    have o2 : (x.tmod 2 == 1) = true := by rw [ht]; exact o1
                    clear ht hodd
                    go_wp2_with fail
                    go_ret
                    exact ⟨rfl, HBl1.out⟩
                  · rw [if_neg (fun h => hodd h.2)] at hin'
                    have HNX : Hid (nst (k + 1 == 0) doc r (es.drop (k + 1)) = b) := hin'
                    have o1 : (x % 2 == 1) = false := by rw [beq_eq_false_iff_ne]; exact hodd
                    have o2 : (x.tmod 2 == 1) = false := by rw [ht]; exact o1
                    clear ht hodd hin'
                    go_wp2_with fail
                    go_roundw
                    case rel => exact ⟨k + 1, doc, r, by go_num, hlt, rfl, HOn, HNX, HBl1⟩
                    case measure => simp [intOf]; omega
                · rw [if_neg (fun h => hx0 h.1)] at hin'
                  have HNX : Hid (nst (k + 1 == 0) doc r (es.drop (k + 1)) = b) := hin'
                  clear hin'
                  go_wp2_with fail
                  go_roundw
                  case rel => exact ⟨k + 1, doc, r, by go_num, hlt, rfl, HOn, HNX, HBl1⟩
                  case measure => simp [intOf]; omega
            · rw [if_neg (by decide), if_neg (by decide), if_neg (by decide), if_neg (by decide), if_pos rfl] at hin
              by_cases hd2 : doc = 2
              · subst hd2
                cases st with
                | nil =>
                  obtain rfl := HO1.out.nil
                  rw [if_pos ⟨rfl, rfl⟩] at hin
                  have HNX : Hid (nst (k + 1 == 0) 0 [] (es.drop (k + 1)) = b) := hin
                  have HOn : Hid (Opn w.heap.size [] (.slice oa 0 oc) (k + 1) w1) := HO1.out.more
                  clear hin
                  go_wp2_with fail
                  go_roundw
                  case rel => exact ⟨k + 1, 0, [], by go_num, hlt, rfl, HOn, HNX, HBl1⟩
                  case measure => simp [intOf]; omega
                | cons x r =>
                  obtain ⟨g, rfl, hn, hglo, hgl, hnc, hcell, hfz, hx1, hx2, hcut, hset⟩ := HO1.out.top
                  have hm : (n : Int) - 1 = (r.length : Int) := by omega
                  have hmn : (r.length : Int) < (n : Int) := by omega
                  have hmn' : r.length < n := by omega
                  have hm0 : ¬ (r.length : Int) < 0 := by omega
                  have hrl : (r.length : Int) ≤ 1048576 := by have h := HO1.out.len; simp only [List.length_cons] at h; omega
                  have hrc : r.length ≤ oc := by omega
                  have hrc' : (r.length : Int) ≤ (oc : Int) := by omega
                  have HOn : Hid (Opn w.heap.size r (.slice (some ⟨g, 0, none⟩) r.length oc) (k + 1) w1) := hcut
                  clear hcut hset hn hglo hgl hnc
                  rw [if_neg (fun h => by have := h.2; cases this)] at hin
                  obtain rfl := hin
                  have hge : 0 ≤ (r.length : Int) := by omega
                  go_wp2_with fail
                  go_ret
                  exact ⟨rfl, HBl1.out⟩
              · rw [if_neg (fun h => hd2 h.1)] at hin
                obtain rfl := hin
                have hd' : (doc != 2) = true := by rw [bne_iff_ne]; exact hd2
                clear hd2
                go_wp2_with fail
                go_ret
                exact ⟨rfl, HBl1.out⟩
            · rw [if_neg (by decide), if_neg (by decide), if_neg (by decide), if_neg (by decide), if_neg (by decide), if_pos rfl, HLast.out] at hin
              by_cases hlast : k + 1 = es.length
              · have hle : ((k : Int) == (es.length : Int) - 1) = true := by rw [HLI.out]; exact decide_eq_true hlast
                have HV9 : Hid ((doc == 0) = b) := by
                  show (doc == 0) = b
                  rw [← hin, decide_eq_true hlast, Bool.true_and, Bool.eq_iff_iff, beq_iff_eq, decide_eq_true_eq]
                clear hin hlast
                go_wp2_with fail
                go_ret
                exact ⟨ret_bool HV9.out, HBl1.out⟩
              · have hle : ((k : Int) == (es.length : Int) - 1) = false := by rw [HLI.out]; exact decide_eq_false hlast
                obtain rfl : false = b := by rw [← hin, decide_eq_false hlast]; rfl
                clear hin hlast
                go_wp2_with fail
                go_ret
                exact ⟨rfl, HBl1.out⟩
            · rw [if_pos rfl, HLast.out] at hin
              have HV9 : Hid (((k : Int) == (es.length : Int) - 1) = b) := by rw [← hin]; exact HLI.out
              clear hin
              go_wp2_with fail
              go_ret
              exact ⟨ret_bool HV9.out, HBl1.out⟩
    · have HF : Hid (false = b) := by
        have h := HN.out
        rw [List.drop_eq_nil_of_le (by omega)] at h
        exact h
      have hlt' : ¬ (k : Int) < (es.length : Int) := by omega
      clear HN HO
      go_wp2_with fail
      go_ret
      exact ⟨by rw [← HF.out]; rfl, HBl.out⟩
end Go.Proofs.Ytmbbmibkjnlkkaa

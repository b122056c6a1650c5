/- Several texts in one: Hsn Pso Hso Sup Sks Tin. -/
import Derived.Test.YtmbbmibkjnlkkaaZpe
import Derived.Test.YtmbbmibkjnlkkaaZpc
import Derived.Test.YtmbbmibkjnlkkaaZpb
import Derived.Deep.DeepCutAuto
import Derived.Deep.AppendLies
import Derived.BigQuiet
/- The specification's l17Match at a step that is no deep one. -/
namespace Go.Proofs.Ytmbbmibkjnlkkaa
open Go.ChangeShapes Go.WideShapes Go.ChangeAt Go.RowKit
theorem SgL.rest {w : World} {b off c : Nat} {s : Sg} {t : List Sg} (h : SgL w (.slice (some ⟨b, off, none⟩) (s :: t).length c) (s :: t)) : SgL w (.slice (if c = 1 then some ⟨b, off, none⟩ else some ⟨b, off + 3, none⟩) t.length (c - 1)) t := by
  split
  case isTrue hc =>
    subst hc
    exact h.tail0 rfl
  case isFalse => exact h.tail1
theorem equalIn_sg (a0 a1 : Int) (a2 : ByteArray) (b0 b1 : Int) (b2 : ByteArray) (w : World) :
    (Op.equalIn 10000 54 (.agg #[.int .i64 a0, .int .i64 a1, .string a2]) (.agg #[.int .i64 b0, .int .i64 b1, .string b2])).run Try.prog w
      = .ok (a0 == b0 && (a1 == b1 && a2.toList == b2.toList)) w := by
  have hS : Try.prog.underlying 54 = some (.struct (Try.prog.fieldsOf 54)) := by kernel_rfl
  have hp : Try.prog.stoodInHeld 54 = false := by kernel_rfl
  rw [show (10000 : Nat) = 9999 + 1 from rfl, run_equalIn_agg w 9999 54 _ _ hS hp]
  simp only [Program.fieldsOf, Try.underlying54]
  go_simp
  by_cases h0 : a0 = b0
  case neg => simp [h0]
  by_cases h1 : a1 = b1
  case neg => simp [h0, h1]
  by_cases h2 : a2.toList = b2.toList
  case neg => simp [h0, h1, h2]
  simp [h0, h1, h2]
end Go.Proofs.Ytmbbmibkjnlkkaa
/- A deep step behind a deep step, plain: left out, nothing more is told. -/
namespace Go.Proofs.Ytmbbmibkjnlkkaa
theorem match_cong {A B : List Sg} (h : ∀ l, matchP A l = matchP B l) (x : Sg) : ∀ l, matchP (x :: A) l = matchP (x :: B) l
  | [] => by
    by_cases h5 : x.kind = 5
    · rw [match_deep0 h5, match_deep0 h5, h]
    · rw [match_step0 h5, match_step0 h5]
  | y :: t => by
    by_cases h5 : x.kind = 5
    · rw [match_deep1 h5, match_deep1 h5, h, match_cong h x t]
    · rw [match_step1 h5, match_step1 h5, h]
theorem match_deeps {x s : Sg} (hx : x.kind = 5) (hs : s.kind = 5) (A : List Sg) : ∀ l, matchP (x :: A) l = matchP (s :: A) l
  | [] => by rw [match_deep0 hx, match_deep0 hs]
  | y :: t => by rw [match_deep1 hx, match_deep1 hs, match_deeps hx hs A t]
theorem once_some (x s : Sg) (t : List Sg) : onceG (some x) (s :: t) = (if decide (x.kind = 5) && decide (s.kind = 5) then [] else [s]) ++ onceG (some s) t := rfl
theorem once_behind : ∀ (t : List Sg) (x : Sg) (l : List Sg), matchP (x :: onceG (some x) t) l = matchP (x :: t) l
  | [], _, _ => rfl
  | s :: t, x, l => by
    rw [once_some]
    by_cases h : x.kind = 5 ∧ s.kind = 5
    · rw [if_pos (by simp [h.1, h.2]), List.nil_append, match_deeps h.1 h.2, once_behind t s, ← deep_twice h.1 h.2 t]
    · rw [if_neg (by simpa using h)]
      exact match_cong (fun l => once_behind t s l) x l
theorem once_match (p l : List Sg) : matchP (onceP p) l = matchP p l := by
  cases p with
  | nil => rfl
  | cons s t => exact once_behind t s l
/-- What is kept of the first k. -/
def dropAt (p : List Sg) (k : Nat) : Bool := decide (k ≠ 0) && (match p[k]?, p[k - 1]? with | some s, some x => decide (x.kind = 5) && decide (s.kind = 5) | _, _ => false)
def onceK (p : List Sg) : Nat → List Sg
  | 0 => []
  | k + 1 => onceK p k ++ if dropAt p k then [] else p[k]?.toList
theorem onceK_len (p : List Sg) : ∀ k, (onceK p k).length ≤ k
  | 0 => Nat.le_refl _
  | k + 1 => by
    have := onceK_len p k
    rw [onceK, List.length_append]
    have h2 : (if dropAt p k then ([] : List Sg) else p[k]?.toList).length ≤ 1 := by
      split
      · exact Nat.zero_le _
      · cases p[k]? <;> simp
    omega
theorem onceK_all (rest : List Sg) : ∀ (pre : List Sg), onceK (pre ++ rest) (pre ++ rest).length = onceK (pre ++ rest) pre.length ++ onceG pre.getLast? rest := by
  induction rest with
  | nil => intro pre; simp [onceG]
  | cons s t ih =>
    intro pre
    have e := ih (pre ++ [s])
    rw [List.append_assoc] at e
    simp only [List.singleton_append] at e
    rw [e, List.length_append, List.length_singleton, onceK]
    have h1 : (pre ++ s :: t)[pre.length]? = some s := by simp
    rw [List.append_assoc]
    congr 1
    rw [show (pre ++ [s]).getLast? = some s by simp]
    show _ = (if (match pre.getLast? with | none => false | some x => decide (x.kind = 5)) && decide (s.kind = 5) then [] else [s]) ++ onceG (some s) t
    congr 1
    rw [h1]
    cases hp : pre.getLast? with
    | none =>
      rw [List.getLast?_eq_none_iff] at hp
      subst hp
      rfl
    | some x =>
      have hl : 0 < pre.length := by
        cases pre with
        | nil => simp at hp
        | cons _ _ => simp
      have h2 : (pre ++ s :: t)[pre.length - 1]? = some x := by
        rw [List.getElem?_append_left (by omega), ← hp, List.getLast?_eq_getElem?]
      unfold dropAt
      rw [h1, h2]
      simp [Nat.pos_iff_ne_zero.1 hl]
theorem onceK_eq (p : List Sg) : onceK p p.length = onceP p := by
  have := onceK_all p []
  show onceK p p.length = onceG none p
  simpa [onceK] using this
end Go.Proofs.Ytmbbmibkjnlkkaa
/- The specification's l17Once and Match. -/
namespace Go.Proofs.Ytmbbmibkjnlkkaa
open Go.ChangeShapes Go.WideShapes Go.ChangeAt Go.RowKit
theorem wrap64_lo (n : Int) (h0 : 0 ≤ n) (h1 : n ≤ 1048578) : wrap64 n = n := Go.IntWalk.wrap64_in n ⟨by omega, by omega⟩
theorem slP_row {w : World} {lo : Nat} {v : Value} {hs : List Sg} (h : w.ownsRow lo 54 3 v hs.length (cellsP hs)) : SgL w v hs := by
  by_cases hz : hs = []
  · subst hz
    left
    rcases h.2 with ⟨e, _⟩ | ⟨g, cap, cur, e, _⟩
    · exact ⟨rfl, _, _, e⟩
    · exact ⟨rfl, _, _, e⟩
  · right
    have hpos : 0 < hs.length := List.length_pos_iff.2 hz
    rcases h.2 with ⟨_, e⟩ | ⟨g, cap, cur, rfl, hb, hg, hn, hm, hsz, ht⟩
    · omega
    · refine ⟨hz, g, 0, cap, rfl, (Array.getElem?_eq_some_iff.1 hg).1, hn, fun i p hi j u hu => ?_⟩
      have hx := cellsP_at hi j u hu
      have a1 : (⟨g, 0, none⟩ : Addr).add (i * 3 + j) = ⟨g, 0 + i * 3 + j, none⟩ := by unfold Addr.add; split <;> simp_all <;> omega
      have h1 := h.cells (g := g) rfl (i * 3 + j) _ hx
      rw [a1] at h1
      exact h1
end Go.Proofs.Ytmbbmibkjnlkkaa
/- The specification's nodes within events: the collection around. -/
namespace Go.Proofs.Ytmbbmibkjnlkkaa
open Go.ChangeShapes Go.WideShapes Go.ChangeAt Go.RowKit
set_option maxRecDepth 100000 in
set_option maxHeartbeats 8000000 in
theorem up_any (w : World) (v : Value) (es : List Ev) (hV : SlE w v es) (hl : es.length ≤ 1048576) (i : Nat) (hi : i < es.length) (r : Int) (hr : upG es i 0 = r) :
    Calls Try.prog 35 #[v, .int .i64 (i : Int)] w fun e w' => e = .returned (.int .i64 r) ∧ Below w.heap.size w w' := by
  obtain ⟨a, c, rfl⟩ := hV.sl
  have HV : Hid (SlE w (.slice a es.length c) es) := hV
  obtain ⟨e0, he0⟩ : ∃ e0, es[i]? = some e0 := ⟨_, List.getElem?_eq_getElem hi⟩
  obtain ⟨b, off, rfl, hbl, _⟩ := hV.at (Below.refl _ w) he0
  have HO : Hid (upG es i 0 = r) := hr
  have hi' : (i : Int) < (es.length : Int) := by omega
  have hl' : (es.length : Int) ≤ 1048576 := by omega
  have HI : Hid (i < es.length) := hi
  clear hV hbl he0 hr hi
  go_enter Try.func35, Try.ntmps35
  go_wp2_with fail
  go_loopw [5, 6] (fun ov kv wr => ∃ (k : Nat) (o : Int), ov = .int .i64 o ∧ kv = .int .i64 ((k : Int) - 1) ∧ k ≤ i ∧ -((i - k : Nat) : Int) ≤ o ∧ o ≤ ((i - k : Nat) : Int) ∧ Hid (upG es k o = r) ∧ Hid (Below w.heap.size w wr)) (fun _ kv _ => (intOf kv + 1).toNat)
  case atStart => exact ⟨i, 0, rfl, rfl, Nat.le_refl _, by omega, by omega, HO, Below.refl _ _⟩
  case round =>
    obtain ⟨k1, o, rfl, rfl, hk, ho1, ho2, HG, HB⟩ := hrel
    clear HO
    cases k1 with
    | zero =>
      have HE : Hid ((-1 : Int) = r) := HG.out
      have hlt' : ¬ ((0 : Nat) : Int) - 1 ≥ 0 := by omega
      go_wp2_with fail
      go_ret
      exact ⟨ret_i HE.out, HB.out⟩
    | succ k =>
      have hkk : ((k + 1 : Nat) : Int) - 1 = (k : Int) := by omega
      rw [hkk]
      have hk0 : (k : Int) ≥ 0 := by omega
      have hlt : k < es.length := by have := HI.out; omega
      have hlt' : (k : Int) < (es.length : Int) := by omega
      have ho3 : -(1048576 : Int) ≤ o := by have := HI.out; omega
      have ho4 : o ≤ (1048576 : Int) := by have := HI.out; omega
      obtain ⟨e, he⟩ : ∃ e, es[k]? = some e := ⟨_, List.getElem?_eq_getElem hlt⟩
      obtain ⟨b2, off2, e2, _, hE⟩ := HV.out.at HB.out he
      injection e2 with e2
      injection e2 with e2 e3 _
      subst e2
      subst e3
      have hg := HG.out
      rw [upG, he] at hg
      have HG2 : Hid ((if e.kind = 7 then upG es k (o + 1) else if colE e = true then (if o = 0 then (k : Int) else upG es k (o - 1)) else upG es k o) = r) := hg
      have HK : Hid (k + 1 ≤ i ∧ -((i - (k + 1) : Nat) : Int) ≤ o ∧ o ≤ ((i - (k + 1) : Nat) : Int)) := ⟨hk, ho1, ho2⟩
      obtain ⟨cb, hcb⟩ : ∃ cb, colE e = cb := ⟨_, rfl⟩
      have cC := fun w' => coll_any e w' cb hcb
      have HCB : Hid (colE e = cb) := hcb
      obtain ⟨d0, d1, d2, d3, d4, d5, d6, d7⟩ := hE
      clear hg he hcb hkk hk ho1 ho2
      by_cases h7 : e.kind = 7
      · have hk7 : (e.kind == 7) = true := by rw [h7]; rfl
        have hcf : cb = false := by
          rw [← HCB.out]
          unfold colE
          rw [decide_eq_false (by omega), decide_eq_false (by omega)]
          rfl
        subst hcf
        have HE : Hid (upG es k (o + 1) = r) := by show _ = _; rw [← HG2.out, if_pos h7]
        clear h7
        go_wp2_with fail
        refine (cC _).mono ?_
        rintro e9 w2 ⟨rfl, hb2⟩
        have HB2 : Hid (Below w.heap.size w w2) := HB.out.trans (hb2.mono HB.out.size)
        clear hb2 cC d0 d1 d2 d3 d4 d5 d6 d7
        go_wp2_with fail
        go_roundw
        case rel => exact ⟨k, o + 1, rfl, rfl, by have := HK.out.1; omega, by have := HK.out; omega, by have := HK.out; omega, HE, HB2⟩
        case measure => simp [intOf]
      · have hk7 : (e.kind == 7) = false := by rw [beq_eq_false_iff_ne]; exact h7
        have HG3 : Hid ((if colE e = true then (if o = 0 then (k : Int) else upG es k (o - 1)) else upG es k o) = r) := by show _ = _; rw [← HG2.out, if_neg h7]
        clear h7
        go_wp2_with fail
        refine (cC _).mono ?_
        rintro e9 w2 ⟨rfl, hb2⟩
        have HB2 : Hid (Below w.heap.size w w2) := HB.out.trans (hb2.mono HB.out.size)
        clear hb2 cC d0 d1 d2 d3 d4 d5 d6 d7
        cases cb with
        | true =>
          by_cases hz : o = 0
          · have tz : (o == 0) = true := by rw [hz]; rfl
            have HE : Hid ((k : Int) = r) := by show _ = _; rw [← HG3.out, if_pos HCB.out, if_pos hz]
            clear hz
            go_wp2_with fail
            go_ret
            exact ⟨ret_i HE.out, HB2.out⟩
          · have tz : (o == 0) = false := by rw [beq_eq_false_iff_ne]; exact hz
            have HE : Hid (upG es k (o - 1) = r) := by show _ = _; rw [← HG3.out, if_pos HCB.out, if_neg hz]
            clear hz
            go_wp2_with fail
            go_roundw
            case rel => exact ⟨k, o - 1, rfl, rfl, by have := HK.out.1; omega, by have := HK.out; omega, by have := HK.out; omega, HE, HB2⟩
            case measure => simp [intOf]
        | false =>
          have HE : Hid (upG es k o = r) := by show _ = _; rw [← HG3.out, if_neg (by rw [HCB.out]; simp)]
          go_wp2_with fail
          go_roundw
          case rel => exact ⟨k, o, rfl, rfl, by have := HK.out.1; omega, by have := HK.out; omega, by have := HK.out; omega, HE, HB2⟩
          case measure => simp [intOf]
end Go.Proofs.Ytmbbmibkjnlkkaa
/- The specification's nodes within events: the nodes of a collection. -/
namespace Go.Proofs.Ytmbbmibkjnlkkaa
open Go.ChangeShapes Go.WideShapes Go.ChangeAt Go.RowKit
def intsV (l : List Nat) : List Value := l.map fun (n : Nat) => Value.int .i64 (n : Int)
theorem intsV_snoc (l : List Nat) (k : Nat) : intsV (l ++ [k]) = intsV l ++ [.int .i64 (k : Int)] := by unfold intsV; rw [List.map_append]; rfl
theorem infoI8 : (Try.prog.info? 3).map (fun i => (i.zero, i.size, i.bytes)) = some (some (.int .i64 0), 1, 8) := by kernel_rfl
/-- A list of numbers that is the call's own. -/
def OwnI (w : World) (l : List Nat) (e : Ending) (w' : World) : Prop := ∃ a n c, e = .returned (.slice a n c) ∧ w'.ownsRow w.heap.size 3 1 (.slice a n c) l.length (intsV l) ∧ Below w.heap.size w w'
set_option maxRecDepth 100000 in
set_option maxHeartbeats 8000000 in
theorem kids_any (w : World) (v : Value) (es : List Ev) (hV : SlE w v es) (hl : es.length ≤ 1048576) (i : Nat) (hi : i < es.length) (L : List Nat) (hr : kidN es i = L) :
    Calls Try.prog 37 #[v, .int .i64 (i : Int)] w fun e w' => OwnI w L e w' := by
  obtain ⟨a, c, rfl⟩ := hV.sl
  have HV : Hid (SlE w (.slice a es.length c) es) := hV
  obtain ⟨e0, he0⟩ : ∃ e0, es[i]? = some e0 := ⟨_, List.getElem?_eq_getElem hi⟩
  obtain ⟨b, off, rfl, hbl, _⟩ := hV.at (Below.refl _ w) he0
  have HBL : Hid (b < w.heap.size) := hbl
  obtain ⟨n0, hn0⟩ : ∃ n0, colE e0 = n0 := ⟨_, rfl⟩
  have HR : Hid ((if n0 = false then [] else kidG es (es.length + 1) (i + 1) []) = L) := by show _ = _; rw [← hr]; unfold kidN; rw [he0]; show _ = (if colE e0 = false then [] else kidG es (es.length + 1) (i + 1) []); rw [hn0]
  have cN := fun w' => coll_any e0 w' n0 hn0
  have HA0 : Hid (Below w.heap.size w (w.alloc (.cells #[] 3))) := (Below.refl _ w).alloc (Nat.le_refl _) _
  have HO0 : Hid ((w.alloc (.cells #[] 3)).ownsRow w.heap.size 3 1 (.slice (some ⟨w.heap.size, 0, none⟩) 0 0) ([] : List Nat).length (intsV [])) := World.ownsRow_made w #[] 0 (Nat.le_refl _) (Nat.zero_le _) rfl
  obtain ⟨b2, off2, e2, _, hE⟩ := hV.at HA0.out he0
  injection e2 with e2
  injection e2 with e2 e3 _
  subst e2
  subst e3
  obtain ⟨d0, d1, d2, d3, d4, d5, d6, d7⟩ := hE
  have hi' : (i : Int) < (es.length : Int) := by omega
  have hl' : (es.length : Int) ≤ 1048576 := by omega
  have HI : Hid (i < es.length ∧ es.length ≤ 1048576) := ⟨hi, hl⟩
  clear hV hbl he0 hn0 hr hi
  go_enter Try.func37, Try.ntmps37
  go_wp2_with fail
  refine (cN _).mono ?_
  rintro e9 w1 ⟨rfl, hb1⟩
  have HB1 : Hid (Below w.heap.size w w1) := HA0.out.trans (hb1.mono HA0.out.size)
  have HO1 : Hid (w1.ownsRow w.heap.size 3 1 (.slice (some ⟨w.heap.size, 0, none⟩) 0 0) ([] : List Nat).length (intsV [])) := row_same HO0.out (fun k _ hk => hb1.block k hk)
  clear hb1 cN d0 d1 d2 d3 d4 d5 d6 d7 HO0 HA0
  cases n0 with
  | false =>
    have HE : Hid (([] : List Nat) = L) := HR.out
    go_wp2_with fail
    go_ret
    exact ⟨_, _, _, rfl, by rw [← HE.out]; exact HO1.out, HB1.out⟩
  | true =>
    have HG0 : Hid (kidG es (es.length + 1) (i + 1) [] = L) := HR.out
    clear HR
    go_wp2_with fail
    go_loopw [5, 6] (fun ov kv wr => ∃ (k f : Nat) (acc : List Nat) (oa : Option Addr) (on oc : Nat), ov = .slice oa on oc ∧ kv = .int .i64 (k : Int) ∧ k ≤ es.length ∧ acc.length ≤ k ∧ Hid (es.length < f + k) ∧ Hid (kidG es f k acc = L) ∧ Hid (wr.ownsRow w.heap.size 3 1 (.slice oa on oc) acc.length (intsV acc)) ∧ Hid (Below w.heap.size w wr)) (fun _ kv _ => es.length - (intOf kv).toNat)
    case atStart => exact ⟨i + 1, es.length + 1, [], _, _, _, rfl, by go_num, HI.out.1, Nat.zero_le _, by show es.length < es.length + 1 + (i + 1); omega, HG0, HO1, HB1⟩
    case round =>
      obtain ⟨k, f, acc, oa, on, oc, rfl, rfl, hk, hac, HF, HG, HO, HB⟩ := hrel
      clear HG0 HO1 HB1
      by_cases hlt : k < es.length
      case neg =>
        obtain rfl : k = es.length := by omega
        have hlt' : ¬ (es.length : Int) < (es.length : Int) := by omega
        have HE : Hid (acc = L) := by
          show _ = _
          rw [← HG.out]
          cases f with
          | zero => rfl
          | succ f => rw [kidG, List.getElem?_eq_none (Nat.le_refl _)]
        go_wp2_with fail
        go_ret
        exact ⟨_, _, _, rfl, by rw [← HE.out]; exact HO.out, HB.out⟩
      have hlt' : (k : Int) < (es.length : Int) := by omega
      obtain ⟨e, he⟩ : ∃ e, es[k]? = some e := ⟨_, List.getElem?_eq_getElem hlt⟩
      obtain ⟨f', rfl⟩ : ∃ f', f = f' + 1 := ⟨f - 1, by have := HF.out; omega⟩
      obtain ⟨b3, off3, e2, _, hE⟩ := HV.out.at HB.out he
      injection e2 with e2
      injection e2 with e2 e3 _
      subst e2
      subst e3
      obtain ⟨nb, hnb⟩ : ∃ nb, nodE e = nb := ⟨_, rfl⟩
      obtain ⟨y, hy⟩ : ∃ y, endN es k = y := ⟨_, rfl⟩
      have hg := HG.out
      rw [kidG, he] at hg
      have HG2 : Hid ((if nb = false then acc else if y < 0 then acc ++ [k] else kidG es f' (y.toNat + 1) (acc ++ [k])) = L) := by show _ = _; rw [← hnb, ← hy]; exact hg
      have cD := fun w' => node_any e w' nb hnb
      have cE : Hid (∀ w', Below w.heap.size w w' → Calls Try.prog 36 #[.slice (some ⟨b, off, none⟩) es.length c, .int .i64 (k : Int)] w' fun e w'' => e = .returned (.int .i64 y) ∧ Below w'.heap.size w' w'') := fun w' hb => end_any w' _ es (HV.out.stays hb) HI.out.2 k hlt y hy
      have hyd : y = -1 ∨ ((k : Int) ≤ y ∧ y < (es.length : Int)) := by have h := endN_le es k hk; rw [hy] at h; exact h
      obtain ⟨d0, d1, d2, d3, d4, d5, d6, d7⟩ := hE
      clear hg he hnb hy
      go_wp2_with fail
      refine (cD _).mono ?_
      rintro e9 w2 ⟨rfl, hb2⟩
      have HB2 : Hid (Below w.heap.size w w2) := HB.out.trans (hb2.mono HB.out.size)
      have HO2 : Hid (w2.ownsRow w.heap.size 3 1 (.slice oa on oc) acc.length (intsV acc)) := row_same HO.out (fun k _ hk => hb2.block k hk)
      clear hb2 cD d0 d1 d2 d3 d4 d5 d6 d7 HO HB
      cases nb with
      | false =>
        have HE : Hid (acc = L) := HG2.out
        clear hyd
        go_wp2_with fail
        go_ret
        exact ⟨_, _, _, rfl, by rw [← HE.out]; exact HO2.out, HB2.out⟩
      | true =>
        have HG3 : Hid ((if y < 0 then acc ++ [k] else kidG es f' (y.toNat + 1) (acc ++ [k])) = L) := HG2.out
        obtain ⟨v5, w5, hrun5, hsl5, hown5, hbel5, _⟩ := push_own (P := Try.prog) Try.underlying55 infoI8 rfl (by decide) w2 w.heap.size _ _ _ HO2.out #[.int .i64 (k : Int)] rfl (by intro u hu; simp at hu; subst hu; rfl) (by have := HI.out.2; omega) (by omega) HB2.out.size 55
        obtain ⟨a5, n5, c5, rfl⟩ := hsl5
        have HO5 : Hid (w5.ownsRow w.heap.size 3 1 (.slice a5 n5 c5) (acc ++ [k]).length (intsV (acc ++ [k]))) := by
          show World.ownsRow _ _ _ _ _ _ _
          rw [List.length_append, intsV_snoc]
          exact hown5
        have HB5 : Hid (Below w.heap.size w w5) := HB2.out.trans hbel5
        have HYD : Hid (y = -1 ∨ ((k : Int) ≤ y ∧ y < (es.length : Int))) := hyd
        clear hown5 hbel5 HO2 HB2 hyd
        go_wp2_with (at_builtin; refine append_run rfl _ _ 55 rfl _ _ rfl rfl _ w5 hrun5 ?_)
        refine (cE.out w5 HB5.out).mono ?_
        rintro e9 w6 ⟨rfl, hb6⟩
        have HB6 : Hid (Below w.heap.size w w6) := HB5.out.trans (hb6.mono HB5.out.size)
        have HO6 : Hid (w6.ownsRow w.heap.size 3 1 (.slice a5 n5 c5) (acc ++ [k]).length (intsV (acc ++ [k]))) := row_same HO5.out (fun k _ hk => hb6.block k hk)
        clear hb6 hrun5 HO5 HB5
        by_cases hy0 : y < 0
        · have HE : Hid (acc ++ [k] = L) := by show _ = _; rw [← HG3.out, if_pos hy0]
          go_wp2_with fail
          go_ret
          exact ⟨_, _, _, rfl, by rw [← HE.out]; exact HO6.out, HB6.out⟩
        · have hyk : (k : Int) ≤ y := by rcases HYD.out with h | h <;> omega
          have hyl : y < (es.length : Int) := by rcases HYD.out with h | h <;> omega
          obtain ⟨z, hz⟩ : ∃ z : Nat, y = (z : Int) := ⟨y.toNat, by omega⟩
          subst hz
          have HE : Hid (kidG es f' (z + 1) (acc ++ [k]) = L) := by
            show _ = _
            rw [← HG3.out, if_neg hy0]
            rfl
          have HFF : Hid (es.length < f' + (z + 1)) := by show _ < _; have := HF.out; omega
          go_wp2_with fail
          go_roundw
          case rel => exact ⟨z + 1, f', acc ++ [k], _, _, _, rfl, by go_num, by omega, by rw [List.length_append]; show acc.length + 1 ≤ z + 1; omega, HFF, HE, HO6, HB6⟩
          case measure => simp [intOf]; omega
end Go.Proofs.Ytmbbmibkjnlkkaa
/- Lists of numbers: whether two are alike; marks on one, and finding them again. -/
namespace Go.Proofs.Ytmbbmibkjnlkkaa
open Go.ChangeShapes Go.WideShapes Go.ChangeAt Go.RowKit
/-- A list of numbers, as it lies. -/
def SlI (w : World) (v : Value) (l : List Nat) : Prop :=
  (l = [] ∧ ∃ a c, v = .slice a 0 c) ∨ (l ≠ [] ∧ ∃ b c, v = .slice (some ⟨b, 0, none⟩) l.length c ∧ b < w.heap.size ∧ ∀ (i n : Nat), l[i]? = some n → w.cell? ⟨b, i, none⟩ = some (.int .i64 (n : Int)))
theorem SlI.sl {w : World} {v : Value} {l : List Nat} (h : SlI w v l) : ∃ a c, v = .slice a l.length c := by
  rcases h with ⟨rfl, a, c, rfl⟩ | ⟨_, b, c, rfl, _⟩
  · exact ⟨a, c, rfl⟩
  · exact ⟨_, c, rfl⟩
theorem SlI.at {w wr : World} {a : Option Addr} {c : Nat} {l : List Nat} (h : SlI w (.slice a l.length c) l) (hb : Below w.heap.size w wr) {k n : Nat} (hx : l[k]? = some n) : ∃ b, a = some ⟨b, 0, none⟩ ∧ wr.cell? ⟨b, k, none⟩ = some (.int .i64 (n : Int)) := by
  rcases h with ⟨e1, _⟩ | ⟨_, b, _, e1, hbl, hcell⟩
  · rw [e1] at hx; simp at hx
  · injection e1 with e1
    exact ⟨b, e1, by rw [hb.cell hbl]; exact hcell k n hx⟩
theorem slI_own {w : World} {lo : Nat} {v : Value} {l : List Nat} (h : w.ownsRow lo 3 1 v l.length (intsV l)) : SlI w v l := by
  by_cases hz : l = []
  · subst hz
    left
    rcases h.2 with ⟨e, _⟩ | ⟨g, cap, cur, e, _⟩
    · exact ⟨rfl, _, _, e⟩
    · exact ⟨rfl, _, _, e⟩
  · right
    have hpos : 0 < l.length := List.length_pos_iff.2 hz
    rcases h.2 with ⟨_, e⟩ | ⟨g, cap, cur, rfl, _, hg, _⟩
    · omega
    · refine ⟨hz, g, cap, rfl, (Array.getElem?_eq_some_iff.1 hg).1, fun i n hi => ?_⟩
      have hx : (intsV l)[i]? = some (.int .i64 (n : Int)) := by unfold intsV; rw [List.getElem?_map, hi]; rfl
      have h1 := h.cells (g := g) rfl i _ hx
      have a1 : (⟨g, 0, none⟩ : Addr).add i = ⟨g, i, none⟩ := by unfold Addr.add; split <;> simp_all
      rw [a1] at h1
      exact h1
theorem own_setI {w : World} {lo t size g n cap : Nat} {xs : List Value} (h : w.ownsRow lo t size (.slice (some ⟨g, 0, none⟩) n cap) n xs) (j : Nat) (u : Value) (hj : j < xs.length) :
    (w.setCell ⟨g, j, none⟩ u).ownsRow lo t size (.slice (some ⟨g, 0, none⟩) n cap) n (xs.set j u) := by
  refine ⟨by simpa using h.1, ?_⟩
  rcases h.2 with ⟨e, _⟩ | ⟨g', cap', cur, e, hb, hg, hn, hm, hs, ht⟩
  · cases e
  · injection e with e1 e2 e3
    injection e1 with e1
    injection e1 with e1
    subst e1
    subst e3
    refine .inr ⟨g, cap, cur.setIfInBounds j u, rfl, hb, by simp [World.setCell, Array.getElem?_modify, hg], hn, hm, by simpa using hs, ?_⟩
    rw [← ht]
    apply List.ext_getElem?
    intro i
    rw [List.getElem?_set, List.getElem?_take, Array.toList_setIfInBounds, List.getElem?_set]
    have hl : xs.length = n * size := h.1
    have hcl : n * size ≤ cur.size := by rw [hs]; exact Nat.mul_le_mul_right _ hn
    by_cases e : j = i
    · subst e
      rw [if_pos (by omega), if_pos rfl, if_pos rfl]
      simp only [Array.length_toList, List.length_take]
      rw [if_pos (by omega), if_pos (by omega)]
    · rw [if_neg e, if_neg e, List.getElem?_take]
/-- The marks: one number behind the other. -/
def mksI (k n : Nat) : List Nat := List.range' k n
theorem mksI_len (k n : Nat) : (mksI k n).length = n := by unfold mksI; simp
theorem mksI_at {k n i : Nat} (h : i < n) : (mksI k n)[i]? = some (k + i) := by unfold mksI; rw [List.getElem?_range' h]; simp
theorem mksI_step {k : Nat} {l : List Nat} {j : Nat} (h : j < l.length) : (intsV (mksI k j ++ l.drop j)).set j (.int .i64 ((k + j : Nat) : Int)) = intsV (mksI k (j + 1) ++ l.drop (j + 1)) := by
  have e : l.drop j = l[j] :: l.drop (j + 1) := List.drop_eq_getElem_cons h
  have e2 : mksI k (j + 1) = mksI k j ++ [k + j] := by unfold mksI; rw [List.range'_concat]; simp
  rw [e, e2]
  unfold intsV
  rw [List.map_append, List.map_cons, List.set_append_right _ _ (by simp [mksI])]
  simp [mksI]
end Go.Proofs.Ytmbbmibkjnlkkaa

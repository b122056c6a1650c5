/- Several texts in one: Psg Tmg Hpc Snm. -/
import Derived.Test.YtmbbmibkjnlkkaaZpb
import Derived.LoopN
/- Steps, plain: which are right, and what a pattern tells. -/
namespace Go.Proofs.Ytmbbmibkjnlkkaa
open Go.RowKit
def noT (b : ByteArray) : Bool := b.toList.isEmpty
def segOk (s : Sg) : Bool := decide (1 ≤ s.kind) && (decide (s.kind ≤ 5) && (decide (0 ≤ s.n) && (decide (s.n ≤ 4294967295) && ((decide (s.kind = 1) || (decide (s.kind = 3) || decide (s.n = 0))) && (decide (s.kind = 2) || noT s.text)))))
def segSame (a b : Sg) : Bool := a.kind == b.kind && (a.n == b.n && a.text.toList == b.text.toList)
/-- Whether the path is told, with so many turns. -/
def matchF : Nat → List Sg → List Sg → Bool
  | 0, _, _ => false
  | _ + 1, [], l => l.isEmpty
  | f + 1, s :: p, l => match l with
    | [] => if s.kind = 5 then matchF f p [] else false
    | x :: t => if s.kind = 5 then matchF f p (x :: t) || matchF f (s :: p) t else (decide (s.kind = 4) || segSame s x) && matchF f p t
def matchP (p l : List Sg) : Bool := matchF (p.length + l.length + 1) p l
theorem matchF_more : ∀ (f g : Nat) (p l : List Sg), p.length + l.length < f → p.length + l.length < g → matchF f p l = matchF g p l
  | 0, _, _, _, h, _ => by omega
  | _ + 1, 0, _, _, _, h => by omega
  | f + 1, g + 1, [], l, _, _ => rfl
  | f + 1, g + 1, s :: p, [], h1, h2 => by
    have e := matchF_more f g p [] (by simp only [List.length_cons, List.length_nil] at h1 ⊢; omega) (by simp only [List.length_cons, List.length_nil] at h2 ⊢; omega)
    show (if s.kind = 5 then matchF f p [] else false) = if s.kind = 5 then matchF g p [] else false
    rw [e]
  | f + 1, g + 1, s :: p, x :: t, h1, h2 => by
    have e1 := matchF_more f g p (x :: t) (by simp only [List.length_cons] at h1 ⊢; omega) (by simp only [List.length_cons] at h2 ⊢; omega)
    have e2 := matchF_more f g (s :: p) t (by simp only [List.length_cons] at h1 ⊢; omega) (by simp only [List.length_cons] at h2 ⊢; omega)
    have e3 := matchF_more f g p t (by simp only [List.length_cons] at h1; omega) (by simp only [List.length_cons] at h2; omega)
    show (if s.kind = 5 then matchF f p (x :: t) || matchF f (s :: p) t else (decide (s.kind = 4) || segSame s x) && matchF f p t) = if s.kind = 5 then matchF g p (x :: t) || matchF g (s :: p) t else (decide (s.kind = 4) || segSame s x) && matchF g p t
    rw [e1, e2, e3]
theorem match_nil (l : List Sg) : matchP [] l = l.isEmpty := rfl
theorem matchF_cons (f : Nat) (s x : Sg) (p t : List Sg) : matchF (f + 1) (s :: p) (x :: t) = if s.kind = 5 then matchF f p (x :: t) || matchF f (s :: p) t else (decide (s.kind = 4) || segSame s x) && matchF f p t := rfl
theorem matchF_last (f : Nat) (s : Sg) (p : List Sg) : matchF (f + 1) (s :: p) [] = if s.kind = 5 then matchF f p [] else false := rfl
theorem match_deep0 {s : Sg} (h : s.kind = 5) (p : List Sg) : matchP (s :: p) [] = matchP p [] := by
  show matchF (p.length + 1 + 0 + 1) (s :: p) [] = _
  rw [matchF_last, if_pos h]
  rfl
theorem match_deep1 {s x : Sg} (h : s.kind = 5) (p t : List Sg) : matchP (s :: p) (x :: t) = (matchP p (x :: t) || matchP (s :: p) t) := by
  show matchF (p.length + 1 + (t.length + 1) + 1) (s :: p) (x :: t) = (matchF (p.length + (t.length + 1) + 1) p (x :: t) || matchF (p.length + 1 + t.length + 1) (s :: p) t)
  rw [matchF_cons, if_pos h, matchF_more (p.length + 1 + (t.length + 1)) (p.length + (t.length + 1) + 1) p (x :: t) (by simp only [List.length_cons]; omega) (by simp only [List.length_cons]; omega), matchF_more (p.length + 1 + (t.length + 1)) (p.length + 1 + t.length + 1) (s :: p) t (by simp only [List.length_cons]; omega) (by simp only [List.length_cons]; omega)]
theorem match_step0 {s : Sg} (h : s.kind ≠ 5) (p : List Sg) : matchP (s :: p) [] = false := by
  show matchF (p.length + 1 + 0 + 1) (s :: p) [] = _
  rw [matchF_last, if_neg h]
theorem match_step1 {s x : Sg} (h : s.kind ≠ 5) (p t : List Sg) : matchP (s :: p) (x :: t) = ((decide (s.kind = 4) || segSame s x) && matchP p t) := by
  show matchF (p.length + 1 + (t.length + 1) + 1) (s :: p) (x :: t) = ((decide (s.kind = 4) || segSame s x) && matchF (p.length + t.length + 1) p t)
  rw [matchF_cons, if_neg h, matchF_more (p.length + 1 + (t.length + 1)) (p.length + t.length + 1) p t (by omega) (by omega)]
/-- A deep step behind a deep step is left out. -/
def onceG : Option Sg → List Sg → List Sg
  | _, [] => []
  | b, s :: t => (if (match b with | none => false | some x => decide (x.kind = 5)) && decide (s.kind = 5) then [] else [s]) ++ onceG (some s) t
def onceP (l : List Sg) : List Sg := onceG none l
def matchAll (p l : List Sg) : Bool := p.all segOk && (l.all segOk && matchP (onceP p) l)
/-- What is left out tells nothing more. -/
theorem deep_twice {s x : Sg} (hs : s.kind = 5) (hx : x.kind = 5) (p : List Sg) : ∀ l : List Sg, matchP (s :: x :: p) l = matchP (x :: p) l
  | [] => match_deep0 hs _
  | a :: t => by
    rw [match_deep1 hs, deep_twice hs hx p t]
    cases h : matchP (x :: p) (a :: t) with
    | true => rfl
    | false =>
      rw [match_deep1 hx, Bool.or_eq_false_iff] at h
      rw [h.2]
      rfl
end Go.Proofs.Ytmbbmibkjnlkkaa
/- Marking the steps of a list that the call owns, and finding the marks again. -/
namespace Go.Proofs.Ytmbbmibkjnlkkaa
open Go.ChangeShapes Go.WideShapes Go.ChangeAt Go.RowKit
open Go.Lib (grownBy_setB grownBy_below)
def mkG (k j : Nat) : Sg := { kind := ((k + 3 * j : Nat) : Int), n := ((k + 3 * j + 1 : Nat) : Int), text := mT (k + 3 * j + 2) }
def mkGs (k n : Nat) : List Sg := (List.range n).map (mkG k)
theorem mkGs_len (k n : Nat) : (mkGs k n).length = n := by simp [mkGs]
theorem mkGs_succ (k n : Nat) : mkGs k (n + 1) = mkGs k n ++ [mkG k n] := by simp [mkGs, List.range_succ]
theorem cellsP_app (a b : List Sg) : cellsP (a ++ b) = cellsP a ++ cellsP b := by unfold cellsP; rw [List.flatMap_append]
theorem rows_set3 {a c : List Sg} {e : Sg} {n : Nat} (hn : a.length * 3 = n) (f : Sg) :
    (((cellsP (a ++ e :: c)).set n (.int .i64 f.kind)).set (n + 1) (.int .i64 f.n)).set (n + 2) (.string f.text) = cellsP (a ++ f :: c) := by
  have hl : (cellsP a).length = n := by rw [cellsP_len, ← hn]
  have e1 : cellsP (a ++ e :: c) = cellsP a ++ (.int .i64 e.kind :: .int .i64 e.n :: .string e.text :: cellsP c) := by rw [cellsP_app]; rfl
  have e2 : cellsP (a ++ f :: c) = cellsP a ++ (.int .i64 f.kind :: .int .i64 f.n :: .string f.text :: cellsP c) := by rw [cellsP_app]; rfl
  rw [e1, e2]
  have st : ∀ (xs : List Value) (i : Nat) (u : Value), (cellsP a ++ xs).set (n + i) u = cellsP a ++ xs.set i u := fun xs i u => by
    rw [List.set_append_right _ _ (by omega), show n + i - (cellsP a).length = i by omega]
  have st0 : ∀ (xs : List Value) (u : Value), (cellsP a ++ xs).set n u = cellsP a ++ xs.set 0 u := fun xs u => st xs 0 u
  rw [st0, st, st]
  rfl
theorem rowG_cell {w : World} {lo g n cap : Nat} {xs : List Value} (h : w.ownsRow lo 54 3 (.slice (some ⟨g, 0, none⟩) n cap) n xs) (i : Nat) (hi : i < xs.length) : (∃ z, w.cell? ⟨g, i, none⟩ = some z) ∧ w.frozen? ⟨g, i, none⟩ = false := by
  constructor
  · have := h.cells (g := g) rfl i (xs[i]'hi) (by simp)
    have hadd : (⟨g, 0, none⟩ : Addr).add i = ⟨g, i, none⟩ := by unfold Addr.add; split <;> simp_all
    rw [hadd] at this
    exact ⟨_, this⟩
  · rcases h.2 with ⟨e, _⟩ | ⟨g', cap', cur, e, _, hgg, _⟩
    · cases e
    · injection e with e1 _ _
      injection e1 with e1
      injection e1 with e1
      subst e1
      simp [World.frozen?, hgg]
set_option maxHeartbeats 16000000 in
theorem markGs_any (w : World) (lo : Nat) (v : Value) (es : List Sg) (k : Nat) (hO : w.ownsRow lo 54 3 v es.length (cellsP es)) (hz : es.length ≤ 5000000) (k0 : 0 < k) (k1 : k ≤ 10) :
    Calls Try.prog 14 #[v, .int .i64 (k : Int)] w fun e w' => e = .returned (.int .i64 ((k + 3 * es.length : Nat) : Int)) ∧ w'.ownsRow lo 54 3 v es.length (cellsP (mkGs k es.length)) ∧ w.grownBy w' v.ownBlock := by
  by_cases h0 : es = []
  · subst h0
    obtain ⟨a, c, rfl⟩ : ∃ a c, v = .slice a 0 c := by
      rcases hO.2 with ⟨e, _⟩ | ⟨g, cap, cur, e, _⟩
      · exact ⟨_, _, e⟩
      · exact ⟨_, _, e⟩
    have HO : Hid (w.ownsRow lo 54 3 (.slice a 0 c) 0 []) := hO
    clear hO
    go_enter Try.func14, Try.ntmps14
    go_wp2_with fail
    refine wp_loop_rounds 1 ?_
    rw [rounds_succ]
    go_wp2_with fail
    go_ret
    exact ⟨by simp, HO.out, World.grownBy.refl _ _⟩
  · have hpos : 0 < es.length := List.length_pos_iff.2 h0
    obtain ⟨g, cap, rfl, hg, hgl⟩ := World.ownsRow.form hO hpos
    have HO : Hid (w.ownsRow lo 54 3 (.slice (some ⟨g, 0, none⟩) es.length cap) es.length (cellsP es)) := hO
    clear hO h0
    go_enter Try.func14, Try.ntmps14
    go_wp2_with fail
    go_loopw [1, 5] (fun kk i wr => ∃ (j : Nat), j ≤ es.length ∧ i = .int .i64 (j : Int) ∧ kk = .int .i64 ((k + 3 * j : Nat) : Int) ∧ Hid (wr.ownsRow lo 54 3 (.slice (some ⟨g, 0, none⟩) es.length cap) es.length (cellsP (mkGs k j ++ es.drop j))) ∧ Hid (w.grownBy wr (some g))) (fun _ i _ => es.length - (intOf i).toNat)
    case atStart => exact ⟨0, Nat.zero_le _, rfl, by simp, by show World.ownsRow _ _ _ _ _ _ _; simpa [mkGs] using HO.out, World.grownBy.refl _ _⟩
    case round =>
      obtain ⟨j, hj, rfl, rfl, HO0, HG0⟩ := hrel
      by_cases hlt : j < es.length
      · have hlt' : (j : Int) < (es.length : Int) := by omega
        have hlen : (cellsP (mkGs k j ++ es.drop j)).length = 3 * es.length := by rw [cellsP_len, List.length_append, mkGs_len, List.length_drop]; omega
        have hdr : es.drop j = es[j] :: es.drop (j + 1) := List.drop_eq_getElem_cons hlt
        obtain ⟨xs, hxs⟩ : ∃ xs, cellsP (mkGs k j ++ es.drop j) = xs := ⟨_, rfl⟩
        rw [hxs] at hlen HO0
        have hfin := rows_set3 (a := mkGs k j) (c := es.drop (j + 1)) (e := es[j]) (n := j * 3) (by rw [mkGs_len]) (mkG k j)
        rw [← hdr, hxs, show mkGs k j ++ mkG k j :: es.drop (j + 1) = mkGs k (j + 1) ++ es.drop (j + 1) by rw [mkGs_succ]; simp] at hfin
        have HLN : Hid (xs.length = 3 * es.length) := hlen
        have HLT : Hid (j < es.length) := hlt
        clear hlen hdr hxs
        obtain ⟨K, hK⟩ : ∃ K, k + 3 * j = K := ⟨_, rfl⟩
        have HK : Hid (k + 3 * j = K) := hK
        have hK1 : K ≤ 15000010 := by omega
        have hK0 : 0 < K := by omega
        rw [hK]
        have HFIN : Hid ((((xs.set (j * 3) (.int .i64 (K : Int))).set (j * 3 + 1) (.int .i64 ((K : Int) + 1))).set (j * 3 + 2) (.string (mT (K + 2)))) = cellsP (mkGs k (j + 1) ++ es.drop (j + 1))) := by
          show _ = _
          rw [← hfin]
          have e1 : (mkG k j).kind = (K : Int) := by rw [← hK]; rfl
          have e2 : (mkG k j).n = (K : Int) + 1 := by rw [← hK]; rfl
          have e4 : (mkG k j).text = mT (K + 2) := by rw [← hK]; rfl
          rw [e1, e2, e4]
        clear hfin
        have c3 : Hid (∀ (q : Int) (_ : q = ((K + 2 : Nat) : Int)) (w' : World), Calls Try.prog 28 #[.int .i64 q] w' fun e w'' => e = .returned (.string (mT (K + 2))) ∧ Below w'.heap.size w' w'') := fun q hq w' => by rw [hq]; exact markText_any (K + 2) w' (by omega) (by omega)
        obtain ⟨⟨z0, hz0⟩, hf0⟩ := rowG_cell HO0.out (j * 3) (by (try simp only [List.length_set]); have h1 := HLN.out; have h2 := HLT.out; omega)
        obtain ⟨⟨z1, hz1⟩, hf1⟩ := rowG_cell HO0.out (j * 3 + 1) (by (try simp only [List.length_set]); have h1 := HLN.out; have h2 := HLT.out; omega)
        clear hK k0 k1 hj
        go_wp2_with fail
        refine (c3.out _ (by omega) _).mono ?_
        rintro e9 w1 ⟨rfl, hb9⟩
        have HO1 : Hid (w1.ownsRow lo 54 3 (.slice (some ⟨g, 0, none⟩) es.length cap) es.length ((xs.set (j * 3) (.int .i64 (K : Int))).set (j * 3 + 1) (.int .i64 ((K : Int) + 1)))) := row_below (own_setE (own_setE HO0.out (j * 3) (.int .i64 (K : Int)) (by (try simp only [List.length_set]); have h1 := HLN.out; have h2 := HLT.out; omega)) (j * 3 + 1) (.int .i64 ((K : Int) + 1)) (by (try simp only [List.length_set]); have h1 := HLN.out; have h2 := HLT.out; omega)) hb9
        have HG1 : Hid (w.grownBy w1 (some g)) := grownBy_below (grownBy_setB (grownBy_setB HG0.out _ _) _ _) hb9
        clear hb9 HO0 HG0 hz0 hf0 hz1 hf1
        obtain ⟨⟨z2, hz2⟩, hf2⟩ := rowG_cell HO1.out (j * 3 + 2) (by (try simp only [List.length_set]); have h1 := HLN.out; have h2 := HLT.out; omega)
        go_wp2_with fail
        have HO4 := own_setE HO1.out (j * 3 + 2) (.string (mT (K + 2))) (by (try simp only [List.length_set]); have h1 := HLN.out; have h2 := HLT.out; omega)
        rw [HFIN.out] at HO4
        have HG4 := grownBy_setB HG1.out (j * 3 + 2) (.string (mT (K + 2)))
        have HQ4 : Hid (_ ∧ _) := ⟨HO4, HG4⟩
        clear HO4 HG4 HO1 HG1 hz2 hf2
        go_roundw
        case rel => exact ⟨j + 1, hlt, by go_num, by congr 1; have := HK.out; omega, HQ4.out.1, HQ4.out.2⟩
        case measure => simp [intOf]; omega
      · go_wp2_with fail
        go_ret
        have ej : j = es.length := by omega
        have := HO0.out
        rw [ej, List.drop_length, List.append_nil] at this
        exact ⟨by rw [ej]; rfl, this, HG0.out⟩
set_option maxRecDepth 100000 in
set_option maxHeartbeats 16000000 in
theorem heldGs_any (w : World) (v : Value) (n k : Nat) (hV : SgL w v (mkGs k n)) (hz : n ≤ 5000000) (k0 : 0 < k) (k1 : k ≤ 10) :
    Calls Try.prog 15 #[v, .int .i64 (k : Int)] w fun e w' => e = .returned (.int .i64 ((k + 3 * n : Nat) : Int)) ∧ Below w.heap.size w w' := by
  obtain ⟨a, c, rfl⟩ := hV.sl
  have HV : Hid (SgL w (.slice a (mkGs k n).length c) (mkGs k n)) := hV
  have hml := mkGs_len k n
  clear hV
  rw [hml]
  go_enter Try.func15, Try.ntmps15
  go_wp2_with fail
  go_loopw [1, 5] (fun kk i wr => ∃ (j : Nat), j ≤ n ∧ i = .int .i64 (j : Int) ∧ kk = .int .i64 ((k + 3 * j : Nat) : Int) ∧ Hid (Below w.heap.size w wr)) (fun _ i _ => n - (intOf i).toNat)
  case atStart => exact ⟨0, Nat.zero_le _, rfl, by simp, Below.refl _ _⟩
  case round =>
    obtain ⟨j, hj, rfl, rfl, HB0⟩ := hrel
    by_cases hlt : j < n
    · have hlt' : (j : Int) < (n : Int) := by omega
      have hx : (mkGs k n)[j]? = some (mkG k j) := by unfold mkGs; rw [List.getElem?_map, List.getElem?_range hlt]; rfl
      obtain ⟨b, off, rfl, hbl, _⟩ := HV.out.at (Below.refl _ _) hx
      have HEV : Hid (∀ wx, Below w.heap.size w wx → SgAt wx b (off + j * 3) (mkG k j)) := fun wx hb => by
        obtain ⟨_, _, e1, _, h1⟩ := HV.out.at hb hx
        injection e1 with e1
        injection e1 with e1 e2
        subst e1
        subst e2
        exact h1
      obtain ⟨K, hK⟩ : ∃ K, k + 3 * j = K := ⟨_, rfl⟩
      have HK : Hid (k + 3 * j = K) := hK
      have hK1 : K ≤ 15000010 := by omega
      have hK0 : 0 < K := by omega
      have e1 : (mkG k j).kind = (K : Int) := by rw [← hK]; rfl
      have e2 : (mkG k j).n = (K : Int) + 1 := by rw [← hK]; rfl
      have e4 : (mkG k j).text = mT (K + 2) := by rw [← hK]; rfl
      have HC : Hid (∀ wx, Below w.heap.size w wx → wx.cell? ⟨b, off + j * 3, none⟩ = some (.int .i64 (K : Int)) ∧ wx.cell? ⟨b, off + j * 3 + 1, none⟩ = some (.int .i64 ((K : Int) + 1)) ∧ wx.cell? ⟨b, off + j * 3 + 2, none⟩ = some (.string (mT (K + 2)))) := fun wx hb => by
        have h := HEV.out wx hb
        exact ⟨e1 ▸ h.c0, e2 ▸ h.c1, e4 ▸ h.c2⟩
      clear e1 e2 e4 HEV hx hbl
      rw [hK]
      have c3 : Hid (∀ w', Calls Try.prog 28 #[.int .i64 ((K : Int) + 1 + 1)] w' fun e w'' => e = .returned (.string (mT (K + 2))) ∧ Below w'.heap.size w' w'') := fun w' => markText_any (K + 2) w' (by omega) (by omega)
      have t6 : ((K : Int) != (K : Int)) = false := by simp
      obtain ⟨q0, q1, q2⟩ := HC.out wr HB0.out
      clear hK k0 k1 hj hml
      have d3 : ∀ m : Bw wr, m.val.cell? ⟨b, off + j * 3 + 2, none⟩ = some (.string (mT (K + 2))) := fun m => (HC.out m.val (HB0.out.trans (m.ok.mono HB0.out.size))).2.2
      have hM := Bw.calls (w := wr) (fun w' _ => c3.out w')
      have hne := Bw.some wr
      have ts : ((mT (K + 2)).toList != (mT (K + 2)).toList) = false := by simp
      go_wp2_with fail
      refine wp_region_bw (w0 := wr) (by kernel_rfl) (by kernel_rfl) (Below.refl _ _) ?_
      repeat (go_big_quiet_step ((go_at_call 28; exact hM _)))
      refine wpQuiet_nil ?_
      rintro _ ⟨m, rfl⟩
      have HB1 : Hid (Below w.heap.size w m.val) := HB0.out.trans (m.ok.mono HB0.out.size)
      generalize m.val = w1 at *
      clear d3 hM hne HB0 ts q0 q1 q2
      go_wp2_with fail
      go_roundw
      case rel => exact ⟨j + 1, hlt, by go_num, by congr 1; have := HK.out; omega, HB1⟩
      case measure => simp [intOf]; omega
    · have ej : j = n := by omega
      subst ej
      go_wp2_with fail
      go_ret
      exact ⟨rfl, HB0.out⟩
end Go.Proofs.Ytmbbmibkjnlkkaa
/- Whether two of Seg, or two lists, are alike: where they are the same. -/
namespace Go.Proofs.Ytmbbmibkjnlkkaa
open Go.ChangeShapes Go.WideShapes Go.ChangeAt Go.RowKit Go.Deep Go.BigFrame
set_option maxHeartbeats 4000000 in
theorem eqP_ (s : Sg) (w : World) :
    Calls Try.prog 27 #[.agg s.row, .agg s.row] w fun r w' => r = .returned (.bool true) ∧ Below w.heap.size w w' := by
  obtain ⟨kind, n, text⟩ := s
  show Calls Try.prog 27 #[.agg #[.int .i64 kind, .int .i64 n, .string text], .agg #[.int .i64 kind, .int .i64 n, .string text]] w fun r w' => r = .returned (.bool true) ∧ Below w.heap.size w w'
  have h0 : (kind != kind) = false := by simp
  have h1 : (n != n) = false := by simp
  have h2 : (text.toList != text.toList) = false := by simp
  go_enter Try.func27, Try.ntmps27
  go_wp2_with fail
  go_ret
  exact ⟨rfl, ((Below.refl _ w).alloc (Nat.le_refl _) _).alloc (by simp) _⟩
set_option maxHeartbeats 8000000 in
theorem eqPs_ (w : World) (v u : Value) (es : List Sg) (hV : SgL w v es) (hU : SgL w u es) (hl : es.length ≤ 16777216) :
    Calls Try.prog 12 #[v, u] w fun e w' => e = .returned (.bool true) ∧ Below w.heap.size w w' := by
  obtain ⟨a, c, rfl⟩ := hV.sl
  obtain ⟨a', c', rfl⟩ := hU.sl
  have HV : Hid (SgL w (.slice a es.length c) es) := hV
  have HU : Hid (SgL w (.slice a' es.length c') es) := hU
  clear hV hU
  go_enter Try.func12, Try.ntmps12
  go_wp2_with fail
  go_loopw [5] (fun i wr => ∃ k : Nat, k ≤ es.length ∧ i = .int .i64 k ∧ Below w.heap.size w wr) (fun i _ => es.length - (intOf i).toNat)
  case atStart => exact ⟨0, Nat.zero_le _, rfl, Below.refl _ _⟩
  case round =>
    obtain ⟨k, hk, rfl, hb⟩ := hrel
    by_cases hlt : k < es.length
    · obtain ⟨e, hx⟩ : ∃ h, es[k]? = some h := ⟨_, List.getElem?_eq_getElem hlt⟩
      obtain ⟨b, off, rfl, _, _⟩ := HV.out.at hb hx
      obtain ⟨b', off', rfl, _, _⟩ := HU.out.at hb hx
      have c1 : ∀ m : Bw wr, SgAt m.val b (off + k * 3) e := fun m => by
        obtain ⟨_, _, e1, _, h1⟩ := HV.out.at (hb.trans (m.ok.mono hb.size)) hx
        injection e1 with e1
        injection e1 with e1 e2
        subst e1
        subst e2
        exact h1
      have c2 : ∀ m : Bw wr, SgAt m.val b' (off' + k * 3) e := fun m => by
        obtain ⟨_, _, e1, _, h1⟩ := HU.out.at (hb.trans (m.ok.mono hb.size)) hx
        injection e1 with e1
        injection e1 with e1 e2
        subst e1
        subst e2
        exact h1
      have d0 := fun m => (c1 m).c0
      have d1 := fun m => (c1 m).c1
      have d2 := fun m => (c1 m).c2
      have g0 := fun m => (c2 m).c0
      have g1 := fun m => (c2 m).c1
      have g2 := fun m => (c2 m).c2
      have hE := Bw.calls (w := wr) (fun w' _ => eqP_ e w')
      have hne := Bw.some wr
      have hlt' : (k : Int) < (es.length : Int) := by omega
      clear hx c1 c2
      obtain ⟨kind, n, text⟩ := e
      unfold Sg.row at hE
      go_wp2_with fail
      refine wp_region_bw (w0 := wr) (by kernel_rfl) (by kernel_rfl) (Below.refl _ _) ?_
      repeat (go_big_quiet_step ((go_at_call 27; exact hE _)))
      refine wpQuiet_nil ?_
      rintro _ ⟨m, rfl⟩
      have hB1 : Below w.heap.size w m.val := hb.trans (m.ok.mono hb.size)
      generalize m.val = w1 at *
      clear d0 d1 d2 g0 g1 g2 hE hne
      go_wp2_with fail
      go_roundw
      case rel => exact ⟨k + 1, hlt, by go_num, hB1⟩
      case measure => simp [intOf]; omega
    · go_wp2_with fail
      go_ret
      exact ⟨rfl, hb⟩
end Go.Proofs.Ytmbbmibkjnlkkaa
/- The contract of spec.l09Name. -/
namespace Go.Proofs.Ytmbbmibkjnlkkaa
open Go.ChangeShapes Go.WideShapes Go.ChangeAt Go.RowKit
set_option maxHeartbeats 2000000 in
theorem name_any (s : ByteArray) (w : World) (hs : s.size ≤ mx) (b : Bool) (hb : nmOk s = b) :
    Calls Try.prog 42 #[.string s] w fun e w' => e = .returned (.bool b) ∧ w' = w := by
  have hs' : s.size < 9223372036854775807 := by unfold mx at hs; omega
  have HB : Hid (nmOk s = b) := hb
  clear hb hs
  go_enter Try.func42, Try.ntmps42
  go_wp2_with fail
  go_loop [3] (fun iv => ∃ i : Nat, i ≤ s.size ∧ iv = .int .i64 (i : Int) ∧ Hid (fwd pNm s 0 = fwd pNm s i)) (fun iv => s.size - (intOf iv).toNat)
  case atStart => exact ⟨0, Nat.zero_le _, rfl, rfl⟩
  case round =>
    obtain ⟨i, hi, rfl, HF⟩ := hrel
    by_cases hil : i < s.size
    · have hil' : (i : Int) < (s.size : Int) := by omega
      have hbt := bt_get s i hil
      cases hg : gapP s i with
      | true =>
        have cG := spec_gap1 s i w true hg.symm
        obtain rfl : false = b := by
          rw [← HB.out]
          refine (nm_no hil ?_ HF.out).symm
          unfold gapP at hg
          rw [decide_eq_false (by omega)] at hg
          unfold pNm
          rw [show pG (bt s i) = true from hg]; rfl
        clear hg HB HF hbt
        go_wp2_with fail
        refine cG.mono ?_
        rintro e w1 ⟨rfl, rfl⟩
        clear cG
        go_wp2_with fail
        go_ret
        exact ⟨rfl, rfl⟩
      | false =>
        have cG := spec_gap1 s i w false hg.symm
        have hpg : pG (bt s i) = false := by
          unfold gapP at hg
          rw [decide_eq_false (by omega)] at hg
          exact hg
        have cF := flow6 ((s[i]'hil).toNat) w (pF6 (bt s i)) (by rw [hbt])
        cases hf : pF6 (bt s i) with
        | true =>
          rw [hf] at cF
          obtain rfl : false = b := by
            rw [← HB.out]
            refine (nm_no hil ?_ HF.out).symm
            unfold pNm
            rw [hf]; simp
          clear hg HB HF hbt hpg hf
          go_wp2_with fail
          refine cG.mono ?_
          rintro e w1 ⟨rfl, rfl⟩
          clear cG
          go_wp2_with fail
          refine cF.mono ?_
          rintro e w1 ⟨rfl, rfl⟩
          clear cF
          go_wp2_with fail
          go_ret
          exact ⟨rfl, rfl⟩
        | false =>
          rw [hf] at cF
          have HF2 : Hid (fwd pNm s 0 = fwd pNm s (i + 1)) := HF.out.trans (nm_step hil (by unfold pNm; rw [hf, hpg]; rfl))
          clear hg HF hbt hpg hf
          go_wp2_with fail
          refine cG.mono ?_
          rintro e w1 ⟨rfl, rfl⟩
          clear cG
          go_wp2_with fail
          refine cF.mono ?_
          rintro e w1 ⟨rfl, rfl⟩
          clear cF
          go_wp2_with fail
          go_round
          case rel => exact ⟨i + 1, hil, by go_num, HF2⟩
          case measure => simp [intOf]; omega
    · have hil' : ¬ (i : Int) < (s.size : Int) := by omega
      have HV : Hid (decide ((s.size : Int) ≤ 60) = b) := by
        show decide ((s.size : Int) ≤ 60) = b
        rw [← HB.out]
        unfold nmOk
        rw [HF.out, fwd_end (by omega), decide_eq_true (show i = s.size by omega), Bool.true_and]
        by_cases h60 : s.size ≤ 60
        · rw [decide_eq_true h60, decide_eq_true (by omega)]
        · rw [decide_eq_false h60, decide_eq_false (by omega)]
      clear HB HF
      go_wp2_with fail
      go_ret
      exact ⟨ret_bool HV.out, rfl⟩
end Go.Proofs.Ytmbbmibkjnlkkaa

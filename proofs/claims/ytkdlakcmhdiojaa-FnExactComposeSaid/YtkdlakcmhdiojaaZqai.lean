/- Several texts in one: Tmt Gmn Gmo Gmp. -/
import Derived.Test.YtkdlakcmhdiojaaProg
import Derived.WalkKit
import Derived.ProofKit
import Derived.WalkLawsBesides
import Derived.WalkSpells
import Derived.Below
import Derived.Deep.RegionWith
import Derived.Lib.LaidTab
import Derived.Lib.SmallJoins
import Derived.Test.YtkdlakcmhdiojaaZqah
/- The text that marks a place: the contract of the laws' markText. -/
namespace Go.Proofs.Ytkdlakcmhdiojaa
open Go.ChangeShapes Go.WideShapes Go.ChangeAt Go.RowKit
theorem conv1m (w : World) (a : Int) : (convert 92 9 (.slice (some ⟨w.heap.size, 0, none⟩) 1 1)).run Try.prog (w.alloc (.cells #[.int .u8 a] 5)) = .ok (.string (strOfNums [a])) (w.alloc (.cells #[.int .u8 a] 5)) :=
  run_convert_bytes_arg _ 92 5 Try.underlying92 Try.underlying5 _ 0 1 1 [a] rfl (fun i hi => by
    match i, hi with
    | 0, _ => simp) 9 Try.underlying9
theorem ret_strm {a b : ByteArray} (h : a = b) : Ending.returned (.string a) = .returned (.string b) := by rw [h]
/-- The digits of a number, ahead of a text. -/
def mtGo : Nat → Nat → ByteArray → ByteArray
  | 0, _, o => o
  | f + 1, k, o => if k = 0 then o else mtGo f (k / 10) (strOfNums [((48 + k % 10 : Nat) : Int)] ++ o)
def mT (k : Nat) : ByteArray := ⟨#[109]⟩ ++ mtGo (k + 1) k ByteArray.empty
theorem mt_zero (f : Nat) (o : ByteArray) : mtGo f 0 o = o := by cases f <;> rfl
theorem mt_step (f k : Nat) (o : ByteArray) (h : k ≠ 0) : mtGo (f + 1) k o = mtGo f (k / 10) (strOfNums [((48 + k % 10 : Nat) : Int)] ++ o) := by rw [mtGo, if_neg h]
set_option maxHeartbeats 2000000 in
theorem markText_any (k : Nat) (w : World) (h0 : 0 < k) (h1 : k ≤ 100000000) :
    Calls Try.prog 34 #[.int .i64 (k : Int)] w fun e w' => e = .returned (.string (mT k)) ∧ Below w.heap.size w w' := by
  obtain ⟨X, hX⟩ : ∃ X, mtGo (k + 1) k ByteArray.empty = X := ⟨_, rfl⟩
  have HX : Hid (mtGo (k + 1) k ByteArray.empty = X) := hX
  have HM : Hid (mT k = ⟨#[109]⟩ ++ X) := by show mT k = _; unfold mT; rw [hX]
  have h0' : ¬ (k : Int) ≤ 0 := by omega
  clear hX
  go_enter Try.func34, Try.ntmps34
  go_wp2_with fail
  go_loopw [0, 3] (fun kv ov wr => ∃ (j f : Nat) (o : ByteArray), kv = .int .i64 (j : Int) ∧ ov = .string o ∧ j ≤ 100000000 ∧ o.size + j ≤ 100000000 ∧ Hid (j < f) ∧ Hid (mtGo f j o = X) ∧ Hid (Below w.heap.size w wr)) (fun kv _ _ => (intOf kv).toNat)
  case atStart => exact ⟨k, k + 1, ByteArray.empty, rfl, rfl, h1, by show 0 + k ≤ _; omega, by show k < k + 1; omega, HX, Below.refl _ _⟩
  case round =>
    obtain ⟨j, f, o, rfl, rfl, hj, ho, HF, HG, HB⟩ := hrel
    by_cases hz : j = 0
    · subst hz
      have HE : Hid (o = X) := by show o = X; rw [← HG.out, mt_zero]
      have ho' : o.size ≤ 100000000 := by omega
      clear ho
      go_wp2_with fail
      go_ret
      exact ⟨ret_strm (by rw [HM.out, HE.out]), HB.out⟩
    · have hz' : (0 : Int) < (j : Int) := by omega
      obtain ⟨f, rfl⟩ : ∃ f', f = f' + 1 := ⟨f - 1, by have := HF.out; omega⟩
      have HG2 : Hid (mtGo f (j / 10) (strOfNums [((48 + j % 10 : Nat) : Int)] ++ o) = X) := by show _ = X; rw [← HG.out, mt_step _ _ _ hz]
      have hc := conv1m wr
      have hsz : (strOfNums [((48 + j % 10 : Nat) : Int)] ++ o).size = o.size + 1 := by
        rw [ByteArray.size_append, strOfNums_size]; simp; omega
      have HSZ : Hid ((strOfNums [((48 + j % 10 : Nat) : Int)] ++ o).size = o.size + 1) := hsz
      have hadd : ∀ (w : World) (d : Int), (Op.stringOp .add (strOfNums [d]) o).run Try.prog w = .ok (.string (strOfNums [d] ++ o)) w := fun w d =>
        run_string_add_sum w _ _ (by rw [strOfNums_size]; simp; omega)
      have HF2 : Hid (j / 10 < f) := by have := HF.out; show j / 10 < f; omega
      have HBD : Hid (j / 10 ≤ 100000000 ∧ o.size + 1 + j / 10 ≤ 100000000) := by show _ ∧ _; omega
      clear hsz HG HF ho
      go_wp2_with fail
      go_roundw
      case rel => exact ⟨j / 10, f, strOfNums [((48 + j % 10 : Nat) : Int)] ++ o, by go_num, rfl, HBD.out.1, by rw [HSZ.out]; exact HBD.out.2, HF2, HG2, HB.out.alloc HB.out.size _⟩
      case measure => simp [intOf]; omega
end Go.Proofs.Ytkdlakcmhdiojaa
/- Marks on the nodes of a graph: plain, and the laws' markNodeS. -/
namespace Go.Proofs.Ytkdlakcmhdiojaa
open Go.ChangeShapes Go.WideShapes Go.ChangeAt Go.RowKit Go.Deep
def markNd (k : Nat) (n : Nd) : Nd := ⟨(k : Int), mT (k + 1), mT (k + 2), mkN (k + 3) n.kids.length⟩
def markNs : Nat → List Nd → List Nd
  | _, [] => []
  | k, n :: t => markNd k n :: markNs (k + 3 + n.kids.length) t
def cntNs : List Nd → Nat
  | [] => 0
  | n :: t => 3 + n.kids.length + cntNs t
theorem cntNs_app : ∀ a b : List Nd, cntNs (a ++ b) = cntNs a + cntNs b
  | [], b => by simp [cntNs]
  | n :: a, b => by rw [List.cons_append, cntNs, cntNs, cntNs_app a b]; omega
theorem markNs_app : ∀ (k : Nat) (a b : List Nd), markNs k (a ++ b) = markNs k a ++ markNs (k + cntNs a) b
  | k, [], b => by simp [cntNs, markNs]
  | k, n :: a, b => by
    rw [List.cons_append, markNs, markNs, markNs_app, cntNs, List.cons_append, show k + (3 + n.kids.length + cntNs a) = k + 3 + n.kids.length + cntNs a by omega]
theorem markNs_len : ∀ (k : Nat) (a : List Nd), (markNs k a).length = a.length
  | _, [] => rfl
  | k, n :: a => by rw [markNs, List.length_cons, List.length_cons, markNs_len]
theorem cntNs_tot : ∀ a : List Nd, cntNs a ≤ 3 * a.length + totN a
  | [] => Nat.zero_le _
  | n :: a => by
    have := cntNs_tot a
    have e : totN (n :: a) = n.tot + totN a := rfl
    rw [cntNs, e, List.length_cons]
    unfold Nd.tot
    omega
/-- So far marked. -/
def mkL (k : Nat) (ns : List Nd) (j : Nat) : List Nd := markNs k (ns.take j) ++ ns.drop j
theorem mkL_len (k : Nat) (ns : List Nd) (j : Nat) : (mkL k ns j).length = ns.length := by
  unfold mkL
  rw [List.length_append, markNs_len, ← List.length_append, List.take_append_drop]
theorem mkL_at {k : Nat} {ns : List Nd} {j : Nat} {n : Nd} (h : ns[j]? = some n) : (mkL k ns j)[j]? = some n := by
  have hj := (List.getElem?_eq_some_iff.1 h).1
  unfold mkL
  have hl : (markNs k (ns.take j)).length = j := by rw [markNs_len, List.length_take]; omega
  rw [List.getElem?_append_right (by omega), hl, Nat.sub_self, List.getElem?_drop]
  exact h
theorem mkL_succ {k : Nat} {ns : List Nd} {j : Nat} {n : Nd} (h : ns[j]? = some n) : mkL k ns (j + 1) = (mkL k ns j).set j (markNd (k + cntNs (ns.take j)) n) := by
  obtain ⟨hj, hn⟩ := List.getElem?_eq_some_iff.1 h
  unfold mkL
  have hl : (markNs k (ns.take j)).length = j := by rw [markNs_len, List.length_take]; omega
  rw [List.set_append_right _ _ (by omega), hl, Nat.sub_self, List.drop_eq_getElem_cons hj, List.set_cons_zero, List.take_add_one, h]
  show markNs k (ns.take j ++ [n]) ++ _ = _
  rw [markNs_app, List.append_assoc]
  rfl
theorem cellsN_set : ∀ (ns : List Nd) (vs : List Value) (j : Nat) (n : Nd) (v : Value) (m : Nd), ns[j]? = some n → vs[j]? = some v →
    (((cellsN ns vs).set (j * 4) (.int .i64 m.kind)).set (j * 4 + 1) (.string m.tag)).set (j * 4 + 2) (.string m.text) = cellsN (ns.set j m) vs
  | [], _, j, _, _, _, h, _ => by simp at h
  | _ :: _, [], j, _, _, _, _, h => by simp at h
  | a :: t, x :: y, 0, n, v, m, _, _ => rfl
  | a :: t, x :: y, j + 1, n, v, m, h, h' => by
    have := cellsN_set t y j n v m (by simpa using h) (by simpa using h')
    rw [List.set_cons_succ, cellsN, cellsN, show (j + 1) * 4 = j * 4 + 4 by omega, show j * 4 + 4 + 1 = (j * 4 + 1) + 4 by omega, show j * 4 + 4 + 2 = (j * 4 + 2) + 4 by omega]
    simp only [List.set_cons_succ]
    rw [this]
/-- What stays as it was while nodes are written. -/
structure FrN (w0 : World) (lo : Nat) (nv : Value) (vs : List Value) (w : World) : Prop where
  below : Below lo w0 w
  blk : ∀ b, b < w0.heap.size → nv.ownBlock ≠ some b → (∀ (i : Nat) (v : Value), vs[i]? = some v → v.ownBlock ≠ some b) → w.heap[b]? = w0.heap[b]?
theorem FrN.refl (w : World) (lo : Nat) (nv : Value) (vs : List Value) : FrN w lo nv vs w := ⟨⟨rfl, rfl, rfl, Nat.le_refl _, fun _ _ => rfl⟩, fun _ _ _ _ => rfl⟩
theorem FrN.later {w0 w w' : World} {lo : Nat} {nv : Value} {vs : List Value} (h : FrN w0 lo nv vs w) (hlo : lo ≤ w0.heap.size) (hb : Below w.heap.size w w') : FrN w0 lo nv vs w' :=
  ⟨h.below.trans (hb.mono (Nat.le_trans hlo h.below.size)), fun b h1 h2 h3 => (hb.block b (Nat.lt_of_lt_of_le h1 h.below.size)).trans (h.blk b h1 h2 h3)⟩
theorem FrN.setB {w0 w : World} {lo B n c : Nat} {vs : List Value} (h : FrN w0 lo (.slice (some ⟨B, 0, none⟩) n c) vs w) (hlo : lo ≤ B) (i : Nat) (u : Value) : FrN w0 lo (.slice (some ⟨B, 0, none⟩) n c) vs (w.setCell ⟨B, i, none⟩ u) :=
  ⟨h.below.setCell hlo _, fun b h1 h2 h3 => (heap_setCell_other _ _ _ _ (fun e => h2 (by rw [e]; rfl))).trans (h.blk b h1 h2 h3)⟩
theorem FrN.kid {w0 w w' : World} {lo j : Nat} {nv v : Value} {vs : List Value} (h : FrN w0 lo nv vs w) (hv : vs[j]? = some v) (hlo : ∀ x, v.ownBlock = some x → lo ≤ x) (hl : lo ≤ w0.heap.size) (hg : w.grownBy w' v.ownBlock) : FrN w0 lo nv vs w' := by
  refine ⟨h.below.trans ⟨hg.os, hg.tape, hg.output, hg.size, fun i hi => hg.block i (Nat.lt_of_lt_of_le hi (Nat.le_trans hl h.below.size)) (fun e => ?_)⟩, fun b h1 h2 h3 => (hg.block b (Nat.lt_of_lt_of_le h1 h.below.size) (fun e => h3 j v hv e.symm)).trans (h.blk b h1 h2 h3)⟩
  have := hlo i e.symm
  omega
/-- The kids of one node are written. -/
theorem KidsOwn.mark {lo : Nat} {w w' : World} {vs : List Value} {ns : List Nd} {j : Nat} {n m : Nd} {v : Value} (h : KidsOwn lo w vs ns) (hn : ns[j]? = some n) (hv : vs[j]? = some v) (hr : w'.ownsRow lo 3 1 v m.kids.length (ilV m.kids)) (hg : w.grownBy w' v.ownBlock) : KidsOwn lo w' vs (ns.set j m) := by
  refine ⟨by rw [List.length_set]; exact h.len, fun i a p ha hp => ?_, h.apart⟩
  by_cases e : j = i
  · subst e
    rw [hv] at ha
    obtain rfl : v = a := by simpa using ha
    rw [List.getElem?_set_self (List.getElem?_eq_some_iff.1 hn).1] at hp
    obtain rfl : m = p := by simpa using hp
    exact hr
  · rw [List.getElem?_set_ne e] at hp
    refine g_row_block (h.own i a p ha hp) (fun x hx => hg.block x ((h.own i a p ha hp).lt x hx).2 (fun e2 => ?_))
    rcases Nat.lt_or_gt_of_ne e with h1 | h1
    · exact h.apart j i v a x h1 hv ha e2.symm hx
    · exact h.apart i j a v x h1 ha hv hx e2.symm
theorem KidsOwn.same {lo : Nat} {w : World} {vs : List Value} {ns : List Nd} {j : Nat} {n m : Nd} (h : KidsOwn lo w vs ns) (hn : ns[j]? = some n) (hm : m.kids = n.kids) : KidsOwn lo w vs (ns.set j m) := by
  refine ⟨by rw [List.length_set]; exact h.len, fun i a p ha hp => ?_, h.apart⟩
  by_cases e : j = i
  · subst e
    rw [List.getElem?_set_self (List.getElem?_eq_some_iff.1 hn).1] at hp
    obtain rfl : m = p := by simpa using hp
    rw [hm]
    exact h.own j a n ha hn
  · rw [List.getElem?_set_ne e] at hp
    exact h.own i a p ha hp
theorem cellsN_kid {ns : List Nd} {vs : List Value} {j : Nat} {n : Nd} {v : Value} (h : ns[j]? = some n) (h' : vs[j]? = some v) : (cellsN ns vs)[j * 4 + 3]? = some v := cellsN_at ns vs j n v h h' 3 v rfl
theorem row_cellX {w : World} {lo t sz g n cap : Nat} {xs : List Value} (h : w.ownsRow lo t sz (.slice (some ⟨g, 0, none⟩) n cap) n xs) (i : Nat) (hi : i < xs.length) : (∃ z, w.cell? ⟨g, i, none⟩ = some z) ∧ w.frozen? ⟨g, i, none⟩ = false := by
  refine ⟨?_, h.frozenAt i⟩
  have := h.cells (g := g) rfl i (xs[i]'hi) (by simp)
  have hadd : (⟨g, 0, none⟩ : Addr).add i = ⟨g, i, none⟩ := by unfold Addr.add; split <;> simp_all
  rw [hadd] at this
  exact ⟨_, this⟩
theorem KidsOwn.other {lo : Nat} {w : World} {vs : List Value} {ns : List Nd} {B cap n : Nat} {xs : List Value} (h : KidsOwn lo w vs ns) (hr : w.ownsRow lo 70 4 (.slice (some ⟨B, 0, none⟩) n cap) n xs) {i : Nat} {v : Value} (hv : vs[i]? = some v) : v.ownBlock ≠ some B := fun e => by
  obtain ⟨m, hm⟩ := h.get hv
  obtain ⟨c1, f1, e1⟩ := own_type (h.own i v m hv hm) e
  obtain ⟨c2, f2, e2⟩ := own_type hr (x := B) rfl
  rw [e1] at e2
  injection e2 with e2
  injection e2 with _ e3 _
  exact absurd e3 (by decide)
theorem KidsOwn.setB {lo : Nat} {w : World} {vs : List Value} {ns : List Nd} {B cap n : Nat} {xs : List Value} (h : KidsOwn lo w vs ns) (hr : w.ownsRow lo 70 4 (.slice (some ⟨B, 0, none⟩) n cap) n xs) (i : Nat) (u : Value) : KidsOwn lo (w.setCell ⟨B, i, none⟩ u) vs ns :=
  h.block (fun k v x hv hx => heap_setCell_other _ _ _ _ (fun e => h.other hr hv (by rw [hx, e])))
end Go.Proofs.Ytkdlakcmhdiojaa
/- Marks on the nodes of a graph: the laws' markNodeS. -/
namespace Go.Proofs.Ytkdlakcmhdiojaa
open Go.ChangeShapes Go.WideShapes Go.ChangeAt Go.RowKit Go.Deep
set_option maxHeartbeats 8000000 in
theorem markNs_any (w : World) (lo : Nat) (nv : Value) (ns : List Nd) (vs : List Value) (k : Nat) (hO : w.ownsRow lo 70 4 nv ns.length (cellsN ns vs)) (hK : KidsOwn lo w vs ns) (hlo : lo ≤ w.heap.size) (ht : ns.length + totN ns ≤ 1048576) (k0 : 0 < k) (k1 : k ≤ 1000) :
    Calls Try.prog 35 #[nv, .int .i64 (k : Int)] w fun e w' => e = .returned (.int .i64 ((k + cntNs ns : Nat) : Int)) ∧ w'.ownsRow lo 70 4 nv ns.length (cellsN (markNs k ns) vs) ∧ KidsOwn lo w' vs (markNs k ns) ∧ FrN w lo nv vs w' := by
  by_cases h0 : ns = []
  · subst h0
    obtain ⟨a, c, rfl⟩ : ∃ a c, nv = .slice a 0 c := by
      rcases hO.2 with ⟨e, _⟩ | ⟨g, cap, cur, e, _⟩
      · exact ⟨_, _, e⟩
      · exact ⟨_, _, e⟩
    have HO : Hid (w.ownsRow lo 70 4 (.slice a 0 c) 0 (cellsN (markNs k []) vs)) := hO
    have HKO : Hid (KidsOwn lo w vs (markNs k [])) := hK
    clear hO hK
    go_enter Try.func35, Try.ntmps35
    go_wp2_with fail
    refine wp_loop_rounds 1 ?_
    rw [rounds_succ]
    go_wp2_with fail
    go_ret
    exact ⟨by simp [cntNs], HO.out, HKO.out, FrN.refl _ _ _ _⟩
  · have hpos : 0 < ns.length := List.length_pos_iff.2 h0
    obtain ⟨B, cap, rfl, hB, hBl⟩ := World.ownsRow.form hO hpos
    have HO : Hid (w.ownsRow lo 70 4 (.slice (some ⟨B, 0, none⟩) ns.length cap) ns.length (cellsN (mkL k ns 0) vs)) := hO
    have HKO : Hid (KidsOwn lo w vs (mkL k ns 0)) := hK
    have HLO : Hid (lo ≤ w.heap.size) := hlo
    have HB : Hid (lo ≤ B) := hB
    have hnl : (ns.length : Int) ≤ 1048576 := by omega
    have HT : Hid (ns.length + totN ns ≤ 1048576) := ht
    clear hO hK h0 hlo hB hBl ht
    go_enter Try.func35, Try.ntmps35
    go_wp2_with fail
    go_loopw [1, 5] (fun kk i wr => ∃ (j : Nat), j ≤ ns.length ∧ i = .int .i64 (j : Int) ∧ kk = .int .i64 ((k + cntNs (ns.take j) : Nat) : Int) ∧ Hid (wr.ownsRow lo 70 4 (.slice (some ⟨B, 0, none⟩) ns.length cap) ns.length (cellsN (mkL k ns j) vs)) ∧ Hid (KidsOwn lo wr vs (mkL k ns j)) ∧ Hid (FrN w lo (.slice (some ⟨B, 0, none⟩) ns.length cap) vs wr)) (fun _ i _ => ns.length - (intOf i).toNat)
    case atStart => exact ⟨0, Nat.zero_le _, rfl, by simp [cntNs], HO, HKO, FrN.refl _ _ _ _⟩
    case round =>
      obtain ⟨j, hj, rfl, rfl, HR, HQ, HF⟩ := hrel
      clear HO HKO
      by_cases hlt : j < ns.length
      · have hlt' : (j : Int) < (ns.length : Int) := by omega
        obtain ⟨n, hx⟩ : ∃ n, ns[j]? = some n := ⟨_, List.getElem?_eq_getElem hlt⟩
        have hat := mkL_at (k := k) hx
        have hsu := mkL_succ (k := k) hx
        obtain ⟨v, hv⟩ : ∃ v, vs[j]? = some v := ⟨_, List.getElem?_eq_getElem (by rw [HQ.out.len, mkL_len]; exact hlt)⟩
        have htk := totN_take hx
        have hct := cntNs_tot (ns.take j)
        have htm : totN (ns.take (j + 1)) ≤ totN ns := by
          have e : totN (ns.take (j + 1)) + totN (ns.drop (j + 1)) = totN ns := by rw [← totN_app, List.take_append_drop]
          omega
        have hkl : n.kids.length ≤ n.tot := by unfold Nd.tot; omega
        have hcs : cntNs (ns.take (j + 1)) = cntNs (ns.take j) + 3 + n.kids.length := by
          rw [List.take_add_one, hx]
          show cntNs (ns.take j ++ [n]) = _
          rw [cntNs_app]
          simp only [cntNs]
          omega
        have hKb : cntNs (ns.take j) ≤ 5000000 := by
          rw [List.length_take] at hct
          have := HT.out
          omega
        have hkb : n.kids.length ≤ 1048576 := by have := HT.out; omega
        obtain ⟨K, hK⟩ : ∃ K, k + cntNs (ns.take j) = K := ⟨_, rfl⟩
        have HCS : Hid (k + cntNs (ns.take (j + 1)) = K + 3 + n.kids.length) := by show _ = _; omega
        have hK1 : K ≤ 5001000 := by omega
        have hK0 : 0 < K := by omega
        rw [hK] at hsu ⊢
        obtain ⟨xs, hxs⟩ : ∃ xs, cellsN (mkL k ns j) vs = xs := ⟨_, rfl⟩
        have hfin := cellsN_set (mkL k ns j) vs j n v (markNd K n) hat hv
        have hkd := cellsN_kid hat hv
        have hxl : xs.length = ns.length * 4 := by rw [← hxs, cellsN_len _ _ HQ.out.len, mkL_len]
        rw [hxs] at HR hfin hkd
        rw [← hsu] at hfin
        have hvr := HQ.out.own j v n hv hat
        obtain ⟨va, vn, vc, rfl⟩ : ∃ va vn vc, v = .slice va vn vc := by
          rcases hvr.2 with ⟨e, _⟩ | ⟨g, cap, cur, e, _⟩
          · exact ⟨_, _, _, e⟩
          · exact ⟨_, _, _, e⟩
        have HSU : Hid (mkL k ns (j + 1) = (mkL k ns j).set j (markNd K n)) := hsu
        have HFIN : Hid (((xs.set (j * 4) (.int .i64 (K : Int))).set (j * 4 + 1) (.string (mT (K + 1)))).set (j * 4 + 2) (.string (mT (K + 2))) = cellsN (mkL k ns (j + 1)) vs) := hfin
        have HKD : Hid (xs[j * 4 + 3]? = some (.slice va vn vc)) := hkd
        have HXL : Hid (xs.length = ns.length * 4) := hxl
        have HAT : Hid ((mkL k ns j)[j]? = some n) := hat
        have HVJ : Hid (vs[j]? = some (.slice va vn vc)) := hv
        have HLT : Hid (j < ns.length) := hlt
        have HKB : Hid (n.kids.length ≤ 1048576) := hkb
        have c3 : Hid (∀ (q : Int) (_ : q = ((K + 1 : Nat) : Int)) (w' : World), Calls Try.prog 34 #[.int .i64 q] w' fun e w'' => e = .returned (.string (mT (K + 1))) ∧ Below w'.heap.size w' w'') := fun q hq w' => by rw [hq]; exact markText_any (K + 1) w' (by omega) (by omega)
        have c4 : Hid (∀ (q : Int) (_ : q = ((K + 2 : Nat) : Int)) (w' : World), Calls Try.prog 34 #[.int .i64 q] w' fun e w'' => e = .returned (.string (mT (K + 2))) ∧ Below w'.heap.size w' w'') := fun q hq w' => by rw [hq]; exact markText_any (K + 2) w' (by omega) (by omega)
        obtain ⟨⟨z0, hz0⟩, hf0⟩ := row_cellX HR.out (j * 4) (by omega)
        have hKI : (K : Int) ≤ 5001000 := by omega
        have hKI0 : (0 : Int) < (K : Int) := by omega
        clear hx hat hsu hv htk hct htm hkl hcs hKb hK hfin hkd hxl hvr hxs k0 k1 hj hkb hK1 hK0
        go_wp2_with fail
        refine (c3.out _ (by omega) _).mono ?_
        rintro e9 w1 ⟨rfl, hb9⟩
        have R1 := own_setX HR.out (j * 4) (.int .i64 (K : Int)) (by have h1 := HXL.out; have h2 := HLT.out; omega)
        have HR1 : Hid (w1.ownsRow lo 70 4 (.slice (some ⟨B, 0, none⟩) ns.length cap) ns.length (xs.set (j * 4) (.int .i64 (K : Int)))) := g_row_below R1 hb9
        have HQ1 : Hid (KidsOwn lo w1 vs (mkL k ns j)) := (HQ.out.setB HR.out (j * 4) (.int .i64 (K : Int))).later hb9
        have HF1 : Hid (FrN w lo (.slice (some ⟨B, 0, none⟩) ns.length cap) vs w1) := (HF.out.setB HB.out (j * 4) (.int .i64 (K : Int))).later HLO.out hb9
        clear hb9 R1 HR HQ HF hz0 hf0 z0
        obtain ⟨⟨z1, hz1⟩, hf1⟩ := row_cellX HR1.out (j * 4 + 1) (by have h1 := HXL.out; have h2 := HLT.out; simp only [List.length_set]; omega)
        go_wp2_with fail
        refine (c4.out _ (by omega) _).mono ?_
        rintro e9 w2 ⟨rfl, hb9⟩
        have R2 := own_setX HR1.out (j * 4 + 1) (.string (mT (K + 1))) (by have h1 := HXL.out; have h2 := HLT.out; simp only [List.length_set]; omega)
        have HR2 : Hid (w2.ownsRow lo 70 4 (.slice (some ⟨B, 0, none⟩) ns.length cap) ns.length ((xs.set (j * 4) (.int .i64 (K : Int))).set (j * 4 + 1) (.string (mT (K + 1))))) := g_row_below R2 hb9
        have HQ2 : Hid (KidsOwn lo w2 vs (mkL k ns j)) := (HQ1.out.setB HR1.out (j * 4 + 1) (.string (mT (K + 1)))).later hb9
        have HF2 : Hid (FrN w lo (.slice (some ⟨B, 0, none⟩) ns.length cap) vs w2) := (HF1.out.setB HB.out (j * 4 + 1) (.string (mT (K + 1)))).later HLO.out hb9
        clear hb9 R2 HR1 HQ1 HF1 hz1 hf1 z1
        obtain ⟨⟨z2, hz2⟩, hf2⟩ := row_cellX HR2.out (j * 4 + 2) (by have h1 := HXL.out; have h2 := HLT.out; simp only [List.length_set]; omega)
        have R3 := own_setX HR2.out (j * 4 + 2) (.string (mT (K + 2))) (by have h1 := HXL.out; have h2 := HLT.out; simp only [List.length_set]; omega)
        rw [HFIN.out] at R3
        obtain ⟨W3, hW3⟩ : ∃ W3, w2.setCell ⟨B, j * 4 + 2, none⟩ (.string (mT (K + 2))) = W3 := ⟨_, rfl⟩
        have HR3 : Hid (W3.ownsRow lo 70 4 (.slice (some ⟨B, 0, none⟩) ns.length cap) ns.length (cellsN (mkL k ns (j + 1)) vs)) := by show World.ownsRow _ _ _ _ _ _ _; rw [← hW3]; exact R3
        have HQ3 : Hid (KidsOwn lo W3 vs (mkL k ns j)) := by show KidsOwn _ _ _ _; rw [← hW3]; exact HQ2.out.setB HR2.out (j * 4 + 2) (.string (mT (K + 2)))
        have HF3 : Hid (FrN w lo (.slice (some ⟨B, 0, none⟩) ns.length cap) vs W3) := by show FrN _ _ _ _ _; rw [← hW3]; exact HF2.out.setB HB.out (j * 4 + 2) (.string (mT (K + 2)))
        have hk3 : W3.cell? ⟨B, j * 4 + 3, none⟩ = some (.slice va vn vc) := by
          have h1 := HR3.out.cells (g := B) rfl (j * 4 + 3) (.slice va vn vc) (by
            rw [← HFIN.out, List.getElem?_set_ne (by omega), List.getElem?_set_ne (by omega), List.getElem?_set_ne (by omega)]
            exact HKD.out)
          have hadd : (⟨B, 0, none⟩ : Addr).add (j * 4 + 3) = ⟨B, j * 4 + 3, none⟩ := by unfold Addr.add; split <;> simp_all
          rw [hadd] at h1
          exact h1
        have HK3 : Hid (W3.cell? ⟨B, j * 4 + 3, none⟩ = some (.slice va vn vc)) := hk3
        rw [← hW3] at hk3
        have HW3 : Hid (w2.setCell ⟨B, j * 4 + 2, none⟩ (.string (mT (K + 2))) = W3) := hW3
        have cM := markX_any W3 lo _ n.kids.length _ (K + 3) (HQ3.out.own j _ n HVJ.out HAT.out) HKB.out (by omega)
        have cMH : Hid (∀ (q : Int) (_ : q = ((K + 3 : Nat) : Int)), Calls Try.prog 36 #[.slice va vn vc, .int .i64 q] W3 fun e w' => e = .returned (.int .i64 ((K + 3 + n.kids.length : Nat) : Int)) ∧ w'.ownsRow lo 3 1 (.slice va vn vc) n.kids.length (ilV (mkN (K + 3) n.kids.length)) ∧ W3.grownBy w' (Value.slice va vn vc).ownBlock) := fun q hq => by rw [hq]; exact cM
        clear cM hW3 R3 HR2 HQ2 HF2
        go_wp2_with fail
        rw [HW3.out]
        refine (cMH.out _ (by omega)).mono ?_
        rintro e9 w4 ⟨rfl, hrow, hgr⟩
        have HQ4 : Hid (KidsOwn lo w4 vs (mkL k ns (j + 1))) := by
          show KidsOwn _ _ _ _
          rw [HSU.out]
          exact HQ3.out.mark HAT.out HVJ.out (by
            show w4.ownsRow lo 3 1 _ (mkN (K + 3) n.kids.length).length (ilV (mkN (K + 3) n.kids.length))
            rw [mkN_len]
            exact hrow) hgr
        have HR4 : Hid (w4.ownsRow lo 70 4 (.slice (some ⟨B, 0, none⟩) ns.length cap) ns.length (cellsN (mkL k ns (j + 1)) vs)) := g_row_block HR3.out (fun x hx => hgr.block x (HR3.out.lt x hx).2 (fun e => HQ3.out.other HR3.out HVJ.out (by
          have : x = B := by simpa [Value.ownBlock] using hx.symm
          rw [← this]
          exact e.symm)))
        have HF4 : Hid (FrN w lo (.slice (some ⟨B, 0, none⟩) ns.length cap) vs w4) := HF3.out.kid HVJ.out (fun x hx => (HQ3.out.lt HVJ.out hx).1) HLO.out hgr
        clear hrow hgr hk3 HK3 HR3 HQ3 HF3 hz2 hf2 cMH c3 c4 HW3
        go_wp2_with fail
        go_roundw
        case rel => exact ⟨j + 1, HLT.out, by go_num, by congr 1; have := HCS.out; omega, HR4, HQ4, HF4⟩
        case measure => simp [intOf]; have := HLT.out; omega
      · have hge : ¬ (j : Int) < (ns.length : Int) := by omega
        have ej : j = ns.length := by omega
        have eL : mkL k ns j = markNs k ns := by unfold mkL; rw [ej, List.take_length, List.drop_length, List.append_nil]
        have HR9 : Hid (wr.ownsRow lo 70 4 (.slice (some ⟨B, 0, none⟩) ns.length cap) ns.length (cellsN (markNs k ns) vs)) := by show World.ownsRow _ _ _ _ _ _ _; rw [← eL]; exact HR.out
        have HQ9 : Hid (KidsOwn lo wr vs (markNs k ns)) := by show KidsOwn _ _ _ _; rw [← eL]; exact HQ.out
        have HJ : Hid (ns.take j = ns) := by show _ = _; rw [ej, List.take_length]
        clear eL ej HR HQ
        rw [HJ.out]
        go_wp2_with fail
        go_ret
        exact ⟨rfl, HR9.out, HQ9.out, HF.out⟩
end Go.Proofs.Ytkdlakcmhdiojaa
/- Marks on a graph: the laws' markGraph. -/
namespace Go.Proofs.Ytkdlakcmhdiojaa
open Go.ChangeShapes Go.WideShapes Go.ChangeAt Go.RowKit Go.Deep
def markGr (k : Nat) (g : Gr) : Gr := ⟨markNs k g.nodes, mkN (k + cntNs g.nodes) g.roots.length⟩
def cntGr (g : Gr) : Nat := cntNs g.nodes + g.roots.length
/-- What stays as it was while a graph is written. -/
structure FrG (w0 : World) (lo : Nat) (nv rv : Value) (vs : List Value) (w : World) : Prop where
  below : Below lo w0 w
  blk : ∀ b, b < w0.heap.size → nv.ownBlock ≠ some b → (∀ (i : Nat) (v : Value), vs[i]? = some v → v.ownBlock ≠ some b) → rv.ownBlock ≠ some b → w.heap[b]? = w0.heap[b]?
theorem own_isSl {w : World} {lo t sz n : Nat} {v : Value} {xs : List Value} (h : w.ownsRow lo t sz v n xs) : isSlG v := by
  rcases h.2 with ⟨e, _⟩ | ⟨g, cap, cur, e, _⟩
  · exact ⟨_, _, _, e⟩
  · exact ⟨_, _, _, e⟩
set_option maxHeartbeats 4000000 in
theorem markG_any (w : World) (lo : Nat) (nv rv : Value) (g : Gr) (vs : List Value) (k : Nat) (hO : GOwn lo w nv rv g vs) (hlo : lo ≤ w.heap.size) (ht : g.tot ≤ 1048576) (k0 : 0 < k) (k1 : k ≤ 1000) :
    Calls Try.prog 12 #[.agg #[nv, rv], .int .i64 (k : Int)] w fun e w' => e = .returned (.int .i64 ((k + cntGr g : Nat) : Int)) ∧ GOwn lo w' nv rv (markGr k g) vs ∧ FrG w lo nv rv vs w' := by
  have htt : g.nodes.length + totN g.nodes + g.roots.length ≤ 1048576 := ht
  obtain ⟨na, nn, nc, rfl⟩ := own_isSl hO.nodes
  obtain ⟨ra, rn, rc, rfl⟩ := own_isSl hO.roots
  have HO : Hid (GOwn lo w (.slice na nn nc) (.slice ra rn rc) g vs) := hO
  have HLO : Hid (lo ≤ w.heap.size) := hlo
  obtain ⟨V, hV⟩ : ∃ V, w.alloc (.cells #[.slice na nn nc, .slice ra rn rc] 27) = V := ⟨_, rfl⟩
  have HV : Hid (w.alloc (.cells #[.slice na nn nc, .slice ra rn rc] 27) = V) := hV
  have HB0 : Hid (Below w.heap.size w V) := by show Below _ _ _; rw [← hV]; exact (Below.refl _ w).alloc (Nat.le_refl _) _
  have HS : Hid (V.heap.size = w.heap.size + 1) := by show _ = _; rw [← hV]; show (w.heap.push _).size = _; simp
  have HE : Hid (V.heap[w.heap.size]? = some (.cells #[.slice na nn nc, .slice ra rn rc] 27 (0, 0))) := by show _ = _; rw [← hV]; exact heap_alloc_new w _
  have HOV : Hid (GOwn lo V (.slice na nn nc) (.slice ra rn rc) g vs) := hO.later HB0.out
  have q0 := n2_0 HE.out
  have hct := cntNs_tot g.nodes
  have HCN : Hid (cntNs g.nodes ≤ 4000000) := by show _ ≤ _; omega
  have HTT : Hid (g.nodes.length + totN g.nodes + g.roots.length ≤ 1048576) := htt
  have cN := markNs_any V lo _ g.nodes vs k HOV.out.nodes HOV.out.kids (Nat.le_trans hlo (by rw [HS.out]; exact Nat.le_succ _)) (by omega) k0 k1
  have hk1 : (k : Int) ≤ 1000 := by omega
  have HK1 : Hid (k ≤ 1000) := k1
  rw [← hV] at q0
  clear hO hV ht htt hct hlo
  go_enter Try.func12, Try.ntmps12
  go_wp2_with fail
  rw [HV.out]
  refine cN.mono ?_
  rintro e w1 ⟨rfl, hR, hK, hF⟩
  have HR : Hid (w1.ownsRow lo 70 4 (.slice na nn nc) g.nodes.length (cellsN (markNs k g.nodes) vs)) := hR
  have HK : Hid (KidsOwn lo w1 vs (markNs k g.nodes)) := hK
  have HF : Hid (FrN V lo (.slice na nn nc) vs w1) := hF
  have hbox : w1.heap[w.heap.size]? = some (.cells #[.slice na nn nc, .slice ra rn rc] 27 (0, 0)) := (hF.blk w.heap.size (by rw [HS.out]; exact Nat.lt_succ_self _) (fun e => absurd (HO.out.nodes.lt _ e).2 (Nat.lt_irrefl _)) (fun i v hv e => absurd (HO.out.kids.lt hv e).2 (Nat.lt_irrefl _))).trans HE.out
  have q1 := n2_1 hbox
  have HRR : Hid (w1.ownsRow lo 3 1 (.slice ra rn rc) g.roots.length (ilV g.roots)) := g_row_block HOV.out.roots (fun x hx => hF.blk x (HOV.out.roots.lt x hx).2 (fun e => by
      obtain ⟨c1, f1, e1⟩ := own_type HOV.out.nodes e
      obtain ⟨c2, f2, e2⟩ := own_type HOV.out.roots hx
      rw [e1] at e2
      injection e2 with e2
      injection e2 with _ e3 _
      exact absurd e3 (by decide)) (fun i v hv e => HOV.out.apart i v x hv e hx))
  obtain ⟨m, hm⟩ : ∃ m, k + cntNs g.nodes = m := ⟨_, rfl⟩
  have HM : Hid (k + cntNs g.nodes = m) := hm
  have hmb : m ≤ 5000000 := by have h1 := HCN.out; have h2 := HK1.out; omega
  rw [hm]
  have cM := markX_any w1 lo _ g.roots.length _ m HRR.out (by have := HTT.out; omega) (by omega)
  clear cN hR hK hF hbox q0 hm
  go_wp2_with fail
  refine cM.mono ?_
  rintro e w2 ⟨rfl, hrow, hgr⟩
  have hne : ∀ x, (Value.slice ra rn rc).ownBlock = some x → (Value.slice na nn nc).ownBlock ≠ some x := fun x hx e => by
    obtain ⟨c1, f1, e1⟩ := own_type HR.out e
    obtain ⟨c2, f2, e2⟩ := own_type HRR.out hx
    rw [e1] at e2
    injection e2 with e2
    injection e2 with _ e3 _
    exact absurd e3 (by decide)
  have HG : Hid (GOwn lo w2 (.slice na nn nc) (.slice ra rn rc) (markGr k g) vs) := by
    refine ⟨?_, ?_, ?_, HO.out.apart⟩
    · show w2.ownsRow lo 70 4 _ (markNs k g.nodes).length (cellsN (markNs k g.nodes) vs)
      rw [markNs_len]
      exact g_row_block HR.out (fun x hx => hgr.block x (HR.out.lt x hx).2 (fun e => hne x e.symm hx))
    · exact HK.out.block (fun i v x hv hx => hgr.block x (HK.out.lt hv hx).2 (fun e => HO.out.apart i v x hv hx e.symm))
    · show w2.ownsRow lo 3 1 _ (mkN (k + cntNs g.nodes) g.roots.length).length (ilV (mkN (k + cntNs g.nodes) g.roots.length))
      rw [mkN_len, HM.out]
      exact hrow
  have HFG : Hid (FrG w lo (.slice na nn nc) (.slice ra rn rc) vs w2) := by
    have hb01 : Below lo w w1 := (HB0.out.mono HLO.out).trans HF.out.below
    refine ⟨hb01.trans ⟨hgr.os, hgr.tape, hgr.output, hgr.size, fun i hi => hgr.block i (Nat.lt_of_lt_of_le hi (Nat.le_trans HLO.out hb01.size)) (fun e => ?_)⟩, fun b h1 h2 h3 h4 => ?_⟩
    · have := (HRR.out.lt i e.symm).1
      omega
    · exact (hgr.block b (Nat.lt_of_lt_of_le h1 hb01.size) (fun e => h4 e.symm)).trans ((HF.out.blk b (Nat.lt_of_lt_of_le h1 HB0.out.size) h2 h3).trans (HB0.out.block b h1))
  have HCG : Hid (m + g.roots.length = k + cntGr g) := by show _ = _; unfold cntGr; rw [← HM.out]; omega
  clear hne hrow hgr cM q1
  go_wp2_with fail
  go_ret
  exact ⟨congrArg (fun z => Ending.returned (.int .i64 z)) (show (m : Int) + (g.roots.length : Int) = ((k + cntGr g : Nat) : Int) by have := HCG.out; omega), HG.out, HFG.out⟩
end Go.Proofs.Ytkdlakcmhdiojaa

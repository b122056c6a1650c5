/- Marking what a list of pages owns, and finding the marks again. -/
import Derived.Test.YtlifedkieeogdagFrm
namespace Go.Proofs.Ytlifedkieeogdag
open Go.Maps Go.RowKit Go.Deep
theorem addN (g j : Nat) : (⟨g, 0, none⟩ : Addr).add j = ⟨g, j, none⟩ := by unfold Addr.add; split <;> simp_all
def marks (k : Int) (n : Nat) : List Int := (List.range n).map (fun i : Nat => (k + (i : Int)) % 256)
theorem marks_len (k : Int) (n : Nat) : (marks k n).length = n := by simp [marks]
theorem marks_getD (k : Int) (n i : Nat) (h : i < n) : (marks k n).getD i 0 = (k + i) % 256 := by simp [marks, h]
theorem own_set {w : World} {lo t size g n cap : Nat} {xs : List Value} (h : w.ownsRow lo t size (.slice (some ⟨g, 0, none⟩) n cap) n xs) (j : Nat) (u : Value) (hj : j < xs.length) :
    (w.setCell ⟨g, j, none⟩ u).ownsRow lo t size (.slice (some ⟨g, 0, none⟩) n cap) n (xs.set j u) := by
  refine ⟨by simpa using h.1, ?_⟩
  rcases h.2 with ⟨e, _⟩ | ⟨g', cap', cur, e, hb, hg, hn, hm, hs, ht⟩
  · cases e
  · injection e with e1 e2 e3
    injection e1 with e1
    injection e1 with e1
    subst e1
    subst e3
    refine .inr ⟨g, cap, cur.setIfInBounds j u, rfl, hb, by simp [World.setCell, Array.getElem?_modify, hg], hn, hm, by simpa using hs, ?_⟩
    rw [← ht]
    apply List.ext_getElem?
    intro i
    rw [List.getElem?_set, List.getElem?_take, Array.toList_setIfInBounds, List.getElem?_set]
    have hl : xs.length = n * size := h.1
    have hcl : n * size ≤ cur.size := by rw [hs]; exact Nat.mul_le_mul_right _ hn
    by_cases e : j = i
    · subst e
      rw [if_pos (by omega), if_pos rfl, if_pos rfl]
      simp only [Array.length_toList, List.length_take]
      rw [if_pos (by omega), if_pos (by omega)]
    · rw [if_neg e, if_neg e, List.getElem?_take]
theorem marks_succ (k : Int) (j : Nat) : marks k (j + 1) = marks k j ++ [(k + j) % 256] := by simp [marks, List.range_succ]
theorem marks_step {k : Int} {zs : List Int} {j : Nat} (h : j < zs.length) : (u8s (marks k j ++ zs.drop j)).set j (.int .u8 ((k + j) % 256)) = u8s (marks k (j + 1) ++ zs.drop (j + 1)) := by
  have e : zs.drop j = zs[j] :: zs.drop (j + 1) := List.drop_eq_getElem_cons h
  rw [e, marks_succ]
  unfold u8s
  rw [List.map_append, List.map_cons, List.set_append_right _ _ (by simp [marks])]
  simp [marks]
set_option maxHeartbeats 2000000 in
theorem markB_ (w : World) (lo : Nat) (v : Value) (zs : List Int) (k : Int) (hO : w.ownsRow lo 5 1 v zs.length (u8s zs)) (hz : zs.length ≤ 1048576) (k0 : 0 ≤ k) (k1 : k ≤ 10000000) :
    Calls Try.prog 22 #[v, .int .i64 k] w fun e w' => e = .returned (.int .i64 (k + zs.length)) ∧ w'.ownsRow lo 5 1 v (marks k zs.length).length (u8s (marks k zs.length)) ∧ w.grownBy w' v.ownBlock := by
  by_cases h0 : zs = []
  · subst h0
    obtain ⟨a, c, rfl⟩ : ∃ a c, v = .slice a 0 c := by
      rcases hO.2 with ⟨e, _⟩ | ⟨g, cap, cur, e, _⟩
      · exact ⟨_, _, e⟩
      · exact ⟨_, _, e⟩
    have HO : Hid (w.ownsRow lo 5 1 (.slice a 0 c) 0 []) := hO
    clear hO
    go_enter Try.func22, Try.ntmps22
    go_wp2_with fail
    refine wp_loop_rounds 1 ?_
    rw [rounds_succ]
    go_wp2_with fail
    go_ret
    exact ⟨by simp, HO.out, ⟨rfl, rfl, rfl, Nat.le_refl _, fun _ _ _ => rfl⟩⟩
  · have hpos : 0 < zs.length := List.length_pos_iff.2 h0
    obtain ⟨g, cap, rfl, hg, hgl⟩ := World.ownsRow.form hO hpos
    have HO : Hid (w.ownsRow lo 5 1 (.slice (some ⟨g, 0, none⟩) zs.length cap) zs.length (u8s zs)) := hO
    clear hO h0
    go_enter Try.func22, Try.ntmps22
    go_wp2_with fail
    go_loopw [1, 5] (fun kk i wr => ∃ (j : Nat), j ≤ zs.length ∧ i = .int .i64 j ∧ kk = .int .i64 (k + j) ∧ Hid (wr.ownsRow lo 5 1 (.slice (some ⟨g, 0, none⟩) zs.length cap) zs.length (u8s (marks k j ++ zs.drop j))) ∧ w.grownBy wr (some g)) (fun _ i _ => zs.length - (intOf i).toNat)
    case atStart => exact ⟨0, Nat.zero_le _, rfl, by simp, by show World.ownsRow _ _ _ _ _ _ _; simpa [marks] using HO.out, ⟨rfl, rfl, rfl, Nat.le_refl _, fun _ _ _ => rfl⟩⟩
    case round =>
      obtain ⟨j, hj, rfl, rfl, HR, hgr⟩ := hrel
      by_cases hlt : j < zs.length
      · have hlt' : (j : Int) < (zs.length : Int) := by omega
        have hlen : (u8s (marks k j ++ zs.drop j)).length = zs.length := by simp [u8s, marks]; omega
        have hc0 := HR.out.cells (g := g) rfl j ((u8s (marks k j ++ zs.drop j))[j]'(by omega)) (by simp)
        have hadd : (⟨g, 0, none⟩ : Addr).add j = ⟨g, j, none⟩ := by unfold Addr.add; split <;> simp_all
        rw [hadd] at hc0
        obtain ⟨zc, hcd⟩ : ∃ zc, wr.cell? ⟨g, j, none⟩ = some zc := ⟨_, hc0⟩
        have hfd : wr.frozen? ⟨g, j, none⟩ = false := by
          rcases HR.out.2 with ⟨e, _⟩ | ⟨g', cap', cur, e, _, hgg, _⟩
          · cases e
          · injection e with e1 _ _
            injection e1 with e1
            injection e1 with e1
            subst e1
            simp [World.frozen?, hgg]
        clear hc0 hadd
        go_wp2_with fail
        go_roundw
        case rel =>
          refine ⟨j + 1, hlt, by go_num, by congr 1; omega, ?_, ?_⟩
          · have := own_set HR.out j (.int .u8 ((k + j) % 256)) (by omega)
            rw [marks_step hlt] at this
            exact this
          · exact ⟨hgr.os, hgr.tape, hgr.output, by simp [World.setCell]; exact hgr.size, fun i hi hne => by rw [Below.heap_setCell _ _ _ _ (fun e => hne (by rw [e]))]; exact hgr.block i hi hne⟩
        case measure => simp [intOf]; omega
      · go_wp2_with fail
        go_ret
        have ej : j = zs.length := by omega
        have := HR.out
        rw [ej, List.drop_length, List.append_nil] at this
        refine ⟨by rw [ej]; rfl, by rw [marks_len]; exact this, hgr⟩
set_option maxHeartbeats 2000000 in
theorem heldB_ (w : World) (B : Nat) (v : Value) (n : Nat) (k : Int) (hS : Sl B w v (marks k n)) (hz : n ≤ 1048576) (k0 : 0 ≤ k) (k1 : k ≤ 10000000) :
    Calls Try.prog 25 #[v, .int .i64 k] w fun e w' => e = .returned (.int .i64 (k + n)) ∧ w' = w := by
  have hml := marks_len k n
  rcases hS with ⟨h0, a, c, rfl⟩ | ⟨hne, b, off, c, rfl, hlt, hlc, hc⟩
  · obtain rfl : n = 0 := by rw [← hml, h0]; rfl
    clear hml h0
    go_enter Try.func25, Try.ntmps25
    go_wp2_with fail
    refine wp_loop_rounds 1 ?_
    rw [rounds_succ]
    go_wp2_with fail
    go_ret
    exact ⟨by simp, rfl⟩
  · rw [hml] at hc hlc ⊢
    have HC : Hid (∀ i, i < n → w.cell? ⟨b, off + i, none⟩ = some (.int .u8 ((k + i) % 256))) := fun i hi => by rw [hc i hi, marks_getD k n i hi]
    clear hc hne hml
    go_enter Try.func25, Try.ntmps25
    go_wp2_with fail
    go_loop [1, 5] (fun kk i => ∃ (j : Nat), j ≤ n ∧ i = .int .i64 j ∧ kk = .int .i64 (k + j)) (fun _ i => n - (intOf i).toNat)
    case atStart => exact ⟨0, Nat.zero_le _, rfl, by simp⟩
    case round =>
      obtain ⟨j, hj, rfl, rfl⟩ := hrel
      by_cases hlt : j < n
      · have hlt' : (j : Int) < (n : Int) := by omega
        have hcd := HC.out j hlt
        go_wp2_with fail
        go_round
        case rel => exact ⟨j + 1, hlt, by go_num, by congr 1; omega⟩
        case measure => simp [intOf]; omega
      · have ej : j = n := by omega
        subst ej
        go_wp2_with fail
        go_ret
        exact ⟨rfl, rfl⟩
def markQ : Int → List Pg → List Pg
  | _, [] => []
  | k, q :: qs => (k, marks (k + 1) q.2.length) :: markQ (k + 1 + q.2.length) qs
def tlen : List Pg → Nat
  | [] => 0
  | q :: qs => q.2.length + 1 + tlen qs
theorem tlen_app : ∀ (qs qs' : List Pg), tlen (qs ++ qs') = tlen qs + tlen qs'
  | [], qs' => by simp [tlen]
  | q :: qs, qs' => by
    have := tlen_app qs qs'
    simp only [List.cons_append, tlen, this]
    omega
theorem tlen_take {qs : List Pg} {k : Nat} {q : Pg} (h : qs[k]? = some q) : tlen (qs.take (k + 1)) = tlen (qs.take k) + (q.2.length + 1) := by
  rw [List.take_add_one, h, tlen_app]
  rfl
theorem tlen_le (qs : List Pg) (k : Nat) : tlen (qs.take k) ≤ tlen qs := by
  have := tlen_app (qs.take k) (qs.drop k)
  rw [List.take_append_drop] at this
  omega
theorem tlen_mem : ∀ {qs : List Pg} {q : Pg}, q ∈ qs → q.2.length + 1 ≤ tlen qs
  | x :: qs, q, h => by
    rcases List.mem_cons.1 h with rfl | h
    · simp only [tlen]; omega
    · have := tlen_mem h
      simp only [tlen]; omega
theorem markQ_len : ∀ (k : Int) (qs : List Pg), (markQ k qs).length = qs.length
  | _, [] => rfl
  | k, q :: qs => by simp [markQ, markQ_len _ qs]
theorem markQ_app : ∀ (k : Int) (qs : List Pg) (q : Pg), markQ k (qs ++ [q]) = markQ k qs ++ [(k + tlen qs, marks (k + tlen qs + 1) q.2.length)]
  | k, [], q => by simp [markQ, tlen]
  | k, x :: qs, q => by
    have := markQ_app (k + 1 + x.2.length) qs q
    simp only [List.cons_append, markQ, this, tlen]
    have e : k + 1 + (x.2.length : Int) + (tlen qs : Int) = k + ((x.2.length + 1 + tlen qs : Nat) : Int) := by omega
    rw [e]
theorem markQ_nth {k : Int} {qs : List Pg} {i : Nat} {q : Pg} (h : qs[i]? = some q) : (markQ k qs)[i]? = some (k + tlen (qs.take i), marks (k + tlen (qs.take i) + 1) q.2.length) := by
  induction qs generalizing k i with
  | nil => simp at h
  | cons x qs ih =>
    cases i with
    | zero =>
      obtain rfl : x = q := by simpa using h
      simp [markQ, tlen]
    | succ i =>
      have := ih (k := k + 1 + x.2.length) (by simpa using h)
      simp only [markQ, List.getElem?_cons_succ, this, List.take_succ_cons, tlen]
      have e : k + 1 + (x.2.length : Int) + (tlen (qs.take i) : Int) = k + ((x.2.length + 1 + tlen (qs.take i) : Nat) : Int) := by omega
      rw [e]
/-- Marked up to i. -/
def mix (k : Int) (qs : List Pg) (i : Nat) : List Pg := markQ k (qs.take i) ++ qs.drop i
theorem DO.split {lo : Nat} {w : World} : ∀ {ps : List Pv} {ql : List Pg} {q : Pg} {qr : List Pg}, DO lo w ps (ql ++ q :: qr) → ∃ l p r, ps = l ++ p :: r ∧ l.length = ql.length ∧ DO lo w l ql ∧ p.1 = q.1 ∧ w.ownsRow lo 5 1 p.2 q.2.length (u8s q.2) ∧ DO lo w r qr
  | [], [], _, _, h => h.elim
  | p :: ps, [], q, qr, h => ⟨[], p, ps, rfl, rfl, trivial, h.1, h.2.1, h.2.2⟩
  | [], _ :: _, _, _, h => h.elim
  | p :: ps, _ :: ql, q, qr, h => by
    obtain ⟨l, p', r, e, hl, h1, h2⟩ := DO.split (ps := ps) (ql := ql) h.2.2
    exact ⟨p :: l, p', r, by rw [e]; rfl, by simp [hl], ⟨h.1, h.2.1, h1⟩, h2⟩
theorem DO.join {lo : Nat} {w : World} : ∀ {l : List Pv} {ql : List Pg} {p : Pv} {q : Pg} {r : List Pv} {qr : List Pg}, DO lo w l ql → p.1 = q.1 → w.ownsRow lo 5 1 p.2 q.2.length (u8s q.2) → DO lo w r qr → DO lo w (l ++ p :: r) (ql ++ q :: qr)
  | [], [], _, _, _, _, _, e, h, h2 => ⟨e, h, h2⟩
  | _ :: _, _ :: _, _, _, _, _, h, e, h1, h2 => ⟨h.1, h.2.1, DO.join h.2.2 e h1 h2⟩
  | [], _ :: _, _, _, _, _, h, _, _, _ => h.elim
  | _ :: _, [], _, _, _, _, h, _, _, _ => h.elim
theorem cellsP_app (l r : List Pv) : cellsP (l ++ r) = cellsP l ++ cellsP r := by simp [cellsP]
theorem cellsP_set {l r : List Pv} {x y : Int} {d : Value} : (cellsP (l ++ (x, d) :: r)).set (l.length * 2) (.int .i64 y) = cellsP (l ++ (y, d) :: r) := by
  rw [cellsP_app, cellsP_app, List.set_append_right _ _ (by rw [cellsP_len]; exact Nat.le_refl _)]
  have e : l.length * 2 - (cellsP l).length = 0 := by rw [cellsP_len]; omega
  rw [e]
  rfl
theorem Apart.num {v : Value} {l r : List Pv} {x y : Int} {d : Value} (h : Apart v (l ++ (x, d) :: r)) : Apart v (l ++ (y, d) :: r) := by
  obtain ⟨h1, h2⟩ := h
  refine ⟨fun p hp => ?_, ?_⟩
  · rcases List.mem_append.1 hp with hp | hp
    · exact h1 p (List.mem_append.2 (.inl hp))
    · rcases List.mem_cons.1 hp with rfl | hp
      · exact h1 (x, d) (by simp)
      · exact h1 p (List.mem_append.2 (.inr (List.mem_cons_of_mem _ hp)))
  · rw [List.pairwise_append, List.pairwise_cons] at h2 ⊢
    obtain ⟨a, ⟨b, c⟩, e⟩ := h2
    refine ⟨a, ⟨b, c⟩, fun p hp q hq => ?_⟩
    rcases List.mem_cons.1 hq with rfl | hq
    · exact e p hp (x, d) (by simp)
    · exact e p hp q (List.mem_cons_of_mem _ hq)
theorem mix_at {k : Int} {qs : List Pg} {i : Nat} {q : Pg} (h : qs[i]? = some q) : mix k qs i = markQ k (qs.take i) ++ q :: qs.drop (i + 1) := by
  unfold mix
  have hi : i < qs.length := by
    rcases Nat.lt_or_ge i qs.length with h' | h'
    · exact h'
    · rw [List.getElem?_eq_none h'] at h; cases h
  rw [List.drop_eq_getElem_cons hi]
  rw [List.getElem?_eq_getElem hi] at h
  injection h with h
  rw [h]
theorem mix_succ {k : Int} {qs : List Pg} {i : Nat} {q : Pg} (h : qs[i]? = some q) : mix k qs (i + 1) = markQ k (qs.take i) ++ (k + tlen (qs.take i), marks (k + tlen (qs.take i) + 1) q.2.length) :: qs.drop (i + 1) := by
  unfold mix
  rw [List.take_add_one, h]
  show markQ k (qs.take i ++ [q]) ++ _ = _
  rw [markQ_app, List.append_assoc]
  rfl
theorem tlen_len : ∀ qs : List Pg, qs.length ≤ tlen qs
  | [] => Nat.le_refl _
  | q :: qs => by
    have := tlen_len qs
    simp only [List.length_cons, tlen]
    omega
def MkPost (lo : Nat) (v : Value) (k : Int) (qs : List Pg) (w : World) (e : Ending) (w' : World) : Prop :=
  e = .returned (.int .i64 (k + tlen qs)) ∧ Own lo w' v (markQ k qs) ∧ Below lo w w'
set_option maxHeartbeats 4000000 in
theorem markPs_ (w : World) (lo : Nat) (v : Value) (qs : List Pg) (k : Int) (hO : Own lo w v qs) (ht : tlen qs ≤ 2000000) (k0 : 0 ≤ k) (k1 : k ≤ 100) (hlo : lo ≤ w.heap.size) (hz : ∀ q ∈ qs, q.2.length ≤ 1048576) :
    Calls Try.prog 34 #[v, .int .i64 k] w fun e w' => MkPost lo v k qs w e w' := by
  by_cases h0 : qs = []
  · subst h0
    obtain ⟨a, c, rfl⟩ := hO.rdp.sl
    have HO : Hid (Own lo w (.slice a 0 c) []) := hO
    clear hO
    go_enter Try.func34, Try.ntmps34
    go_wp2_with fail
    refine wp_loop_rounds 1 ?_
    rw [rounds_succ]
    go_wp2_with fail
    go_ret
    exact ⟨by simp [tlen], HO.out, Below.refl _ _⟩
  · obtain ⟨ps0, hp0, hd0, ha0⟩ := hO
    have hpos : 0 < ps0.length := by rw [hd0.len]; exact List.length_pos_iff.2 h0
    obtain ⟨g, cap, rfl, hg, hgl⟩ := World.ownsRow.form hp0 hpos
    have hl0 : ps0.length = qs.length := hd0.len
    rw [hl0] at hp0 ha0 ⊢
    have HS : Hid (w.ownsRow lo 51 2 (.slice (some ⟨g, 0, none⟩) qs.length cap) qs.length (cellsP ps0) ∧ DO lo w ps0 (mix k qs 0) ∧ Apart (.slice (some ⟨g, 0, none⟩) qs.length cap) ps0) := ⟨hp0, by simpa [mix, markQ] using hd0, ha0⟩
    have hll := tlen_len qs
    have HZ : Hid (∀ q ∈ qs, q.2.length ≤ 1048576) := hz
    clear hp0 hd0 ha0 hl0 hpos h0 hz
    go_enter Try.func34, Try.ntmps34
    go_wp2_with fail
    go_loopw [1, 5] (fun kk ii wr => ∃ (i : Nat) (ps : List Pv), i ≤ qs.length ∧ ii = .int .i64 i ∧ kk = .int .i64 (k + tlen (qs.take i)) ∧
      Hid (wr.ownsRow lo 51 2 (.slice (some ⟨g, 0, none⟩) qs.length cap) qs.length (cellsP ps) ∧ DO lo wr ps (mix k qs i) ∧ Apart (.slice (some ⟨g, 0, none⟩) qs.length cap) ps) ∧ Below lo w wr) (fun _ ii _ => qs.length - (intOf ii).toNat)
    case atStart => exact ⟨0, ps0, Nat.zero_le _, rfl, by simp [tlen], HS.out, Below.refl _ _⟩
    case round =>
      obtain ⟨i, ps, hi, rfl, rfl, HR, hb⟩ := hrel
      by_cases hlt : i < qs.length
      · obtain ⟨q, hq⟩ : ∃ q, qs[i]? = some q := ⟨_, List.getElem?_eq_getElem hlt⟩
        obtain ⟨r1, r2, r3⟩ := HR.out
        rw [mix_at hq] at r2
        obtain ⟨l, ⟨x, d⟩, r, rfl, hll2, hdl, hx, hdo, hdr⟩ := r2.split
        have hli : l.length = i := by rw [hll2, markQ_len, List.length_take]; omega
        have htl : tlen (qs.take i) ≤ 2000000 := Nat.le_trans (tlen_le qs i) ht
        have hzl := HZ.out q (List.mem_of_getElem? hq)
        have hlt' : (i : Int) < (qs.length : Int) := by omega
        generalize hkk : k + (tlen (qs.take i) : Int) = kk at *
        have hkk0 : 0 ≤ kk := by omega
        have hkk1 : kk ≤ 3000000 := by omega
        -- the page's number
        have hcl : (cellsP (l ++ (x, d) :: r)).length = qs.length * 2 := by rw [r1.1]
        have r1' : (wr.setCell ⟨g, i * 2, none⟩ (.int .i64 kk)).ownsRow lo 51 2 (.slice (some ⟨g, 0, none⟩) qs.length cap) qs.length (cellsP (l ++ (kk, d) :: r)) := by
          have := own_set r1 (i * 2) (.int .i64 kk) (by omega)
          rw [← hli, cellsP_set, hli] at this
          exact this
        have hfar := r3.row
        have hgA : wr.grownBy (wr.setCell ⟨g, i * 2, none⟩ (.int .i64 kk)) (some g) := ⟨rfl, rfl, rfl, by simp [World.setCell], fun j _ hj => Below.heap_setCell _ _ _ _ (fun e => hj (by rw [e]))⟩
        have notg : ∀ p ∈ l ++ (x, d) :: r, p.2.ownBlock = none ∨ p.2.ownBlock ≠ some g := fun p hp => by
          cases e : p.2.ownBlock with
          | none => exact .inl rfl
          | some bb => exact .inr (fun e2 => by injection e2 with e2; subst e2; exact hfar p hp _ e rfl)
        have hdlA := hdl.kept hgA (fun p hp => notg p (by simp [hp]))
        have hdrA := hdr.kept hgA (fun p hp => notg p (by simp [hp]))
        have hdoA := hdo.kept hgA (notg (x, d) (by simp))
        have r3' : Apart (.slice (some ⟨g, 0, none⟩) qs.length cap) (l ++ (kk, d) :: r) := r3.num
        have hBA : Below lo w (wr.setCell ⟨g, i * 2, none⟩ (.int .i64 kk)) := hb.setCell hg _
        have cx : wr.cell? ⟨g, i * 2, none⟩ = some (.int .i64 x) := by
          have := r1.cells (g := g) rfl (i * 2) (.int .i64 x) (cellsP_at (ps := l ++ (x, d) :: r) (i := i) (p := (x, d)) (by rw [← hli]; simp)).1
          rwa [addN] at this
        have cd : (wr.setCell ⟨g, i * 2, none⟩ (.int .i64 kk)).cell? ⟨g, i * 2 + 1, none⟩ = some d := by
          have := r1'.cells (g := g) rfl (i * 2 + 1) d (cellsP_at (ps := l ++ (kk, d) :: r) (i := i) (p := (kk, d)) (by rw [← hli]; simp)).2
          rwa [addN] at this
        have fx : wr.frozen? ⟨g, i * 2, none⟩ = false := by
          rcases r1.2 with ⟨e, _⟩ | ⟨g', cap', cur, e, _, hgg, _⟩
          · cases e
          · injection e with e1 _ _
            injection e1 with e1
            injection e1 with e1
            subst e1
            simp [World.frozen?, hgg]
        obtain ⟨d0, d1, d2, rfl⟩ : isSl d := by
          rcases hdo.2 with ⟨e, _⟩ | ⟨g, cap, cur, e, _⟩
          · exact ⟨_, _, _, e⟩
          · exact ⟨_, _, _, e⟩
        have hM := markB_ _ lo _ q.2 (kk + 1) hdoA hzl (by omega) (by omega)
        have HQ : Hid (qs[i]? = some q) := hq
        have HKK : Hid (k + (tlen (qs.take i) : Int) = kk) := hkk
        have H1 : Hid _ := r1'
        have H3 : Hid (Apart (.slice (some ⟨g, 0, none⟩) qs.length cap) (l ++ (kk, Value.slice d0 d1 d2) :: r)) := r3'
        have HL : Hid (DO lo (wr.setCell ⟨g, i * 2, none⟩ (.int .i64 kk)) l (markQ k (qs.take i))) := hdlA
        have HRr : Hid (DO lo (wr.setCell ⟨g, i * 2, none⟩ (.int .i64 kk)) r (qs.drop (i + 1))) := hdrA
        clear hq hkk r1 r2 r3 r1' r3' hdl hdr hdo hdlA hdrA hdoA hfar hgA notg HR hx hll2
        go_wp2_with fail
        refine hM.mono ?_
        rintro e w1 ⟨rfl, hown1, hgr1⟩
        have hszA : lo ≤ (wr.setCell ⟨g, i * 2, none⟩ (.int .i64 kk)).heap.size := Nat.le_trans hlo hBA.size
        have hB1 : Below lo w w1 := hBA.grown hgr1 hszA (fun j hj => by
          have hr := hown1
          rcases hr.2 with ⟨e, _⟩ | ⟨g', cap', cur, e, hb', _⟩
          · rw [e] at hj; cases hj
          · rw [e] at hj; cases hj; exact hb')
        have notd : ∀ p ∈ l ++ r, p.2.ownBlock = none ∨ p.2.ownBlock ≠ (Value.slice d0 d1 d2).ownBlock := fun p hp => by
          cases e : p.2.ownBlock with
          | none => exact .inl rfl
          | some bb =>
            right
            intro e2
            have hpw := H3.out.each
            rw [List.pairwise_append, List.pairwise_cons] at hpw
            obtain ⟨_, ⟨hb1, _⟩, hb2⟩ := hpw
            rcases List.mem_append.1 hp with hp | hp
            · exact hb2 p hp (kk, .slice d0 d1 d2) (by simp) bb e e2.symm
            · exact hb1 p hp bb e2.symm e
        have N : Hid (w1.ownsRow lo 51 2 (.slice (some ⟨g, 0, none⟩) qs.length cap) qs.length (cellsP (l ++ (kk, .slice d0 d1 d2) :: r)) ∧ DO lo w1 (l ++ (kk, .slice d0 d1 d2) :: r) (mix k qs (i + 1)) ∧ Apart (.slice (some ⟨g, 0, none⟩) qs.length cap) (l ++ (kk, .slice d0 d1 d2) :: r)) := by
          refine ⟨World.ownsRow.kept H1.out hgr1 (.inr (fun e => ?_)), ?_, H3.out⟩
          · exact H3.out.row (kk, .slice d0 d1 d2) (by simp) g e.symm rfl
          · rw [mix_succ HQ.out, HKK.out]
            exact (HL.out.kept hgr1 (fun p hp => notd p (by simp [hp]))).join rfl hown1 (HRr.out.kept hgr1 (fun p hp => notd p (by simp [hp])))
        have hts : k + (tlen (qs.take (i + 1)) : Int) = kk + 1 + (q.2.length : Int) := by
          have h1 := tlen_take HQ.out
          have h2 := HKK.out
          omega
        have HTS : Hid _ := hts
        clear hM hown1 hgr1 notd hts
        go_wp2_with fail
        go_roundw
        case rel => exact ⟨i + 1, _, hlt, by go_num, by rw [HTS.out], N, hB1⟩
        case measure => simp [intOf]; omega
      · have ei : i = qs.length := by omega
        subst ei
        go_wp2_with fail
        go_ret
        obtain ⟨r1, r2, r3⟩ := HR.out
        unfold mix at r2
        rw [List.take_length, List.drop_length, List.append_nil] at r2
        have hpl : ps.length = qs.length := by rw [r2.len, markQ_len]
        refine ⟨by rw [List.take_length]; rfl, ⟨ps, ?_, r2, r3⟩, hb⟩
        rw [hpl]
        exact r1
set_option maxHeartbeats 1000000 in
theorem markS_ (w : World) (lo : Nat) (a b : Int) (v : Value) (qs : List Pg) (k : Int) (hO : Own lo w v qs) (ht : tlen qs ≤ 2000000) (k0 : 0 ≤ k) (k1 : k ≤ 100) (hlo : lo ≤ w.heap.size) (hz : ∀ q ∈ qs, q.2.length ≤ 1048576) :
    Calls Try.prog 16 #[.agg #[.int .i64 a, v, .int .i64 b], .int .i64 k] w fun e w' => MkPost lo v k qs w e w' := by
  have hBa : Below lo w (w.alloc (.cells #[.int .i64 a, v, .int .i64 b] 29)) := (Below.refl _ _).alloc hlo _
  have hM := markPs_ _ lo v qs k (hO.block (w' := w.alloc (.cells #[.int .i64 a, v, .int .i64 b] 29)) (fun j _ hj => Below.heap_alloc _ _ _ hj)) ht k0 k1 (Nat.le_trans hlo hBa.size) hz
  obtain ⟨v0, v1, v2, rfl⟩ := hO.sl
  have HB : Hid (Below lo w (w.alloc (.cells #[.int .i64 a, .slice v0 v1 v2, .int .i64 b] 29))) := hBa
  clear hO hBa hz
  go_enter Try.func16, Try.ntmps16
  go_wp2_with fail
  refine hM.mono ?_
  rintro e w1 ⟨rfl, hO1, hb1⟩
  have HO : Hid (Own lo w1 (.slice v0 v1 v2) (markQ k qs)) := hO1
  have HB1 : Hid (Below lo w w1) := HB.out.trans hb1
  clear hO1 hb1 hM
  go_wp2_with fail
  go_ret
  exact ⟨rfl, HO.out, HB1.out⟩
set_option maxHeartbeats 4000000 in
theorem heldPs_ (w : World) (v : Value) (qs : List Pg) (k : Int) (hV : Rdp w v (markQ k qs)) (ht : tlen qs ≤ 2000000) (k0 : 0 ≤ k) (k1 : k ≤ 100) (hz : ∀ q ∈ qs, q.2.length ≤ 1048576) :
    Calls Try.prog 35 #[v, .int .i64 k] w fun e w' => e = .returned (.int .i64 (k + tlen qs)) ∧ w' = w := by
  obtain ⟨a, c, rfl⟩ := hV.sl
  have hll := tlen_len qs
  have HV : Hid (Rdp w (.slice a (markQ k qs).length c) (markQ k qs)) := hV
  have HZ : Hid (∀ q ∈ qs, q.2.length ≤ 1048576) := hz
  clear hV hz
  have hml : (markQ k qs).length = qs.length := markQ_len k qs
  rw [hml] at HV ⊢
  clear hml
  go_enter Try.func35, Try.ntmps35
  go_wp2_with fail
  go_loop [1, 5] (fun kk ii => ∃ (i : Nat), i ≤ qs.length ∧ ii = .int .i64 i ∧ kk = .int .i64 (k + tlen (qs.take i))) (fun _ ii => qs.length - (intOf ii).toNat)
  case atStart => exact ⟨0, Nat.zero_le _, rfl, by simp [tlen]⟩
  case round =>
    obtain ⟨i, hi, rfl, rfl⟩ := hrel
    by_cases hlt : i < qs.length
    · obtain ⟨q, hq⟩ : ∃ q, qs[i]? = some q := ⟨_, List.getElem?_eq_getElem hlt⟩
      have hmq := markQ_nth (k := k) hq
      obtain ⟨ps, hP, hQ⟩ := HV.out
      obtain ⟨⟨x, d⟩, hp⟩ : ∃ p, ps[i]? = some p := ⟨_, List.getElem?_eq_getElem (by rw [hQ.len, markQ_len]; exact hlt)⟩
      obtain ⟨ex, hsl⟩ := PQ.nth hQ hp hmq
      have hne : ps ≠ [] := fun e => by rw [e] at hp; simp at hp
      have htl : tlen (qs.take i) ≤ 2000000 := Nat.le_trans (tlen_le qs i) ht
      have hzl := HZ.out q (List.mem_of_getElem? hq)
      have hlt' : (i : Int) < (qs.length : Int) := by omega
      have hts : k + (tlen (qs.take (i + 1)) : Int) = k + (tlen (qs.take i) : Int) + 1 + (q.2.length : Int) := by
        have h1 := tlen_take hq
        omega
      have HTS : Hid _ := hts
      clear hts
      obtain rfl : x = k + (tlen (qs.take i) : Int) := ex
      obtain ⟨b, off, rfl, c1, c2⟩ : ∃ b off, a = some ⟨b, off, none⟩ ∧ w.cell? ⟨b, off + i * 2, none⟩ = some (.int .i64 (k + (tlen (qs.take i) : Int))) ∧ w.cell? ⟨b, off + i * 2 + 1, none⟩ = some d := by
        rcases hP with ⟨e, _⟩ | ⟨_, b, off, _, e, hbl, _, hcell⟩
        · exact absurd e hne
        · injection e with e
          exact ⟨b, off, e, (hcell i _ hp).1, (hcell i _ hp).2⟩
      have hH := heldB_ w _ d q.2.length _ hsl hzl (by omega) (by omega)
      obtain ⟨da, dc, rfl⟩ := sl_len hsl
      have hk2 : ¬ k + (tlen (qs.take i) : Int) + 1 + (q.2.length : Int) < 0 := by omega
      have hk3 : k + (tlen (qs.take i) : Int) ≤ 3000000 := by omega
      have hk4 : 0 ≤ k + (tlen (qs.take i) : Int) := by omega
      generalize k + (tlen (qs.take i) : Int) = kk at *
      clear hP hQ hp hsl hne hmq hq
      go_wp2_with fail
      refine hH.mono ?_
      rintro e w1 ⟨rfl, rfl⟩
      go_wp2_with fail
      go_round
      case rel => exact ⟨i + 1, hlt, by go_num, by rw [HTS.out]⟩
      case measure => simp [intOf]; omega
    · have ei : i = qs.length := by omega
      subst ei
      go_wp2_with fail
      go_ret
      exact ⟨rfl, rfl⟩
set_option maxHeartbeats 1000000 in
theorem heldS_ (w : World) (a b : Int) (v : Value) (qs : List Pg) (k : Int) (hV : Rdp w v (markQ k qs)) (ht : tlen qs ≤ 2000000) (k0 : 0 ≤ k) (k1 : k ≤ 100) (hz : ∀ q ∈ qs, q.2.length ≤ 1048576) :
    Calls Try.prog 17 #[.agg #[.int .i64 a, v, .int .i64 b], .int .i64 k] w fun e w' => e = .returned (.int .i64 (k + tlen qs)) ∧ Below w.heap.size w w' := by
  have hB : Below w.heap.size w (w.alloc (.cells #[.int .i64 a, v, .int .i64 b] 29)) := (Below.refl _ w).alloc (Nat.le_refl _) _
  have hH := heldPs_ _ v qs k (hV.later hB) ht k0 k1 hz
  obtain ⟨va, vc, rfl⟩ := hV.sl
  have HB : Hid (Below w.heap.size w (w.alloc (.cells #[.int .i64 a, .slice va (markQ k qs).length vc, .int .i64 b] 29))) := hB
  have hk : ¬ k + (tlen qs : Int) < 0 := by omega
  clear hV hB hz
  go_enter Try.func17, Try.ntmps17
  go_wp2_with fail
  refine hH.mono ?_
  rintro e w1 ⟨rfl, rfl⟩
  go_wp2_with fail
  go_ret
  exact ⟨rfl, HB.out⟩
end Go.Proofs.Ytlifedkieeogdag

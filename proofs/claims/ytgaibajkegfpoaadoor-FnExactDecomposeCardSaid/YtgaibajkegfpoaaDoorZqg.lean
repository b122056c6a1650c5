/- Several texts in one: Gkw Gkx. -/
import Derived.Test.YtgaibajkegfpoaaDoorGip
import Derived.Test.YtgaibajkegfpoaaDoorGmq
import Derived.Test.YtgaibajkegfpoaaDoorPsh
import Derived.Test.YtgaibajkegfpoaaDoorZqa
/- Knots: lists of pointers that can be read; the program's web.at. -/
namespace Go.Proofs.YtgaibajkegfpoaaDoor
open Go.ChangeShapes Go.WideShapes Go.ChangeAt Go.RowKit Go.Deep
theorem infoKn : (Tryd.prog.info? 78).map (fun i => (i.zero, i.size, i.bytes)) = some (some (.pointer none), 1, 8) := by kernel_rfl
theorem infoKt : (Tryd.prog.info? 80).map (fun i => i.size) = some 4 := by kernel_rfl
def plV (l : List Nat) : List Value := l.map ptr
theorem plV_len (l : List Nat) : (plV l).length = l.length := by unfold plV; simp
theorem plV_snoc (l : List Nat) (b : Nat) : plV (l ++ [b]) = plV l ++ [ptr b] := by unfold plV; simp
/-- A list of pointers to blocks, that can be read. -/
def PlAt (w : World) (v : Value) (l : List Nat) : Prop :=
  (l = [] ∧ ∃ a c, v = .slice a 0 c) ∨ (l ≠ [] ∧ ∃ b off c, v = .slice (some ⟨b, off, none⟩) l.length c ∧ b < w.heap.size ∧ ∀ (i n : Nat), l[i]? = some n → w.cell? ⟨b, off + i, none⟩ = some (ptr n))
theorem PlAt.sl {w : World} {v : Value} {l : List Nat} (h : PlAt w v l) : ∃ a c, v = .slice a l.length c := by
  rcases h with ⟨rfl, a, c, rfl⟩ | ⟨_, b, off, c, rfl, _⟩
  · exact ⟨a, c, rfl⟩
  · exact ⟨_, c, rfl⟩
theorem PlAt.at {w : World} {a : Option Addr} {c : Nat} {l : List Nat} (h : PlAt w (.slice a l.length c) l) {k n : Nat} (hx : l[k]? = some n) : ∃ b off, a = some ⟨b, off, none⟩ ∧ b < w.heap.size ∧ w.cell? ⟨b, off + k, none⟩ = some (ptr n) := by
  rcases h with ⟨e1, _⟩ | ⟨_, b, off, _, e1, hbl, hcell⟩
  · rw [e1] at hx; simp at hx
  · injection e1 with e1
    exact ⟨b, off, e1, hbl, hcell k n hx⟩
theorem PlAt.later {w w' : World} {v : Value} {l : List Nat} (h : PlAt w v l) (hb : Below w.heap.size w w') : PlAt w' v l := by
  rcases h with h | ⟨h0, b, off, c, e, hlt, hc⟩
  · exact .inl h
  · exact .inr ⟨h0, b, off, c, e, Nat.lt_of_lt_of_le hlt hb.size, fun i n hi => by rw [hb.cell hlt]; exact hc i n hi⟩
theorem pl_of_own {w : World} {lo : Nat} {v : Value} {l : List Nat} (h : w.ownsRow lo 78 1 v l.length (plV l)) : PlAt w v l := by
  by_cases hz : l = []
  · subst hz
    left
    rcases h.2 with ⟨e, _⟩ | ⟨g, cap, cur, e, _⟩
    · exact ⟨rfl, _, _, e⟩
    · exact ⟨rfl, _, _, e⟩
  · right
    have hpos : 0 < l.length := List.length_pos_iff.2 hz
    rcases h.2 with ⟨_, e⟩ | ⟨g, cap, cur, rfl, _, hg, _⟩
    · omega
    · refine ⟨hz, g, 0, cap, rfl, (Array.getElem?_eq_some_iff.1 hg).1, fun i n hi => ?_⟩
      have hx : (plV l)[i]? = some (ptr n) := by unfold plV; rw [List.getElem?_map, hi]; rfl
      have h1 := h.cells (g := g) rfl i _ hx
      have a1 : (⟨g, 0, none⟩ : Addr).add i = ⟨g, i, none⟩ := by unfold Addr.add; split <;> simp_all
      rw [a1] at h1
      rw [Nat.zero_add]
      exact h1
/-- The blocks of nodes told by their places. -/
def blk (Ps : List Nat) (k : Int) : Nat := Ps.getD k.toNat 0
theorem blk_at {Ps : List Nat} {m : Nat} (h : m < Ps.length) : Ps[m]? = some (blk Ps (m : Int)) := by
  unfold blk
  simp [List.getD, List.getElem?_eq_getElem h]
set_option maxHeartbeats 8000000 in
set_option maxRecDepth 100000 in
theorem webAt_any (w : World) (kn rt pv : Value) (Ps : List Nat) (l : List Int) (hK : PlAt w kn Ps) (hP : IlAt w pv l) (hl : l.length ≤ 1048576) (hin : ∀ k ∈ l, 0 ≤ k ∧ k < (Ps.length : Int)) (hpl : Ps.length ≤ 1048576) :
    Calls Tryd.prog 38 #[.agg #[kn, rt], pv] w fun e w' => (∃ v, e = .returned v ∧ isSlG v ∧ w'.ownsRow w.heap.size 78 1 v l.length (plV (l.map (blk Ps)))) ∧ Below w.heap.size w w' := by
  obtain ⟨ka, kc, rfl⟩ := hK.sl
  obtain ⟨pa, pc, rfl⟩ := hP.sl
  have hlI : (l.length : Int) ≤ 1048576 := by omega
  have hpI : (Ps.length : Int) ≤ 1048576 := by omega
  have HIN := hidG hin
  have HLN : Hid (l.length ≤ 1048576) := hl
  obtain ⟨V, hV⟩ : ∃ V, w.alloc (.cells #[.slice ka Ps.length kc, rt] 50) = V := ⟨_, rfl⟩
  have HB0 : Hid (Below w.heap.size w V) := by show Below _ _ _; rw [← hV]; exact al_belowG w _
  have HS : Hid (V.heap.size = w.heap.size + 1) := by show _ = _; rw [← hV]; show (w.heap.push _).size = _; simp
  have HE : Hid (V.heap[w.heap.size]? = some (.cells #[.slice ka Ps.length kc, rt] 50 (0, 0))) := by show _ = _; rw [← hV]; exact heap_alloc_new w _
  have HQ : Hid (∀ wr, Below V.heap.size V wr → wr.cell? ⟨w.heap.size, 0, none⟩ = some (.slice ka Ps.length kc)) := fun wr hb => by
    have := (hb.block w.heap.size (by rw [HS.out]; exact Nat.lt_succ_self _)).trans HE.out
    simp [World.cell?, this]
  have HK : Hid (PlAt V (.slice ka Ps.length kc) Ps) := hK.later HB0.out
  have HP : Hid (IlAt V (.slice pa l.length pc) l) := hP.later HB0.out
  have HV := hidG hV
  have HO0 : Hid (V.ownsRow V.heap.size 78 1 (.slice none 0 0) 0 (plV ((l.map (blk Ps)).take 0))) := ⟨by simp [plV], .inl ⟨rfl, rfl⟩⟩
  clear hK hP hin hl hpl hV
  go_enter Tryd.func38, Tryd.ntmps38
  go_wp2_with fail
  rw [HV.out]
  go_wp2_with fail
  go_loopw [5, 10] (fun ov iv wr => ∃ (k : Nat) (oa : Option Addr) (on oc : Nat), ov = .slice oa on oc ∧ iv = .int .i64 k ∧ k ≤ l.length ∧ Hid (wr.ownsRow V.heap.size 78 1 (.slice oa on oc) k (plV ((l.map (blk Ps)).take k))) ∧ Hid (Below V.heap.size V wr)) (fun _ iv _ => l.length - (intOf iv).toNat)
  case atStart => exact ⟨0, none, 0, 0, rfl, rfl, Nat.zero_le _, HO0, Below.refl _ _⟩
  case round =>
    obtain ⟨k, oa, on, oc, rfl, rfl, hk, HO, HB⟩ := hrel
    clear HO0
    have q0 := HQ.out wr HB.out
    by_cases hlt : k < l.length
    · have hltI : (k : Int) < (l.length : Int) := by omega
      obtain ⟨x, hx⟩ : ∃ x, l[k]? = some x := ⟨_, List.getElem?_eq_getElem hlt⟩
      obtain ⟨b, o, rfl, hbl, d⟩ := HP.out.at hx
      rw [← HB.out.cell hbl] at d
      have hx0 := HIN.out x (List.mem_of_getElem? hx)
      obtain ⟨m, rfl⟩ := Int.eq_ofNat_of_zero_le hx0.1
      have hmI : (m : Int) < (Ps.length : Int) := hx0.2
      obtain ⟨b2, o2, rfl, hbl2, d2⟩ := HK.out.at (blk_at (Ps := Ps) (m := m) (by omega))
      rw [← HB.out.cell hbl2] at d2
      unfold ptr at d2
      have hHI : V.heap.size ≤ wr.heap.size := HB.out.size
      obtain ⟨v5, w5, hrun5, hsl5, hown5, hbel5, hot5, hid5⟩ := push_own2 (P := Tryd.prog) Tryd.underlying48 infoKn rfl (by decide) wr V.heap.size _ _ _ HO.out #[ptr (blk Ps (m : Int))] rfl (by intro u hu; simp at hu; subst hu; rfl) (by have := HLN.out; omega) (by omega) hHI 48
      obtain ⟨a5, n5, c5, rfl⟩ := hsl5
      have HO5 : Hid (w5.ownsRow V.heap.size 78 1 (.slice a5 n5 c5) (k + 1) (plV ((l.map (blk Ps)).take (k + 1)))) := by
        show World.ownsRow _ _ _ _ _ _ _
        have e : (l.map (blk Ps)).take (k + 1) = (l.map (blk Ps)).take k ++ [blk Ps (m : Int)] := by
          rw [List.take_add_one, List.getElem?_map, hx]
          rfl
        rw [e, plV_snoc]
        exact hown5
      have HB5 : Hid (Below V.heap.size V w5) := HB.out.trans hbel5
      unfold ptr at hrun5
      clear hown5 hbel5 hot5 hid5 HO HB hx hbl hx0 hbl2 hHI
      go_wp2_with (at_builtin; refine append_run rfl _ _ 48 rfl _ _ rfl rfl _ w5 hrun5 ?_)
      go_roundw
      case rel => exact ⟨k + 1, _, _, _, rfl, by go_num, hlt, HO5, HB5⟩
      case measure => simp [intOf]; omega
    · have hge : ¬ (k : Int) < (l.length : Int) := by omega
      have HOF : Hid (wr.ownsRow w.heap.size 78 1 (.slice oa on oc) l.length (plV (l.map (blk Ps)))) := by
        show World.ownsRow _ _ _ _ _ _ _
        have h1 := HO.out
        rw [List.take_of_length_le (by rw [List.length_map]; omega)] at h1
        rw [show l.length = k by omega]
        exact g_row_lower h1 (by have := HS.out; omega)
      have HBF : Hid (Below w.heap.size w wr) := HB0.out.trans (HB.out.mono HB0.out.size)
      clear HO HB
      go_wp2_with fail
      go_ret
      exact ⟨⟨_, rfl, ⟨_, _, _, rfl⟩, HOF.out⟩, HBF.out⟩
end Go.Proofs.YtgaibajkegfpoaaDoor
/- The program's web of a graph, in memory. -/
namespace Go.Proofs.YtgaibajkegfpoaaDoor
open Go.ChangeShapes Go.WideShapes Go.ChangeAt Go.RowKit Go.Deep
theorem row_apart {w : World} {lo e sz : Nat} {v : Value} {n : Nat} {xs : List Value} (h : w.ownsRow lo e sz v n xs) {b : Nat} {cs : Array Value} {t : TypeId} {fr : Nat × Nat} (hb : w.heap[b]? = some (.cells cs t fr)) (hne : t ≠ e) : v.ownBlock ≠ some b := by
  intro hv
  rcases h.2 with ⟨e1, _⟩ | ⟨g, cap, cur, rfl, _, h1, _⟩
  · rw [e1] at hv; simp [Value.ownBlock] at hv
  · have e2 : g = b := by simpa [Value.ownBlock] using hv
    subst e2
    rw [h1] at hb
    injection hb with hb
    injection hb with _ hb
    exact hne hb.symm
theorem row_set {w : World} {lo e sz : Nat} {v : Value} {n : Nat} {xs : List Value} (h : w.ownsRow lo e sz v n xs) {b : Nat} (hne : v.ownBlock ≠ some b) (j : Nat) (u : Value) : (w.setCell ⟨b, j, none⟩ u).ownsRow lo e sz v n xs :=
  g_row_block h (fun g hg => heap_setCell_other _ _ _ _ (fun e => hne (by rw [hg]; exact congrArg some e)))
def knV (n : Nd) (kv : Value) : Array Value := #[.int .i64 n.kind, .string n.tag, .string n.text, kv]
/-- The web under way: k knots are made, the kids of j of them are set. -/
structure WbM (lo X : Nat) (g : Gr) (k j : Nat) (Ps : List Nat) (w : World) : Prop where
  web : ∃ (ka : Option Addr) (kn kc : Nat), w.heap[X]? = some (.cells #[.slice ka kn kc, .slice none 0 0] 50 (0, 0)) ∧ w.ownsRow lo 78 1 (.slice ka kn kc) k (plV Ps)
  len : Ps.length = k
  nd : Ps.Nodup
  rng : ∀ b ∈ Ps, lo ≤ b ∧ b < w.heap.size
  knot : ∀ (i : Nat) (n : Nd), i < k → g.nodes[i]? = some n → ∃ kv, w.heap[blk Ps (i : Int)]? = some (.cells (knV n kv) 80 (0, 0)) ∧ (i < j → w.ownsRow lo 78 1 kv n.kids.length (plV (n.kids.map (blk Ps)))) ∧ (¬ i < j → kv = .slice none 0 0)
section
variable {lo X k j : Nat} {g : Gr} {Ps : List Nat} {w w' : World}
theorem blk_mem {Ps : List Nat} {i : Nat} (h : i < Ps.length) : blk Ps (i : Int) ∈ Ps := List.mem_of_getElem? (blk_at h)
theorem WbM.stays (h : WbM lo X g k j Ps w) (hb : Below w.heap.size w w') : WbM lo X g k j Ps w' := by
  obtain ⟨ka, kn, kc, h1, h2⟩ := h.web
  refine ⟨⟨ka, kn, kc, (hb.block _ (Array.getElem?_eq_some_iff.1 h1).1).trans h1, g_row_below h2 hb⟩, h.len, h.nd, fun b hm => ⟨(h.rng b hm).1, Nat.lt_of_lt_of_le (h.rng b hm).2 hb.size⟩, fun i n hi hn => ?_⟩
  obtain ⟨kv, g1, g2, g3⟩ := h.knot i n hi hn
  exact ⟨kv, (hb.block _ (Array.getElem?_eq_some_iff.1 g1).1).trans g1, fun hj => g_row_below (g2 hj) hb, g3⟩
theorem WbM.push (h : WbM lo X g k 0 Ps w) (hX : X < lo) {n : Nd} (hn : g.nodes[k]? = some n) {W w5 : World} {ka : Option Addr} {kn kc : Nat} (hb : Below w.heap.size w W)
    (hx : w.heap[X]? = some (.cells #[.slice ka kn kc, .slice none 0 0] 50 (0, 0))) (hrow : w.ownsRow lo 78 1 (.slice ka kn kc) k (plV Ps)) (hlo : lo ≤ w.heap.size)
    {a5 : Option Addr} {n5 c5 : Nat} (hown : w5.ownsRow lo 78 1 (.slice a5 n5 c5) (k + 1) (plV Ps ++ [ptr W.heap.size])) (hot : ∀ b, b < (W.alloc (.cells (knV n (.slice none 0 0)) 80)).heap.size → (Value.slice ka kn kc).ownBlock ≠ some b → w5.heap[b]? = (W.alloc (.cells (knV n (.slice none 0 0)) 80)).heap[b]?) (hsz : W.heap.size + 1 ≤ w5.heap.size) :
    WbM lo X g (k + 1) 0 (Ps ++ [W.heap.size]) (w5.setCell ⟨X, 0, none⟩ (.slice a5 n5 c5)) := by
  have hWs : (W.alloc (.cells (knV n (.slice none 0 0)) 80)).heap.size = W.heap.size + 1 := by simp
  have hwW := hb.size
  have old : ∀ b, b < w.heap.size → (Value.slice ka kn kc).ownBlock ≠ some b → w5.heap[b]? = w.heap[b]? := fun b hlt hne => by
    rw [hot b (by omega) hne, Below.heap_alloc W _ b (by omega)]
    exact hb.block b hlt
  have hXne : (Value.slice ka kn kc).ownBlock ≠ some X := row_apart hrow hx (by decide)
  have hx5 := (old X (by omega) hXne).trans hx
  have hnew : w5.heap[W.heap.size]? = some (.cells (knV n (.slice none 0 0)) 80 (0, 0)) := by
    rw [hot _ (by omega) (fun e => by have := (hrow.lt _ e).2; omega)]
    exact heap_alloc_new W _
  have hset : ∀ b, b ≠ X → (w5.setCell ⟨X, 0, none⟩ (.slice a5 n5 c5)).heap[b]? = w5.heap[b]? := fun b hb => heap_setCell_other _ _ _ _ hb
  have hbk : ∀ i, i < k → blk (Ps ++ [W.heap.size]) (i : Int) = blk Ps (i : Int) := fun i hi => by
    unfold blk
    exact getD_snoc_lt _ _ _ _ (by rw [Int.toNat_natCast, h.len]; exact hi)
  refine ⟨⟨a5, n5, c5, n2_set0 hx5 _, ?_⟩, by rw [List.length_append, h.len]; rfl, ?_, ?_, ?_⟩
  · rw [plV_snoc]
    exact row_set hown (fun e => by have := (hown.lt X e).1; omega) _ _
  · rw [List.nodup_append]
    refine ⟨h.nd, by simp, fun a ha b hb2 e => ?_⟩
    obtain rfl := List.mem_singleton.1 hb2
    have := (h.rng a ha).2
    omega
  · intro b hm
    have hss : (w5.setCell ⟨X, 0, none⟩ (.slice a5 n5 c5)).heap.size = w5.heap.size := by simp
    rw [hss]
    rcases List.mem_append.1 hm with hm | hm
    · have := h.rng b hm
      omega
    · obtain rfl := List.mem_singleton.1 hm
      omega
  · intro i m hi hm
    by_cases e : i = k
    · subst e
      rw [hn] at hm
      obtain rfl := Option.some.inj hm
      have hbe : blk (Ps ++ [W.heap.size]) (i : Int) = W.heap.size := by
        unfold blk
        rw [Int.toNat_natCast, ← h.len]
        exact getD_snoc_end ..
      rw [hbe]
      exact ⟨_, (hset _ (by omega)).trans hnew, fun h => absurd h (Nat.not_lt_zero _), fun _ => rfl⟩
    · obtain ⟨kv, g1, _, g3⟩ := h.knot i m (by omega) hm
      rw [hbk i (by omega)]
      have hr := h.rng _ (blk_mem (Ps := Ps) (i := i) (by rw [h.len]; omega))
      exact ⟨kv, ((hset _ (by omega)).trans (old _ hr.2 (row_apart hrow g1 (by decide)))).trans g1, fun h => absurd h (Nat.not_lt_zero _), g3⟩
theorem blk_inj (hnd : Ps.Nodup) {a b : Nat} (ha : a < Ps.length) (hb : b < Ps.length) (h : blk Ps (a : Int) = blk Ps (b : Int)) : a = b := by
  have h1 := blk_at ha
  have h2 := blk_at hb
  rw [h, ← h2] at h1
  rw [List.getElem?_eq_getElem ha, List.getElem?_eq_getElem hb] at h1
  have h3 := Option.some.inj h1
  have hpw := List.pairwise_iff_getElem.1 hnd
  rcases Nat.lt_trichotomy a b with hlt | heq | hlt
  · exact absurd h3 (hpw a b ha hb hlt)
  · exact heq
  · exact absurd h3.symm (hpw b a hb ha hlt)
theorem kn_set3 {w : World} {b : Nat} {n : Nd} {kv : Value} (h : w.heap[b]? = some (.cells (knV n kv) 80 (0, 0))) (u : Value) : (w.setCell ⟨b, 3, none⟩ u).heap[b]? = some (.cells (knV n u) 80 (0, 0)) := by
  simp [World.setCell, Array.getElem?_modify, h, knV]
theorem WbM.kid (h : WbM lo X g k j Ps w) (hX : X < lo) (hj : j < k) {n : Nd} (hn : g.nodes[j]? = some n) {v : Value} (hv : w.ownsRow lo 78 1 v n.kids.length (plV (n.kids.map (blk Ps)))) :
    WbM lo X g k (j + 1) Ps (w.setCell ⟨blk Ps (j : Int), 3, none⟩ v) := by
  obtain ⟨ka, kn, kc, h1, h2⟩ := h.web
  obtain ⟨kv, g1, _, _⟩ := h.knot j n hj hn
  have hset : ∀ b, b ≠ blk Ps (j : Int) → (w.setCell ⟨blk Ps (j : Int), 3, none⟩ v).heap[b]? = w.heap[b]? := fun b hb => heap_setCell_other _ _ _ _ hb
  have hr := h.rng _ (blk_mem (Ps := Ps) (i := j) (by rw [h.len]; exact hj))
  refine ⟨⟨ka, kn, kc, (hset _ (by omega)).trans h1, row_set h2 (row_apart h2 g1 (by decide)) _ _⟩, h.len, h.nd, fun b hm => by simpa using h.rng b hm, fun i m hi hm => ?_⟩
  by_cases e : i = j
  · subst e
    rw [hn] at hm
    obtain rfl := Option.some.inj hm
    exact ⟨v, kn_set3 g1 v, fun _ => row_set hv (row_apart hv g1 (by decide)) _ _, fun h => absurd (Nat.lt_succ_self _) h⟩
  · obtain ⟨kv2, f1, f2, f3⟩ := h.knot i m hi hm
    refine ⟨kv2, (hset _ (fun e2 => e (blk_inj h.nd (by rw [h.len]; exact hi) (by rw [h.len]; exact hj) e2))).trans f1, fun hij => ?_, fun hij => f3 (by omega)⟩
    have hr2 := f2 (by omega)
    exact row_set hr2 (row_apart hr2 g1 (by decide)) _ _
end
/-- A web that can be read. -/
structure WebAt (w : World) (g : Gr) (Ps : List Nat) (kn rt : Value) : Prop where
  len : Ps.length = g.nodes.length
  nd : Ps.Nodup
  knots : PlAt w kn Ps
  roots : PlAt w rt (g.roots.map (blk Ps))
  knot : ∀ (i : Nat) (n : Nd), g.nodes[i]? = some n → ∃ kv, w.heap[blk Ps (i : Int)]? = some (.cells (knV n kv) 80 (0, 0)) ∧ PlAt w kv (n.kids.map (blk Ps))
theorem WebAt.later {w w' : World} {g : Gr} {Ps : List Nat} {kn rt : Value} (h : WebAt w g Ps kn rt) (hb : Below w.heap.size w w') : WebAt w' g Ps kn rt := by
  refine ⟨h.len, h.nd, h.knots.later hb, h.roots.later hb, fun i n hn => ?_⟩
  obtain ⟨kv, h1, h2⟩ := h.knot i n hn
  exact ⟨kv, (hb.block _ (Array.getElem?_eq_some_iff.1 h1).1).trans h1, h2.later hb⟩
theorem WebAt.live {w : World} {g : Gr} {Ps : List Nat} {kn rt : Value} (h : WebAt w g Ps kn rt) {b : Nat} (hb : b ∈ Ps) : Live w b := by
  obtain ⟨i, hi⟩ := List.mem_iff_getElem?.1 hb
  have hil : i < Ps.length := (List.getElem?_eq_some_iff.1 hi).1
  have hbe : blk Ps (i : Int) = b := by rw [blk_at hil] at hi; exact Option.some.inj hi
  obtain ⟨kv, h1, _⟩ := h.knot i _ (List.getElem?_eq_getElem (by rw [← h.len]; exact hil))
  rw [hbe] at h1
  exact ⟨_, _, h1⟩
end Go.Proofs.YtgaibajkegfpoaaDoor

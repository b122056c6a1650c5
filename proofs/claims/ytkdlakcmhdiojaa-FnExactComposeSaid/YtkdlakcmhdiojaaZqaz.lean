/- Several texts in one: Gmg Gmh Gmi. -/
import Derived.Test.YtkdlakcmhdiojaaZqag
import Derived.Test.YtkdlakcmhdiojaaZqah
import Derived.Test.YtkdlakcmhdiojaaZqak
import Derived.Test.YtkdlakcmhdiojaaZqay
import Derived.Deep.RegionHeld3
/- The program's loom in memory, and how it is stepped. -/
namespace Go.Proofs.Ytkdlakcmhdiojaa
open Go.ChangeShapes Go.WideShapes Go.ChangeAt Go.RowKit Go.Deep Go.Maps
def Far (a b : Value) : Prop := ∀ x, a.ownBlock = some x → b.ownBlock ≠ some x
theorem Far.symm {a b : Value} (h : Far a b) : Far b a := fun x hb ha => h x ha hb
theorem far_nil (a : Value) : Far (.slice none 0 0) a := fun x h => by simp [Value.ownBlock] at h
/-- The loom: its ties, its tour, its knots by places, the kids of each knot, its roots. -/
structure LmS (w0 : World) (B T B1 B2 K : Nat) (lv : Value) (q p : Nat) (t : Ti) (f : Int → Option Nat) (mb : List Nat) (ns : List Nd) (cs : List (List Nat)) (rs : List Nat) (nv mv rv : Value) (kvs : List Value) (w : World) : Prop where
  ties : TsI T B1 B2 lv w0 t q w
  tour : TrX B 79 [ptr T, .map (some K), rv] w0.heap.size mb nv mv w
  kn : ∃ n, n ≤ p ∧ MapM Try.prog 3 dkey ptr w K n f
  rts : w.ownsRow w0.heap.size 84 1 rv rs.length (plV rs)
  lns : ns.length = mb.length
  lcs : cs.length = mb.length
  lkv : kvs.length = mb.length
  nd : mb.Nodup
  knot : ∀ (m : Nat) (n : Nd) (b : Nat) (kv : Value) (c : List Nat), ns[m]? = some n → mb[m]? = some b → kvs[m]? = some kv → cs[m]? = some c → w.heap[b]? = some (.cells (knV n kv) 89 (0, 0)) ∧ w.ownsRow w0.heap.size 84 1 kv c.length (plV c)
  ap1 : ∀ (i j : Nat) (a b : Value), i < j → kvs[i]? = some a → kvs[j]? = some b → Far a b
  ap2 : ∀ (i : Nat) (a : Value), kvs[i]? = some a → Far a rv ∧ Far a mv
  ap3 : Far rv mv
  low : w0.heap.size ≤ B ∧ w0.heap.size ≤ K ∧ ∀ b ∈ mb, w0.heap.size ≤ b
  ne : K ≠ B1 ∧ K ≠ B2 ∧ nv ≠ .map (some K) ∧ nv ≠ .map (some B1) ∧ nv ≠ .map (some B2)
theorem cells_ne {w : World} {x y : Nat} {c1 c2 : Array Value} {t1 t2 : TypeId} {f1 f2 : Nat × Nat} (h1 : w.heap[x]? = some (.cells c1 t1 f1)) (h2 : w.heap[y]? = some (.cells c2 t2 f2)) (ht : t1 ≠ t2) : x ≠ y := fun e => by
  subst e
  rw [h1] at h2
  injection h2 with h2
  injection h2 with _ h2
  exact ht h2
theorem map_ne {w : World} {x y : Nat} {c1 : Array Value} {t1 : TypeId} {f1 : Nat × Nat} {es : Array MapEntry} {c : Nat} (h1 : w.heap[x]? = some (.cells c1 t1 f1)) (h2 : w.heap[y]? = some (.map es c)) : x ≠ y := fun e => by
  subst e
  rw [h1] at h2
  cases h2
theorem TrX.kept {B : Nat} {t : TypeId} {rest : List Value} {lo : Nat} {mb : List Nat} {nv v : Value} {w w' : World} (h : TrX B t rest lo mb nv v w) (h1 : w'.heap[B]? = w.heap[B]?) (h2 : ∀ x, v.ownBlock = some x → w'.heap[x]? = w.heap[x]?) (h3 : ∀ M, nv = .map (some M) → w'.heap[M]? = w.heap[M]?) : TrX B t rest lo mb nv v w' := by
  refine ⟨h1.trans h.at_, h.sl, g_row_block h.row h2, ?_⟩
  rcases h.map with e | ⟨M, e, hl, hM⟩
  · exact .inl e
  · exact .inr ⟨M, e, hl, hM.same (h3 M e)⟩
theorem TsI.kept {b B1 B2 : Nat} {lv : Value} {w0 w w' : World} {t : Ti} {k : Nat} (h : TsI b B1 B2 lv w0 t k w) (h1 : w'.heap[b]? = w.heap[b]?) (h2 : w'.heap[B1]? = w.heap[B1]?) (h3 : w'.heap[B2]? = w.heap[B2]?) (hb : Below w0.heap.size w0 w') : TsI b B1 B2 lv w0 t k w' := by
  obtain ⟨n1, g1, g2⟩ := h.nm
  obtain ⟨n2, g3, g4⟩ := h.df
  exact ⟨h.at_.same h1, ⟨n1, g1, g2.same h2⟩, ⟨n2, g3, g4.same h3⟩, h.ls, hb, h.hi, h.ne⟩
theorem MapM.look_f {K V : Type} {kf : K → Lit} {vf : V → Value} {f : K → Option V} {P : Program} {kt t e : TypeId} {w : World} {B n : Nat} (h : MapM P kt kf vf w B n f) (K1 : Keyed P kt) (ht : P.underlying t = some (.map kt e)) {z : Value} (hz : (zeroValue e).run P w = .ok z w) {x : K} {p : V} {key : Value} (hx : keyOf P kt key = some (kf x)) (hf : f x = some p) :
    (Instr.lookup t (.map (some B)) key false).run P w = .ok (vf p) w := by
  obtain ⟨D, h1, h2⟩ := h
  obtain ⟨v, ps, hrun, hv⟩ := h1.lookup K1 ht hz (zd := .held z) (zp := []) rfl hx
  rw [h2.at_ x p hf] at hv
  simp only [RH, Option.some.injEq, Prod.mk.injEq, DataW.held.injEq] at hv
  rw [hv.1] at hrun
  exact hrun
section
variable {w0 w w' : World} {B T B1 B2 K : Nat} {lv : Value} {q q' p : Nat} {t t' : Ti} {f : Int → Option Nat} {mb : List Nat} {ns : List Nd} {cs : List (List Nat)} {rs : List Nat} {nv mv rv : Value} {kvs : List Value}
theorem LmS.mapM (h : LmS w0 B T B1 B2 K lv q p t f mb ns cs rs nv mv rv kvs w) {M : Nat} (e : nv = .map (some M)) : ∃ es c, w.heap[M]? = some (.map es c) := by
  rcases h.tour.map with ⟨e2, _⟩ | ⟨M2, e2, _, hM⟩
  · rw [e2] at e
    injection e with e
    cases e
  · rw [e2] at e
    injection e with e
    injection e with e
    subst e
    exact hM.isMap
theorem LmS.mapK (h : LmS w0 B T B1 B2 K lv q p t f mb ns cs rs nv mv rv kvs w) : ∃ es c, w.heap[K]? = some (.map es c) := by
  obtain ⟨n, _, h1⟩ := h.kn
  exact h1.isMap
theorem LmS.map1 (h : LmS w0 B T B1 B2 K lv q p t f mb ns cs rs nv mv rv kvs w) : ∃ es c, w.heap[B1]? = some (.map es c) := by
  obtain ⟨n, _, h1⟩ := h.ties.nm
  exact h1.isMap
theorem LmS.map2 (h : LmS w0 B T B1 B2 K lv q p t f mb ns cs rs nv mv rv kvs w) : ∃ es c, w.heap[B2]? = some (.map es c) := by
  obtain ⟨n, _, h1⟩ := h.ties.df
  exact h1.isMap
theorem LmS.knotAt (h : LmS w0 B T B1 B2 K lv q p t f mb ns cs rs nv mv rv kvs w) {m b : Nat} (hb : mb[m]? = some b) : ∃ n kv c, ns[m]? = some n ∧ kvs[m]? = some kv ∧ cs[m]? = some c ∧ w.heap[b]? = some (.cells (knV n kv) 89 (0, 0)) ∧ w.ownsRow w0.heap.size 84 1 kv c.length (plV c) := by
  have hm := (List.getElem?_eq_some_iff.1 hb).1
  have e1 := List.getElem?_eq_getElem (l := ns) (i := m) (by rw [h.lns]; exact hm)
  have e2 := List.getElem?_eq_getElem (l := kvs) (i := m) (by rw [h.lkv]; exact hm)
  have e3 := List.getElem?_eq_getElem (l := cs) (i := m) (by rw [h.lcs]; exact hm)
  exact ⟨_, _, _, e1, e2, e3, h.knot m _ b _ _ e1 hb e2 e3⟩
theorem LmS.kvAt (h : LmS w0 B T B1 B2 K lv q p t f mb ns cs rs nv mv rv kvs w) {m : Nat} {kv : Value} (hv : kvs[m]? = some kv) : ∃ b n c, mb[m]? = some b ∧ ns[m]? = some n ∧ cs[m]? = some c ∧ w.heap[b]? = some (.cells (knV n kv) 89 (0, 0)) ∧ w.ownsRow w0.heap.size 84 1 kv c.length (plV c) := by
  have hm := (List.getElem?_eq_some_iff.1 hv).1
  have hm' : m < mb.length := by rw [← h.lkv]; exact hm
  obtain ⟨n, kv2, c, e1, e2, e3, e4, e5⟩ := h.knotAt (List.getElem?_eq_getElem hm')
  rw [hv] at e2
  obtain rfl := Option.some.inj e2
  exact ⟨_, n, c, List.getElem?_eq_getElem hm', e1, e3, e4, e5⟩
/-- All that the loom has lies as it lay. -/
theorem LmS.kept (h : LmS w0 B T B1 B2 K lv q p t f mb ns cs rs nv mv rv kvs w) (hc : ∀ (x : Nat) (c : Array Value) (ty : TypeId) (fr : Nat × Nat), w.heap[x]? = some (.cells c ty fr) → w'.heap[x]? = w.heap[x]?) (hm : ∀ (x : Nat) (es : Array MapEntry) (c : Nat), w.heap[x]? = some (.map es c) → w'.heap[x]? = w.heap[x]?) (hb : Below w0.heap.size w0 w') : LmS w0 B T B1 B2 K lv q p t f mb ns cs rs nv mv rv kvs w' := by
  have hr : ∀ {v : Value} {n : Nat} {xs : List Value}, w.ownsRow w0.heap.size 84 1 v n xs → ∀ x, v.ownBlock = some x → w'.heap[x]? = w.heap[x]? := fun h1 x hx => by
    obtain ⟨cs, fr, e⟩ := own_type h1 hx
    exact hc x _ _ _ e
  have hmm : ∀ x : Nat, (∃ es c, w.heap[x]? = some (.map es c)) → w'.heap[x]? = w.heap[x]? := fun x ⟨es, c, e⟩ => hm x es c e
  obtain ⟨n, g1, g2⟩ := h.kn
  refine ⟨h.ties.kept (hc _ _ _ _ h.ties.at_) (hmm _ h.map1) (hmm _ h.map2) hb, h.tour.kept (hc _ _ _ _ h.tour.at_) (hr h.tour.row) (fun M e => hmm M (h.mapM e)), ⟨n, g1, g2.same (hmm _ h.mapK)⟩, g_row_block h.rts (hr h.rts), h.lns, h.lcs, h.lkv, h.nd, fun m n b kv c e1 e2 e3 e4 => ?_, h.ap1, h.ap2, h.ap3, h.low, h.ne⟩
  obtain ⟨k1, k2⟩ := h.knot m n b kv c e1 e2 e3 e4
  exact ⟨(hc _ _ _ _ k1).trans k1, g_row_block k2 (hr k2)⟩
theorem LmS.stays (h : LmS w0 B T B1 B2 K lv q p t f mb ns cs rs nv mv rv kvs w) (hb : Below w.heap.size w w') : LmS w0 B T B1 B2 K lv q p t f mb ns cs rs nv mv rv kvs w' :=
  h.kept (fun x _ _ _ e => hb.block x (Array.getElem?_eq_some_iff.1 e).1) (fun x _ _ e => hb.block x (Array.getElem?_eq_some_iff.1 e).1) (h.ties.below.trans (hb.mono h.ties.below.size))
/-- A node is tied. -/
theorem LmS.tie (h : LmS w0 B T B1 B2 K lv q p t f mb ns cs rs nv mv rv kvs w) (hT : TsI T B1 B2 lv w0 t' q' w') (hk : KeepO T B1 B2 w w') : LmS w0 B T B1 B2 K lv q' p t' f mb ns cs rs nv mv rv kvs w' := by
  obtain ⟨_, _, m1⟩ := h.map1
  obtain ⟨_, _, m2⟩ := h.map2
  have hc : ∀ (x : Nat) (c : Array Value) (ty : TypeId) (fr : Nat × Nat), w.heap[x]? = some (.cells c ty fr) → ty ≠ 99 → w'.heap[x]? = w.heap[x]? := fun x c ty fr e ht => hk.2 x (Array.getElem?_eq_some_iff.1 e).1 (cells_ne e h.ties.at_ ht) (map_ne e m1) (map_ne e m2)
  have hm : ∀ x : Nat, (∃ es c, w.heap[x]? = some (.map es c)) → x ≠ B1 → x ≠ B2 → w'.heap[x]? = w.heap[x]? := fun x ⟨es, c, e⟩ h1 h2 => hk.2 x (Array.getElem?_eq_some_iff.1 e).1 (Ne.symm (map_ne h.ties.at_ e)) h1 h2
  have hr : ∀ {v : Value} {n : Nat} {xs : List Value}, w.ownsRow w0.heap.size 84 1 v n xs → ∀ x, v.ownBlock = some x → w'.heap[x]? = w.heap[x]? := fun h1 x hx => by
    obtain ⟨cs, fr, e⟩ := own_type h1 hx
    exact hc x _ _ _ e (by decide)
  obtain ⟨n, g1, g2⟩ := h.kn
  refine ⟨hT, h.tour.kept (hc _ _ _ _ h.tour.at_ (by decide)) (hr h.tour.row) (fun M e => hm M (h.mapM e) (fun e2 => h.ne.2.2.2.1 (by rw [e, e2])) (fun e2 => h.ne.2.2.2.2 (by rw [e, e2]))), ⟨n, g1, g2.same (hm _ h.mapK h.ne.1 h.ne.2.1)⟩, g_row_block h.rts (hr h.rts), h.lns, h.lcs, h.lkv, h.nd, fun m n b kv c e1 e2 e3 e4 => ?_, h.ap1, h.ap2, h.ap3, h.low, h.ne⟩
  obtain ⟨k1, k2⟩ := h.knot m n b kv c e1 e2 e3 e4
  exact ⟨(hc _ _ _ _ k1 (by decide)).trans k1, g_row_block k2 (hr k2)⟩
/-- The knot of a place is kept. -/
theorem LmS.put (h : LmS w0 B T B1 B2 K lv q p t f mb ns cs rs nv mv rv kvs w) (a b : Nat) (ha : a ≤ 2000000) (hp : p ≤ 2000000) :
    ∃ w', (Instr.mapUpdate 73 (.map (some K)) (.int .i64 (a : Int)) (ptr b)).run Try.prog w = .ok () w' ∧ LmS w0 B T B1 B2 K lv q (p + 1) t (putFn f (a : Int) b) mb ns cs rs nv mv rv kvs w' ∧ w.grownBy w' (some K) := by
  obtain ⟨n, g1, g2⟩ := h.kn
  obtain ⟨_, _, mK⟩ := h.mapK
  obtain ⟨w', hup, hM, hg⟩ := g2.put dkey_fn dkeyed Try.underlying73 (a : Int) b (dkey_mk (WalkArith.wf_i64 (by omega))) (by unfold maxLen; omega)
  have hc : ∀ (x : Nat) (c : Array Value) (ty : TypeId) (fr : Nat × Nat), w.heap[x]? = some (.cells c ty fr) → w'.heap[x]? = w.heap[x]? := fun x c ty fr e => hg.block x (Array.getElem?_eq_some_iff.1 e).1 (fun e2 => map_ne e mK (Option.some.inj e2))
  have hm : ∀ x : Nat, (∃ es c, w.heap[x]? = some (.map es c)) → x ≠ K → w'.heap[x]? = w.heap[x]? := fun x ⟨es, c, e⟩ h1 => hg.block x (Array.getElem?_eq_some_iff.1 e).1 (fun e2 => h1 (Option.some.inj e2))
  have hr : ∀ {v : Value} {n : Nat} {xs : List Value}, w.ownsRow w0.heap.size 84 1 v n xs → ∀ x, v.ownBlock = some x → w'.heap[x]? = w.heap[x]? := fun h1 x hx => by
    obtain ⟨cs, fr, e⟩ := own_type h1 hx
    exact hc x _ _ _ e
  refine ⟨w', hup, ⟨h.ties.kept (hc _ _ _ _ h.ties.at_) (hm _ h.map1 (Ne.symm h.ne.1)) (hm _ h.map2 (Ne.symm h.ne.2.1)) (below_map h.ties.below hg h.low.2.1), h.tour.kept (hc _ _ _ _ h.tour.at_) (hr h.tour.row) (fun M e => hm M (h.mapM e) (fun e2 => h.ne.2.2.1 (by rw [e, e2]))), ⟨n + 1, by omega, hM⟩, g_row_block h.rts (hr h.rts), h.lns, h.lcs, h.lkv, h.nd, fun m n b kv c e1 e2 e3 e4 => ?_, h.ap1, h.ap2, h.ap3, h.low, h.ne⟩, hg⟩
  obtain ⟨k1, k2⟩ := h.knot m n b kv c e1 e2 e3 e4
  exact ⟨(hc _ _ _ _ k1).trans k1, g_row_block k2 (hr k2)⟩
/-- A new knot was met. -/
theorem LmS.met (h : LmS w0 B T B1 B2 K lv q p t f mb ns cs rs nv mv rv kvs w) {b : Nat} {n : Nd} (hb : w.heap[b]? = some (.cells (knV n (.slice none 0 0)) 89 (0, 0))) (hlb : w0.heap.size ≤ b) (hnb : b ∉ mb) {nv' mv' : Value} (hT : TrX B 79 [ptr T, .map (some K), rv] w0.heap.size (mb ++ [b]) nv' mv' w') (hbel : Below w0.heap.size w w') (hF : FrX B nv mv nv' mv' w w') :
    LmS w0 B T B1 B2 K lv q p t f (mb ++ [b]) (ns ++ [n]) (cs ++ [[]]) rs nv' mv' rv (kvs ++ [.slice none 0 0]) w' := by
  have hc : ∀ (x : Nat) (c : Array Value) (ty : TypeId) (fr : Nat × Nat), w.heap[x]? = some (.cells c ty fr) → ty ≠ 79 → ty ≠ 84 → w'.heap[x]? = w.heap[x]? := fun x c ty fr e h1 h2 => hF.blk x (Array.getElem?_eq_some_iff.1 e).1 (cells_ne e h.tour.at_ h1) (row_apart h.tour.row e h2) (fun e2 => by
    obtain ⟨_, _, e3⟩ := h.mapM e2
    exact map_ne e e3 rfl)
  have hm : ∀ x : Nat, (∃ es c, w.heap[x]? = some (.map es c)) → nv ≠ .map (some x) → w'.heap[x]? = w.heap[x]? := fun x ⟨es, c, e⟩ h1 => hF.blk x (Array.getElem?_eq_some_iff.1 e).1 (Ne.symm (map_ne h.tour.at_ e)) (fun e2 => by
    obtain ⟨_, _, e3⟩ := own_type h.tour.row e2
    exact map_ne e3 e rfl) h1
  have hr : ∀ {v : Value} {n : Nat} {xs : List Value}, w.ownsRow w0.heap.size 84 1 v n xs → Far v mv → ∀ x, v.ownBlock = some x → w'.heap[x]? = w.heap[x]? := fun h1 hfar x hx => by
    obtain ⟨_, _, e⟩ := own_type h1 hx
    exact hF.blk x (Array.getElem?_eq_some_iff.1 e).1 (cells_ne e h.tour.at_ (by decide)) (hfar x hx) (fun e2 => by
      obtain ⟨_, _, e3⟩ := h.mapM e2
      exact map_ne e e3 rfl)
  have hfar : ∀ {v : Value} {n : Nat} {xs : List Value}, w.ownsRow w0.heap.size 84 1 v n xs → Far v mv → Far v mv' := fun h1 hfar x hx => by
    rcases hF.row with e | ⟨y, e, hy⟩
    · rw [e]; exact hfar x hx
    · have := (h1.lt x hx).2
      rw [e]
      intro e2
      injection e2 with e2
      omega
  have hnm : ∀ x, x < w.heap.size → nv ≠ .map (some x) → nv' ≠ .map (some x) := fun x hx h1 => by
    rcases hF.map with e | ⟨y, e, hy⟩
    · rw [e]; exact h1
    · rw [e]
      intro e2
      injection e2 with e2
      injection e2 with e2
      omega
  have lt3 : ∀ x : Nat, (∃ es c, w.heap[x]? = some (.map es c)) → x < w.heap.size := fun x ⟨_, _, e⟩ => (Array.getElem?_eq_some_iff.1 e).1
  obtain ⟨n0, g1, g2⟩ := h.kn
  refine ⟨h.ties.kept (hc _ _ _ _ h.ties.at_ (by decide) (by decide)) (hm _ h.map1 h.ne.2.2.2.1) (hm _ h.map2 h.ne.2.2.2.2) (h.ties.below.trans hbel), hT, ⟨n0, g1, g2.same (hm _ h.mapK h.ne.2.2.1)⟩, g_row_block h.rts (hr h.rts h.ap3), by rw [List.length_append, List.length_append, h.lns]; rfl, by rw [List.length_append, List.length_append, h.lcs]; rfl, by rw [List.length_append, List.length_append, h.lkv]; rfl, ?_, fun m n2 b2 kv c e1 e2 e3 e4 => ?_, fun i j a b2 hij hi hj => ?_, fun i a hi => ?_, hfar h.rts h.ap3, ⟨h.low.1, h.low.2.1, fun b2 hb2 => ?_⟩, ⟨h.ne.1, h.ne.2.1, hnm _ (lt3 _ h.mapK) h.ne.2.2.1, hnm _ (lt3 _ h.map1) h.ne.2.2.2.1, hnm _ (lt3 _ h.map2) h.ne.2.2.2.2⟩⟩
  · rw [List.nodup_append]
    exact ⟨h.nd, by simp, fun a ha c hc => by
      obtain rfl := List.mem_singleton.1 hc
      intro e
      rw [e] at ha
      exact hnb ha⟩
  · by_cases hml : m < mb.length
    · rw [List.getElem?_append_left (by rw [h.lns]; exact hml)] at e1
      rw [List.getElem?_append_left hml] at e2
      rw [List.getElem?_append_left (by rw [h.lkv]; exact hml)] at e3
      rw [List.getElem?_append_left (by rw [h.lcs]; exact hml)] at e4
      obtain ⟨k1, k2⟩ := h.knot m n2 b2 kv c e1 e2 e3 e4
      exact ⟨(hc _ _ _ _ k1 (by decide) (by decide)).trans k1, g_row_block k2 (hr k2 (h.ap2 m kv e3).2)⟩
    · have hml2 := (List.getElem?_eq_some_iff.1 e2).1
      rw [List.length_append, List.length_singleton] at hml2
      obtain rfl : m = mb.length := by omega
      rw [List.getElem?_append_right (by rw [h.lns]; exact Nat.le_refl _), h.lns, Nat.sub_self] at e1
      rw [List.getElem?_append_right (Nat.le_refl _), Nat.sub_self] at e2
      rw [List.getElem?_append_right (by rw [h.lkv]; exact Nat.le_refl _), h.lkv, Nat.sub_self] at e3
      rw [List.getElem?_append_right (by rw [h.lcs]; exact Nat.le_refl _), h.lcs, Nat.sub_self] at e4
      obtain rfl : n = n2 := by simpa using e1
      obtain rfl : b = b2 := by simpa using e2
      obtain rfl : Value.slice none 0 0 = kv := by simpa using e3
      obtain rfl : [] = c := by simpa using e4
      exact ⟨(hc _ _ _ _ hb (by decide) (by decide)).trans hb, ⟨rfl, .inl ⟨rfl, rfl⟩⟩⟩
  · by_cases hjl : j < kvs.length
    · rw [List.getElem?_append_left hjl] at hj
      rw [List.getElem?_append_left (by omega)] at hi
      exact h.ap1 i j a b2 hij hi hj
    · have hjl2 := (List.getElem?_eq_some_iff.1 hj).1
      rw [List.length_append, List.length_singleton] at hjl2
      obtain rfl : j = kvs.length := by omega
      rw [List.getElem?_append_right (Nat.le_refl _), Nat.sub_self] at hj
      obtain rfl : Value.slice none 0 0 = b2 := by simpa using hj
      exact (far_nil a).symm
  · by_cases hil : i < kvs.length
    · rw [List.getElem?_append_left hil] at hi
      obtain ⟨_, _, c, _, _, _, _, k2⟩ := h.kvAt hi
      exact ⟨(h.ap2 i a hi).1, hfar k2 (h.ap2 i a hi).2⟩
    · have hil2 := (List.getElem?_eq_some_iff.1 hi).1
      rw [List.length_append, List.length_singleton] at hil2
      obtain rfl : i = kvs.length := by omega
      rw [List.getElem?_append_right (Nat.le_refl _), Nat.sub_self] at hi
      obtain rfl : Value.slice none 0 0 = a := by simpa using hi
      exact ⟨far_nil _, far_nil _⟩
  · rcases List.mem_append.1 hb2 with h1 | h1
    · exact h.low.2.2 b2 h1
    · rw [List.mem_singleton.1 h1]
      exact hlb
end
end Go.Proofs.Ytkdlakcmhdiojaa
/- The program's loom: a root comes, a kid comes. -/
namespace Go.Proofs.Ytkdlakcmhdiojaa
open Go.ChangeShapes Go.WideShapes Go.ChangeAt Go.RowKit Go.Deep Go.Maps
theorem push_k (w : World) (lo : Nat) (v : Value) (L : List Nat) (b : Nat) (hown : w.ownsRow lo 84 1 v L.length (plV L)) (hl : L.length ≤ 100000000) (hlo : lo ≤ w.heap.size) :
    ∃ a n c w', (Builtin.append_ #[75, 75] 75 #[v, .slice (some ⟨w.heap.size, 0, none⟩) 1 1]).run Try.prog (w.alloc (.cells #[.pointer (some ⟨b, 0, none⟩)] 84)) = .ok (.slice a n c) w' ∧ w'.ownsRow lo 84 1 (.slice a n c) (L ++ [b]).length (plV (L ++ [b])) ∧ Below lo w w' ∧ (∀ b, b < w.heap.size → v.ownBlock ≠ some b → w'.heap[b]? = w.heap[b]?) ∧ ((Value.slice a n c).ownBlock = v.ownBlock ∨ (Value.slice a n c).ownBlock = some (w.heap.size + 1)) := by
  obtain ⟨v5, w5, hrun5, hsl5, hown5, hbel5, hot5, hid5⟩ := push_own2 (P := Try.prog) Try.underlying75 infoKn rfl (by decide) w lo v L.length (plV L) hown #[ptr b] rfl (by intro u hu; simp at hu; subst hu; rfl) hl (by omega) hlo 75
  obtain ⟨a5, n5, c5, rfl⟩ := hsl5
  refine ⟨a5, n5, c5, w5, hrun5, ?_, hbel5, hot5, hid5⟩
  rw [List.length_append, plV_snoc]
  exact hown5
theorem lm_4 {w : World} {B : Nat} {x0 x1 x2 x3 x4 : Value} {t : TypeId} (h : w.heap[B]? = some (.cells (x0 :: x1 :: [x2, x3, x4]).toArray t (0, 0))) : w.cell? ⟨B, 0, none⟩ = some x0 ∧ w.cell? ⟨B, 1, none⟩ = some x1 ∧ w.cell? ⟨B, 2, none⟩ = some x2 ∧ w.cell? ⟨B, 3, none⟩ = some x3 ∧ w.cell? ⟨B, 4, none⟩ = some x4 := by simp [World.cell?, h]
theorem lm_set4 {w : World} {B : Nat} {x0 x1 x2 x3 x4 : Value} {t : TypeId} (h : w.heap[B]? = some (.cells (x0 :: x1 :: [x2, x3, x4]).toArray t (0, 0))) (u : Value) : (w.setCell ⟨B, 4, none⟩ u).heap[B]? = some (.cells (x0 :: x1 :: [x2, x3, u]).toArray t (0, 0)) := by
  simp [World.setCell, Array.getElem?_modify, h]
theorem lk_3 {w : World} {b : Nat} {n : Nd} {kv : Value} (h : w.heap[b]? = some (.cells (knV n kv) 89 (0, 0))) : w.cell? ⟨b, 0, none⟩ = some (.int .i64 n.kind) ∧ w.cell? ⟨b, 1, none⟩ = some (.string n.tag) ∧ w.cell? ⟨b, 2, none⟩ = some (.string n.text) ∧ w.cell? ⟨b, 3, none⟩ = some kv := by simp [World.cell?, h, knV]
theorem lk_set3 {w : World} {b : Nat} {n : Nd} {kv : Value} (h : w.heap[b]? = some (.cells (knV n kv) 89 (0, 0))) (u : Value) : (w.setCell ⟨b, 3, none⟩ u).heap[b]? = some (.cells (knV n u) 89 (0, 0)) := by
  simp [World.setCell, Array.getElem?_modify, h, knV]
section
variable {w0 w : World} {B T B1 B2 K : Nat} {lv : Value} {q p : Nat} {t : Ti} {f : Int → Option Nat} {mb : List Nat} {ns : List Nd} {cs : List (List Nat)} {rs : List Nat} {nv mv rv : Value} {kvs : List Value}
/-- A root comes behind the roots. -/
theorem LmS.root (h : LmS w0 B T B1 B2 K lv q p t f mb ns cs rs nv mv rv kvs w) (b : Nat) (hl : rs.length ≤ 1048576) :
    ∃ a n c w5, (Builtin.append_ #[75, 75] 75 #[rv, .slice (some ⟨w.heap.size, 0, none⟩) 1 1]).run Try.prog (w.alloc (.cells #[.pointer (some ⟨b, 0, none⟩)] 84)) = .ok (.slice a n c) w5 ∧ w5.cell? ⟨B, 4, none⟩ = some rv ∧ w5.frozen? ⟨B, 4, none⟩ = false ∧
      LmS w0 B T B1 B2 K lv q p t f mb ns cs (rs ++ [b]) nv mv (.slice a n c) kvs (w5.setCell ⟨B, 4, none⟩ (.slice a n c)) ∧ KeepS w (w5.setCell ⟨B, 4, none⟩ (.slice a n c)) := by
  obtain ⟨a, n, c, w5, hrun, hown, hbel, hot, hid⟩ := push_k w w0.heap.size rv rs b h.rts (by omega) h.ties.below.size
  have hc : ∀ (x : Nat) (c' : Array Value) (ty : TypeId) (fr : Nat × Nat), w.heap[x]? = some (.cells c' ty fr) → ty ≠ 79 → ty ≠ 84 → (w5.setCell ⟨B, 4, none⟩ (.slice a n c)).heap[x]? = w.heap[x]? := fun x c' ty fr e h1 h2 => (heap_setCell_other _ _ _ _ (cells_ne e h.tour.at_ h1)).trans (hot x (Array.getElem?_eq_some_iff.1 e).1 (row_apart h.rts e h2))
  have hm : ∀ x : Nat, (∃ es c, w.heap[x]? = some (.map es c)) → (w5.setCell ⟨B, 4, none⟩ (.slice a n c)).heap[x]? = w.heap[x]? := fun x ⟨es, c', e⟩ => (heap_setCell_other _ _ _ _ (Ne.symm (map_ne h.tour.at_ e))).trans (hot x (Array.getElem?_eq_some_iff.1 e).1 (fun e2 => by
    obtain ⟨_, _, e3⟩ := own_type h.rts e2
    exact map_ne e3 e rfl))
  have hr : ∀ {v : Value} {n' : Nat} {xs : List Value}, w.ownsRow w0.heap.size 84 1 v n' xs → Far v rv → ∀ x, v.ownBlock = some x → (w5.setCell ⟨B, 4, none⟩ (.slice a n c)).heap[x]? = w.heap[x]? := fun h1 hfar x hx => by
    obtain ⟨_, _, e⟩ := own_type h1 hx
    exact (heap_setCell_other _ _ _ _ (cells_ne e h.tour.at_ (by decide))).trans (hot x (Array.getElem?_eq_some_iff.1 e).1 (hfar x hx))
  have hfar : ∀ {v : Value} {n' : Nat} {xs : List Value}, w.ownsRow w0.heap.size 84 1 v n' xs → Far v rv → Far v (.slice a n c) := fun h1 hfar x hx => by
    rcases hid with e | e
    · rw [e]; exact hfar x hx
    · have := (h1.lt x hx).2
      rw [e]
      intro e2
      injection e2 with e2
      omega
  have hB5 : w5.heap[B]? = w.heap[B]? := hot B (Array.getElem?_eq_some_iff.1 h.tour.at_).1 (row_apart h.rts h.tour.at_ (by decide))
  have hB := hB5.trans h.tour.at_
  have hbf : Below w0.heap.size w0 (w5.setCell ⟨B, 4, none⟩ (.slice a n c)) := (h.ties.below.trans hbel).setCell h.low.1 _
  have hfm : Far mv rv := h.ap3.symm
  obtain ⟨n0, g1, g2⟩ := h.kn
  refine ⟨a, n, c, w5, hrun, (lm_4 hB).2.2.2.2, by simp [World.frozen?, hB], ⟨h.ties.kept (hc _ _ _ _ h.ties.at_ (by decide) (by decide)) (hm _ h.map1) (hm _ h.map2) hbf, ⟨lm_set4 hB _, h.tour.sl, g_row_block h.tour.row (hr h.tour.row hfm), ?_⟩, ⟨n0, g1, g2.same (hm _ h.mapK)⟩, row_set hown (row_apart hown hB (by decide)) _ _, h.lns, h.lcs, h.lkv, h.nd, fun m n2 b2 kv c2 e1 e2 e3 e4 => ?_, h.ap1, fun i x hi => ?_, (hfar h.tour.row hfm).symm, h.low, h.ne⟩, fun x c' fr e => ?_⟩
  · rcases h.tour.map with e | ⟨M, e, hM1, hM2⟩
    · exact .inl e
    · exact .inr ⟨M, e, hM1, hM2.same (hm M (h.mapM e))⟩
  · obtain ⟨k1, k2⟩ := h.knot m n2 b2 kv c2 e1 e2 e3 e4
    exact ⟨(hc _ _ _ _ k1 (by decide) (by decide)).trans k1, g_row_block k2 (hr k2 (h.ap2 m kv e3).1)⟩
  · obtain ⟨_, _, c2, _, _, _, _, k2⟩ := h.kvAt hi
    exact ⟨hfar k2 (h.ap2 i x hi).1, (h.ap2 i x hi).2⟩
  · rw [hc x c' _ fr e (by decide) (by decide)]
    exact e
/-- A kid comes behind the kids of a knot. -/
theorem LmS.kid (h : LmS w0 B T B1 B2 K lv q p t f mb ns cs rs nv mv rv kvs w) (b : Nat) {m u : Nat} {n : Nd} {kv : Value} {c : List Nat} (hu : mb[m]? = some u) (hn : ns[m]? = some n) (hk : kvs[m]? = some kv) (hcs : cs[m]? = some c) (hl : c.length ≤ 1048576) :
    ∃ a nn cc w5, (Builtin.append_ #[75, 75] 75 #[kv, .slice (some ⟨w.heap.size, 0, none⟩) 1 1]).run Try.prog (w.alloc (.cells #[.pointer (some ⟨b, 0, none⟩)] 84)) = .ok (.slice a nn cc) w5 ∧ w5.cell? ⟨u, 3, none⟩ = some kv ∧ w5.frozen? ⟨u, 3, none⟩ = false ∧
      LmS w0 B T B1 B2 K lv q p t f mb ns (cs.set m (c ++ [b])) rs nv mv rv (kvs.set m (.slice a nn cc)) (w5.setCell ⟨u, 3, none⟩ (.slice a nn cc)) ∧ KeepS w (w5.setCell ⟨u, 3, none⟩ (.slice a nn cc)) := by
  obtain ⟨hub, hkr⟩ := h.knot m n u kv c hn hu hk hcs
  obtain ⟨a, nn, cc, w5, hrun, hown, hbel, hot, hid⟩ := push_k w w0.heap.size kv c b hkr (by omega) h.ties.below.size
  have hmm : m < mb.length := (List.getElem?_eq_some_iff.1 hu).1
  have hmk : m < kvs.length := (List.getElem?_eq_some_iff.1 hk).1
  have hmc : m < cs.length := (List.getElem?_eq_some_iff.1 hcs).1
  have hc : ∀ (x : Nat) (c' : Array Value) (ty : TypeId) (fr : Nat × Nat), w.heap[x]? = some (.cells c' ty fr) → x ≠ u → ty ≠ 84 → (w5.setCell ⟨u, 3, none⟩ (.slice a nn cc)).heap[x]? = w.heap[x]? := fun x c' ty fr e h1 h2 => (heap_setCell_other _ _ _ _ h1).trans (hot x (Array.getElem?_eq_some_iff.1 e).1 (row_apart hkr e h2))
  have hm : ∀ x : Nat, (∃ es c, w.heap[x]? = some (.map es c)) → (w5.setCell ⟨u, 3, none⟩ (.slice a nn cc)).heap[x]? = w.heap[x]? := fun x ⟨es, c', e⟩ => (heap_setCell_other _ _ _ _ (Ne.symm (map_ne hub e))).trans (hot x (Array.getElem?_eq_some_iff.1 e).1 (fun e2 => by
    obtain ⟨_, _, e3⟩ := own_type hkr e2
    exact map_ne e3 e rfl))
  have hr : ∀ {v : Value} {n' : Nat} {xs : List Value}, w.ownsRow w0.heap.size 84 1 v n' xs → Far v kv → ∀ x, v.ownBlock = some x → (w5.setCell ⟨u, 3, none⟩ (.slice a nn cc)).heap[x]? = w.heap[x]? := fun h1 hfar x hx => by
    obtain ⟨_, _, e⟩ := own_type h1 hx
    exact (heap_setCell_other _ _ _ _ (cells_ne e hub (by decide))).trans (hot x (Array.getElem?_eq_some_iff.1 e).1 (hfar x hx))
  have hfar : ∀ {v : Value} {n' : Nat} {xs : List Value}, w.ownsRow w0.heap.size 84 1 v n' xs → Far v kv → Far v (.slice a nn cc) := fun h1 hfar x hx => by
    rcases hid with e | e
    · rw [e]; exact hfar x hx
    · have := (h1.lt x hx).2
      rw [e]
      intro e2
      injection e2 with e2
      omega
  have hu5 := (hot u (Array.getElem?_eq_some_iff.1 hub).1 (row_apart hkr hub (by decide))).trans hub
  have hbf : Below w0.heap.size w0 (w5.setCell ⟨u, 3, none⟩ (.slice a nn cc)) := (h.ties.below.trans hbel).setCell (h.low.2.2 u (List.mem_of_getElem? hu)) _
  have hkk : ∀ (i : Nat) (x : Value), i ≠ m → kvs[i]? = some x → Far x kv := fun i x hi hx => by
    rcases Nat.lt_or_gt_of_ne hi with h1 | h1
    · exact h.ap1 i m x kv h1 hx hk
    · exact (h.ap1 m i kv x h1 hk hx).symm
  obtain ⟨n0, g1, g2⟩ := h.kn
  refine ⟨a, nn, cc, w5, hrun, (lk_3 hu5).2.2.2, by simp [World.frozen?, hu5], ⟨h.ties.kept (hc _ _ _ _ h.ties.at_ (cells_ne h.ties.at_ hub (by decide)) (by decide)) (hm _ h.map1) (hm _ h.map2) hbf, h.tour.kept (hc _ _ _ _ h.tour.at_ (cells_ne h.tour.at_ hub (by decide)) (by decide)) (hr h.tour.row (h.ap2 m kv hk).2.symm) (fun M e => hm M (h.mapM e)), ⟨n0, g1, g2.same (hm _ h.mapK)⟩, g_row_block h.rts (hr h.rts (h.ap2 m kv hk).1.symm), h.lns, by rw [List.length_set]; exact h.lcs, by rw [List.length_set]; exact h.lkv, h.nd, fun i n2 b2 kv2 c2 e1 e2 e3 e4 => ?_, fun i j x y hij hx hy => ?_, fun i x hx => ?_, h.ap3, h.low, h.ne⟩, fun x c' fr e => ?_⟩
  · by_cases e : m = i
    · subst e
      rw [List.getElem?_set_self hmk] at e3
      rw [List.getElem?_set_self hmc] at e4
      rw [hu] at e2
      rw [hn] at e1
      obtain rfl := Option.some.inj e1
      obtain rfl := Option.some.inj e2
      obtain rfl := Option.some.inj e3
      obtain rfl := Option.some.inj e4
      exact ⟨lk_set3 hu5 _, row_set hown (row_apart hown hu5 (by decide)) _ _⟩
    · rw [List.getElem?_set_ne e] at e3 e4
      obtain ⟨k1, k2⟩ := h.knot i n2 b2 kv2 c2 e1 e2 e3 e4
      have hne : b2 ≠ u := fun e5 => by
        subst e5
        exact e ((List.getElem?_inj hmm h.nd).1 (hu.trans e2.symm))
      exact ⟨(hc _ _ _ _ k1 hne (by decide)).trans k1, g_row_block k2 (hr k2 (hkk i kv2 (Ne.symm e) e3))⟩
  · by_cases e1 : m = i
    · subst e1
      rw [List.getElem?_set_self hmk] at hx
      rw [List.getElem?_set_ne (by omega)] at hy
      obtain rfl := Option.some.inj hx
      obtain ⟨_, _, c2, _, _, _, _, k2⟩ := h.kvAt hy
      exact (hfar k2 (hkk j y (by omega) hy)).symm
    · rw [List.getElem?_set_ne e1] at hx
      by_cases e2 : m = j
      · subst e2
        rw [List.getElem?_set_self hmk] at hy
        obtain rfl := Option.some.inj hy
        obtain ⟨_, _, c2, _, _, _, _, k2⟩ := h.kvAt hx
        exact hfar k2 (hkk i x (by omega) hx)
      · rw [List.getElem?_set_ne e2] at hy
        exact h.ap1 i j x y hij hx hy
  · by_cases e1 : m = i
    · subst e1
      rw [List.getElem?_set_self hmk] at hx
      obtain rfl := Option.some.inj hx
      exact ⟨(hfar h.rts (h.ap2 m kv hk).1.symm).symm, (hfar h.tour.row (h.ap2 m kv hk).2.symm).symm⟩
    · rw [List.getElem?_set_ne e1] at hx
      exact h.ap2 i x hx
  · rw [hc x c' _ fr e (cells_ne e hub (by decide)) (by decide)]
    exact e
end
end Go.Proofs.Ytkdlakcmhdiojaa
/- The program's loom: the knot of a node. -/
namespace Go.Proofs.Ytkdlakcmhdiojaa
open Go.ChangeShapes Go.WideShapes Go.ChangeAt Go.RowKit Go.Deep Go.Maps
section
variable {w0 w : World} {B T B1 B2 K : Nat} {lv : Value} {q p : Nat} {t : Ti} {f : Int → Option Nat} {mb : List Nat} {ns : List Nd} {cs : List (List Nat)} {rs : List Nat} {nv mv rv : Value} {kvs : List Value}
theorem LmS.cells (h : LmS w0 B T B1 B2 K lv q p t f mb ns cs rs nv mv rv kvs w) : w.cell? ⟨B, 0, none⟩ = some nv ∧ w.cell? ⟨B, 1, none⟩ = some mv ∧ w.cell? ⟨B, 2, none⟩ = some (.pointer (some ⟨T, 0, none⟩)) ∧ w.cell? ⟨B, 3, none⟩ = some (.map (some K)) ∧ w.cell? ⟨B, 4, none⟩ = some rv := lm_4 h.tour.at_
theorem zeroKn (w : World) : (zeroValue 84).run Try.prog w = .ok (.pointer none) w := Try.zeroValue84 w
set_option maxRecDepth 100000 in
set_option maxHeartbeats 8000000 in
theorem knotOf_alias {l : List Ev} (h : LmS w0 B T B1 B2 K lv q p t f mb ns cs rs nv mv rv kvs w) (hS : SlE w0 lv l) (hl : l.length ≤ 1048576) {k m b : Nat} {e : Ev} (he : l[k]? = some e) (h6 : e.kind = 6) (hd : t.defs (k : Int) = some m) (hm : m ≤ 1048576) (hf : f (m : Int) = some b) :
    Calls Try.prog 51 #[.pointer (some ⟨B, 0, none⟩), .int .i64 (k : Int)] w fun r w' => r = .returned (.pointer (some ⟨b, 0, none⟩)) ∧ Below w.heap.size w w' := by
  obtain ⟨la, lc, rfl⟩ := hS.sl
  have hk : k < l.length := (List.getElem?_eq_some_iff.1 he).1
  have hkI : (k : Int) < (l.length : Int) := by omega
  have hlI : (l.length : Int) ≤ 1048576 := by omega
  obtain ⟨bb, off, rfl, hbb, ⟨c0, c1, c2, c3, c4, c5, c6, c7⟩⟩ := hS.at h.ties.below he
  obtain ⟨kind, style, flag, text, anchor, tag, at_, code⟩ := e
  simp only at c0 c1 c2 c3 c4 c5 c6 c7 h6
  subst h6
  obtain ⟨x0, x1, x2, x3, x4⟩ := h.cells
  have y0 := h.ties.at_.c0
  obtain ⟨V, hV⟩ : ∃ V, w.alloc (.cells #[.int .i64 6, .int .i64 style, .bool flag, .string text, .string anchor, .string tag, .int .i64 at_, .int .i64 code] 47) = V := ⟨_, rfl⟩
  have hBV : Below w.heap.size w V := by rw [← hV]; exact al_belowG w _
  have hVE : V.heap[w.heap.size]? = some (.cells #[.int .i64 6, .int .i64 style, .bool flag, .string text, .string anchor, .string tag, .int .i64 at_, .int .i64 code] 47 (0, 0)) := by rw [← hV]; exact heap_alloc_new w _
  have hL := h.stays hBV
  obtain ⟨_, _, z2, z3, _⟩ := hL.cells
  have u3 := hL.ties.at_.c3
  have v0 : V.cell? ⟨w.heap.size, 0, none⟩ = some (.int .i64 6) := by simp [World.cell?, hVE]
  obtain ⟨n2, _, hM2⟩ := hL.ties.df
  obtain ⟨nK, _, hMK⟩ := hL.kn
  have r1 := hM2.look_f dkeyed Try.underlying97 (zeroNum V) (dkey_mk (WalkArith.wf_i64 (by omega))) hd
  have r2 := hMK.look_f dkeyed Try.underlying73 (zeroKn V) (dkey_mk (WalkArith.wf_i64 (by omega))) hf
  have r3 := (hM2.same (w' := V.drew) rfl).look_f dkeyed Try.underlying97 (zeroNum V.drew) (dkey_mk (WalkArith.wf_i64 (by omega))) hd
  have r4 := (hMK.same (w' := V.drew) rfl).look_f dkeyed Try.underlying73 (zeroKn V.drew) (dkey_mk (WalkArith.wf_i64 (by omega))) hf
  unfold natV at r1 r3
  unfold ptr at r2 r4
  have HB := hidG hBV
  have HV := hidG hV
  clear h hS hl hd hm hf he hk hbb hV hBV hVE hL hM2 hMK
  go_enter Try.func51, Try.ntmps51
  go_wp2_with fail
  rw [HV.out]
  clear c0 c1 c2 c3 c4 c5 c6 c7 x0 x1 x2 x3 x4 y0
  go_wp2_with fail
  go_region
  all_goals (
    go_wp2_with fail
    go_ret
    exact ⟨rfl, HB.out.drew⟩)
set_option maxRecDepth 100000 in
set_option maxHeartbeats 8000000 in
theorem knotOf_new {l : List Ev} (h : LmS w0 B T B1 B2 K lv q p t f mb ns cs rs nv mv rv kvs w) (hS : SlE w0 lv l) (hl : l.length ≤ 1048576) {k : Nat} {e : Ev} (he : l[k]? = some e) (h6 : e.kind ≠ 6) :
    Calls Try.prog 51 #[.pointer (some ⟨B, 0, none⟩), .int .i64 (k : Int)] w fun r w' => ∃ b, r = .returned (.pointer (some ⟨b, 0, none⟩)) ∧ w.heap.size ≤ b ∧ w'.heap[b]? = some (.cells (knV (ndOf l k []) (.slice none 0 0)) 89 (0, 0)) ∧ Below w.heap.size w w' := by
  rw [ndOf_at he]
  obtain ⟨la, lc, rfl⟩ := hS.sl
  have hk : k < l.length := (List.getElem?_eq_some_iff.1 he).1
  have hkI : (k : Int) < (l.length : Int) := by omega
  have hlI : (l.length : Int) ≤ 1048576 := by omega
  obtain ⟨bb, off, rfl, hbb, ⟨c0, c1, c2, c3, c4, c5, c6, c7⟩⟩ := hS.at h.ties.below he
  obtain ⟨kind, style, flag, text, anchor, tag, at_, code⟩ := e
  simp only at c0 c1 c2 c3 c4 c5 c6 c7 h6
  have t6 : (kind == 6) = false := by rw [beq_eq_false_iff_ne]; exact h6
  obtain ⟨x0, x1, x2, x3, x4⟩ := h.cells
  have y0 := h.ties.at_.c0
  obtain ⟨V, hV⟩ : ∃ V, w.alloc (.cells #[.int .i64 kind, .int .i64 style, .bool flag, .string text, .string anchor, .string tag, .int .i64 at_, .int .i64 code] 47) = V := ⟨_, rfl⟩
  have hBV : Below w.heap.size w V := by rw [← hV]; exact al_belowG w _
  have hVE : V.heap[w.heap.size]? = some (.cells #[.int .i64 kind, .int .i64 style, .bool flag, .string text, .string anchor, .string tag, .int .i64 at_, .int .i64 code] 47 (0, 0)) := by rw [← hV]; exact heap_alloc_new w _
  have v0 : V.cell? ⟨w.heap.size, 0, none⟩ = some (.int .i64 kind) := by simp [World.cell?, hVE]
  have v3 : V.cell? ⟨w.heap.size, 3, none⟩ = some (.string text) := by simp [World.cell?, hVE]
  have v5 : V.cell? ⟨w.heap.size, 5, none⟩ = some (.string tag) := by simp [World.cell?, hVE]
  have HVS : Hid (V.heap.size = w.heap.size + 1) := by show _ = _; rw [← hV]; show (w.heap.push _).size = _; simp
  have HB := hidG hBV
  have HV := hidG hV
  clear h hS hl he hk hbb hV hBV hVE h6
  go_enter Try.func51, Try.ntmps51
  go_wp2_with fail
  rw [HV.out]
  clear c0 c1 c2 c3 c4 c5 c6 c7 x0 x1 x2 x3 x4 y0
  go_wp2_with fail
  go_ret
  exact ⟨w.heap.size + 1, rfl, Nat.le_succ _, by rw [← HVS.out]; exact heap_alloc_new V _, HB.out.trans ((al_belowG V _).mono HB.out.size)⟩
end
end Go.Proofs.Ytkdlakcmhdiojaa

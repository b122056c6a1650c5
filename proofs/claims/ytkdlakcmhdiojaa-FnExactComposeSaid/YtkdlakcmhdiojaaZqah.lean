/- Several texts in one: Gmu Gme Gov Gsp Gsw Gmk. -/
import Derived.Test.YtkdlakcmhdiojaaZqag
import Derived.Test.YtkdlakcmhdiojaaZqae
/- The program's meet: a knot that was met, and one that wasn't. -/
namespace Go.Proofs.Ytkdlakcmhdiojaa
open Go.ChangeShapes Go.WideShapes Go.ChangeAt Go.RowKit Go.Deep
set_option maxRecDepth 100000 in
set_option maxHeartbeats 8000000 in
theorem meet_old (B : Nat) (t : TypeId) (rest : List Value) (lo : Nat) (mb : List Nat) (b : Nat) (w : World) (hT : TrAt B t rest lo mb w) (hL : ∀ x ∈ mb, Live w x) (hm : b ∈ mb) :
    Calls Try.prog 52 #[.pointer (some ⟨B, 0, none⟩), .pointer (some ⟨b, 0, none⟩)] w fun e w' => e = .returned (.tuple #[.int .i64 (ix b mb : Int), .bool false]) ∧ w' = w := by
  obtain ⟨nv, ma, mn, mc, h1, h2, h3⟩ := hT.ex
  obtain ⟨M, rfl, hlo, hM⟩ : ∃ M, nv = .map (some M) ∧ lo ≤ M ∧ PmAt natVG w M (numF mb) := by
    rcases h3 with ⟨_, h3⟩ | h3
    · rw [h3] at hm; cases hm
    · exact h3
  obtain ⟨ti, hti, hsz⟩ := infoKi
  have hlook := hM.look (P := Try.prog) (fun x v hx => hL x (by unfold numF at hx; split at hx; assumption; cases hx)) Try.underlying74 Try.underlying84 hti hsz (zeroNumG w) (hL b hm) true
  have hf : numF mb b = some (ix b mb) := by unfold numF; rw [if_pos hm]
  rw [hf] at hlook
  simp only [if_true, natVG, Option.isSome, ptr] at hlook
  have c0 := tr_0 h1
  clear hT h1 h2 h3 hL hM hf
  go_enter Try.func52, Try.ntmps52
  go_wp2_with fail
  go_ret2
  exact ⟨rfl, rfl⟩
set_option maxRecDepth 100000 in
/-- A knot gets its number, and comes behind those that were met. -/
theorem meet_step (B : Nat) (t : TypeId) (rest : List Value) (lo : Nat) (mb : List Nat) (b M : Nat) (ma : Option Addr) (mc : Nat) (u : World) (h1 : u.heap[B]? = some (.cells (.map (some M) :: .slice ma mb.length mc :: rest).toArray t (0, 0))) (h2 : u.ownsRow lo 84 1 (.slice ma mb.length mc) mb.length (plV mb)) (hM : PmAt natVG u M (numF mb)) (hlo : lo ≤ M) (hL : ∀ x ∈ mb, Live u x) (hb : Live u b) (hm : b ∉ mb) (ht : t ≠ 84) (hB : lo ≤ B) (hl : mb.length ≤ 1048576) :
    ∃ u' w5 a5 n5 c5, (Instr.mapUpdate 74 (.map (some M)) (.pointer (some ⟨b, 0, none⟩)) (.int .i64 (mb.length : Int))).run Try.prog u = .ok () u' ∧ (Builtin.append_ #[75, 75] 75 #[.slice ma mb.length mc, .slice (some ⟨u'.heap.size, 0, none⟩) 1 1]).run Try.prog (u'.alloc (.cells #[.pointer (some ⟨b, 0, none⟩)] 84)) = .ok (.slice a5 n5 c5) w5 ∧
      TrAt B t rest lo (mb ++ [b]) (w5.setCell ⟨B, 1, none⟩ (.slice a5 n5 c5)) ∧ Below lo u (w5.setCell ⟨B, 1, none⟩ (.slice a5 n5 c5)) ∧ KeepT B u (w5.setCell ⟨B, 1, none⟩ (.slice a5 n5 c5)) ∧
      u'.cell? ⟨B, 0, none⟩ = some (.map (some M)) ∧ u'.cell? ⟨B, 1, none⟩ = some (.slice ma mb.length mc) ∧ B < u'.heap.size ∧ w5.cell? ⟨B, 1, none⟩ = some (.slice ma mb.length mc) ∧ w5.frozen? ⟨B, 1, none⟩ = false := by
  obtain ⟨ti, hti, hsz⟩ := infoKi
  obtain ⟨u', hup, hM', hg, hus⟩ := hM.put (P := Try.prog) (fun x v hx => hL x (by unfold numF at hx; split at hx; assumption; cases hx)) Try.underlying74 Try.underlying84 hti hsz hb mb.length
  have hBl : B < u.heap.size := (Array.getElem?_eq_some_iff.1 h1).1
  have hMB : M ≠ B := by
    rintro rfl
    obtain ⟨es, clock, he⟩ := hM.isMap
    rw [he] at h1
    cases h1
  have k1 : u'.heap[B]? = u.heap[B]? := hg.block B hBl (by intro e; injection e with e; exact hMB e.symm)
  have kr : ∀ g, (Value.slice ma mb.length mc).ownBlock = some g → u'.heap[g]? = u.heap[g]? := fun g hgg => hg.block g (h2.lt g hgg).2 (by
    intro e
    injection e with e
    subst e
    obtain ⟨es, clock, he⟩ := hM.isMap
    rcases h2.2 with ⟨e1, _⟩ | ⟨g2, cap, cur, e1, _, hg2, _⟩
    · rw [e1] at hgg; simp [Value.ownBlock] at hgg
    · rw [e1] at hgg
      have : g2 = g := by simpa [Value.ownBlock] using hgg
      subst this
      rw [he] at hg2
      cases hg2)
  have h2' := g_row_block h2 kr
  have h1' := k1.trans h1
  have hul : lo ≤ u'.heap.size := by rw [hus]; omega
  obtain ⟨v5, w5, hrun5, hsl5, hown5, hbel5, hot5, hid5⟩ := push_own2 (P := Try.prog) Try.underlying75 infoKn rfl (by decide) u' lo _ _ _ h2' #[ptr b] rfl (by intro u hu; simp at hu; subst hu; rfl) (by omega) (by omega) hul 75
  obtain ⟨a5, n5, c5, rfl⟩ := hsl5
  have hBr : (Value.slice ma mb.length mc).ownBlock ≠ some B := row_apart h2' h1' ht
  have k5 : w5.heap[B]? = u'.heap[B]? := hot5 B (by omega) hBr
  have h5 := k5.trans h1'
  have hMr : (Value.slice ma mb.length mc).ownBlock ≠ some M := fun e => by
    obtain ⟨es, clock, he⟩ := hM.isMap
    rcases h2.2 with ⟨e1, _⟩ | ⟨g2, cap, cur, e1, _, hg2, _⟩
    · rw [e1] at e; simp [Value.ownBlock] at e
    · rw [e1] at e
      have : g2 = M := by simpa [Value.ownBlock] using e
      subst this
      rw [he] at hg2
      cases hg2
  have hM5 : PmAt natVG w5 M (numF (mb ++ [b])) := by
    rw [← numF_put hm]
    exact hM'.same (hot5 M hM'.lt hMr)
  have hset : ∀ x, x ≠ B → (w5.setCell ⟨B, 1, none⟩ (.slice a5 n5 c5)).heap[x]? = w5.heap[x]? := fun x hx => heap_setCell_other _ _ _ _ hx
  have hr5 : (Value.slice a5 n5 c5).ownBlock ≠ some B := row_apart hown5 h5 ht
  have hn5 : n5 = mb.length + 1 := by
    rcases hown5.2 with ⟨e1, e2⟩ | ⟨gb, cap, cur, e1, _⟩
    · injection e1 with _ e1 _; omega
    · injection e1
  refine ⟨u', w5, a5, n5, c5, hup, hrun5, ⟨_, a5, n5, c5, tr_set1 h5 _, ?_, .inr ⟨M, rfl, hlo, hM5.same (hset M hMB)⟩⟩, ?_, ?_, tr_0 h1', tr_1 h1', by omega, tr_1 h5, tr_f h5 1⟩
  · rw [List.length_append, plV_snoc]
    exact row_set hown5 hr5 _ _
  · have hb1 : Below lo u u' := ⟨hg.os, hg.tape, hg.output, hg.size, fun j hj => hg.block j (by omega) (by intro e; injection e with e; omega)⟩
    exact (hb1.trans hbel5).setCell hB _
  · intro x cs t' fr hx ht' hxB
    have hxM : x ≠ M := by
      rintro rfl
      obtain ⟨es, clock, he⟩ := hM.isMap
      rw [he] at hx
      cases hx
    have hxl : x < u.heap.size := (Array.getElem?_eq_some_iff.1 hx).1
    rw [hset x hxB, hot5 x (by omega) (row_apart h2' ((hg.block x hxl (by intro e; injection e with e; exact hxM e)).trans hx) ht')]
    exact hg.block x hxl (by intro e; injection e with e; exact hxM e)
set_option maxRecDepth 100000 in
set_option maxHeartbeats 8000000 in
theorem meet_new (B : Nat) (t : TypeId) (rest : List Value) (lo : Nat) (mb : List Nat) (b : Nat) (w : World) (hT : TrAt B t rest lo mb w) (hL : ∀ x ∈ mb, Live w x) (hb : Live w b) (hm : b ∉ mb) (ht : t ≠ 84) (hB : lo ≤ B) (hl : mb.length ≤ 1048576) :
    Calls Try.prog 52 #[.pointer (some ⟨B, 0, none⟩), .pointer (some ⟨b, 0, none⟩)] w fun e w' => e = .returned (.tuple #[.int .i64 (mb.length : Int), .bool true]) ∧ TrAt B t rest lo (mb ++ [b]) w' ∧ Below lo w w' ∧ KeepT B w w' := by
  obtain ⟨nv, ma, mn, mc, h1, h2, h3⟩ := hT.ex
  have hlt := hT.lt
  obtain ⟨ti, hti, hsz⟩ := infoKi
  have hmn : mn = mb.length := by
    rcases h2.2 with ⟨e1, e2⟩ | ⟨gb, cap, cur, e1, _⟩
    · injection e1 with _ e1 _; omega
    · injection e1
  subst hmn
  have hlI : (mb.length : Int) ≤ 1048576 := by omega
  have hBr : (Value.slice ma mb.length mc).ownBlock ≠ some B := row_apart h2 h1 ht
  have hLf : ∀ (u : World), (∀ x, Live w x → Live u x) → ∀ x v, numF mb x = some v → Live u x := fun u hu x v hx => hu x (hL x (by unfold numF at hx; split at hx; assumption; cases hx))
  rcases h3 with ⟨rfl, hmb⟩ | ⟨M, rfl, hlo, hM⟩
  · -- the first one of all: the map is made
    have hlook := ptr_look_nil (P := Try.prog) (w := w) Try.underlying74 Try.underlying84 (zeroNumG w) b true
    have hq : ∀ (w : World), (binOp .eql 74 (.map none) (.map none)).run Try.prog w = .ok (.bool true) w := fun w => run_eql_map_nil w _ _ _ none Try.underlying74
    obtain ⟨W, hW⟩ : ∃ W, (w.setCell ⟨B, 0, none⟩ (.map (some w.heap.size))).alloc (.map #[] 0) = W := ⟨_, rfl⟩
    have hss : (w.setCell ⟨B, 0, none⟩ (.map (some w.heap.size))).heap.size = w.heap.size := by simp
    have hx : ∀ x, x ≠ B → x < w.heap.size → W.heap[x]? = w.heap[x]? := fun x hx hxl => by rw [← hW, Below.heap_alloc _ _ _ (by rw [hss]; exact hxl)]; exact heap_setCell_other _ _ _ _ hx
    have e1 : W.heap[B]? = some (.cells (.map (some w.heap.size) :: .slice ma mb.length mc :: rest).toArray t (0, 0)) := by rw [← hW, Below.heap_alloc _ _ _ (by rw [hss]; exact hlt)]; exact tr_set0 h1 _
    have e2 : W.ownsRow lo 84 1 (.slice ma mb.length mc) mb.length (plV mb) := g_row_block h2 (fun x hxo => hx x (fun e => hBr (by rw [hxo, e])) (h2.lt x hxo).2)
    have hWs : W.heap.size = w.heap.size + 1 := by rw [← hW]; simp
    have e3 : PmAt natVG W w.heap.size (numF mb) := by
      have h4 := PmAt.made (w.setCell ⟨B, 0, none⟩ (.map (some w.heap.size))) natVG
      have h5 : (fun _ => none : Nat → Option Nat) = numF mb := by
        funext x
        unfold numF
        rw [hmb]
        simp
      rw [h5, hW, hss] at h4
      exact h4
    have hLW : ∀ x, Live w x → Live W x := fun x ⟨cs, tt, hh⟩ => by
      by_cases e : x = B
      · subst e
        exact ⟨_, _, e1⟩
      · exact ⟨cs, tt, (hx x e (Array.getElem?_eq_some_iff.1 hh).1).trans hh⟩
    have hbW : Below lo w W := by rw [← hW]; exact ((Below.refl lo w).setCell hB _).alloc (by rw [hss]; omega) _
    have hkW : KeepT B w W := fun x cs tt fr hh _ hxB => hx x hxB (Array.getElem?_eq_some_iff.1 hh).1
    obtain ⟨u', w5, a5, n5, c5, hup, hrun5, hT5, hB5, hK5, f0, f1, f2, f3, f4⟩ := meet_step B t rest lo mb b w.heap.size ma mc W e1 e2 e3 (by omega) (fun x hxm => hLW x (hL x hxm)) (hLW b hb) hm ht hB hl
    have HR : Hid (TrAt B t rest lo (mb ++ [b]) (w5.setCell ⟨B, 1, none⟩ (.slice a5 n5 c5)) ∧ Below lo w (w5.setCell ⟨B, 1, none⟩ (.slice a5 n5 c5)) ∧ KeepT B w (w5.setCell ⟨B, 1, none⟩ (.slice a5 n5 c5))) := ⟨hT5, hbW.trans hB5, hkW.trans hK5⟩
    simp only [if_true, ptr] at hlook
    have c0 := tr_0 h1
    have df := tr_f h1 0
    have hBw : B < w.heap.size := hlt
    have d0 := tr_0 (tr_set0 h1 (.map (some w.heap.size)))
    have d1 := tr_1 (tr_set0 h1 (.map (some w.heap.size)))
    have g0 := tr_0 e1
    have g1 := tr_1 e1
    subst hW
    clear hT h1 h2 hL hb hm hLf hmb hss hx e1 e2 hWs e3 hLW hbW hkW hT5 hB5 hK5 hBr ht
    go_enter Try.func52, Try.ntmps52
    have hmm := @run_makeMap Try.prog
    go_wp2_with (at_builtin; refine append_run rfl _ _ 75 rfl _ _ rfl rfl _ w5 hrun5 ?_)
    go_ret2
    exact ⟨rfl, HR.out⟩
  · -- the map is there
    have hf : numF mb b = none := by unfold numF; rw [if_neg hm]
    have hlook := hM.look (P := Try.prog) (hLf w (fun _ h => h)) Try.underlying74 Try.underlying84 hti hsz (zeroNumG w) hb true
    rw [hf] at hlook
    have hq : ∀ (w : World), (binOp .eql 74 (.map (some M)) (.map none)).run Try.prog w = .ok (.bool false) w := fun w => run_eql_map_nil w _ _ _ (some M) Try.underlying74
    obtain ⟨u', w5, a5, n5, c5, hup, hrun5, hT5, hB5, hK5, f0, f1, f2, f3, f4⟩ := meet_step B t rest lo mb b M ma mc w h1 h2 hM hlo hL hb hm ht hB hl
    have HR : Hid (TrAt B t rest lo (mb ++ [b]) (w5.setCell ⟨B, 1, none⟩ (.slice a5 n5 c5)) ∧ Below lo w (w5.setCell ⟨B, 1, none⟩ (.slice a5 n5 c5)) ∧ KeepT B w (w5.setCell ⟨B, 1, none⟩ (.slice a5 n5 c5))) := ⟨hT5, hB5, hK5⟩
    simp only [if_true, ptr, Option.isSome] at hlook
    have c0 := tr_0 h1
    have c1 := tr_1 h1
    clear hT h1 h2 hL hb hm hLf hM hf hT5 hB5 hK5 hBr ht hlo
    go_enter Try.func52, Try.ntmps52
    go_wp2_with (at_builtin; refine append_run rfl _ _ 75 rfl _ _ rfl rfl _ w5 hrun5 ?_)
    go_ret2
    exact ⟨rfl, HR.out⟩
end Go.Proofs.Ytkdlakcmhdiojaa
/- The program's meet, with all that it leaves alone. -/
namespace Go.Proofs.Ytkdlakcmhdiojaa
open Go.ChangeShapes Go.WideShapes Go.ChangeAt Go.RowKit Go.Deep
/-- The tour at block B, its map nv and its row v named. -/
structure TrX (B : Nat) (t : TypeId) (rest : List Value) (lo : Nat) (mb : List Nat) (nv v : Value) (w : World) : Prop where
  at_ : w.heap[B]? = some (.cells (nv :: v :: rest).toArray t (0, 0))
  sl : ∃ ma mc, v = .slice ma mb.length mc
  row : w.ownsRow lo 84 1 v mb.length (plV mb)
  map : (nv = .map none ∧ mb = []) ∨ ∃ M, nv = .map (some M) ∧ lo ≤ M ∧ PmAt natVG w M (numF mb)
/-- What a meeting leaves: all but the tour's block, its map and its row. -/
structure FrX (B : Nat) (nv v nv' v' : Value) (w w' : World) : Prop where
  size : w.heap.size ≤ w'.heap.size
  blk : ∀ x, x < w.heap.size → x ≠ B → v.ownBlock ≠ some x → nv ≠ .map (some x) → w'.heap[x]? = w.heap[x]?
  row : v'.ownBlock = v.ownBlock ∨ ∃ y, v'.ownBlock = some y ∧ w.heap.size ≤ y
  map : nv' = nv ∨ ∃ y, nv' = .map (some y) ∧ w.heap.size ≤ y
theorem TrX.tr {B : Nat} {t : TypeId} {rest : List Value} {lo : Nat} {mb : List Nat} {nv v : Value} {w : World} (h : TrX B t rest lo mb nv v w) : TrAt B t rest lo mb w := by
  obtain ⟨ma, mc, rfl⟩ := h.sl
  exact ⟨nv, ma, _, mc, h.at_, h.row, h.map⟩
set_option maxRecDepth 100000 in
/-- A knot gets its number, and comes behind those that were met. -/
theorem meet_stepX (B : Nat) (t : TypeId) (rest : List Value) (lo : Nat) (mb : List Nat) (b M : Nat) (ma : Option Addr) (mc : Nat) (u : World) (h1 : u.heap[B]? = some (.cells (.map (some M) :: .slice ma mb.length mc :: rest).toArray t (0, 0))) (h2 : u.ownsRow lo 84 1 (.slice ma mb.length mc) mb.length (plV mb)) (hM : PmAt natVG u M (numF mb)) (hlo : lo ≤ M) (hL : ∀ x ∈ mb, Live u x) (hb : Live u b) (hm : b ∉ mb) (ht : t ≠ 84) (hB : lo ≤ B) (hl : mb.length ≤ 1048576) :
    ∃ u' w5 a5 n5 c5, (Instr.mapUpdate 74 (.map (some M)) (.pointer (some ⟨b, 0, none⟩)) (.int .i64 (mb.length : Int))).run Try.prog u = .ok () u' ∧ (Builtin.append_ #[75, 75] 75 #[.slice ma mb.length mc, .slice (some ⟨u'.heap.size, 0, none⟩) 1 1]).run Try.prog (u'.alloc (.cells #[.pointer (some ⟨b, 0, none⟩)] 84)) = .ok (.slice a5 n5 c5) w5 ∧
      TrX B t rest lo (mb ++ [b]) (.map (some M)) (.slice a5 n5 c5) (w5.setCell ⟨B, 1, none⟩ (.slice a5 n5 c5)) ∧ Below lo u (w5.setCell ⟨B, 1, none⟩ (.slice a5 n5 c5)) ∧ FrX B (.map (some M)) (.slice ma mb.length mc) (.map (some M)) (.slice a5 n5 c5) u (w5.setCell ⟨B, 1, none⟩ (.slice a5 n5 c5)) ∧
      u'.cell? ⟨B, 0, none⟩ = some (.map (some M)) ∧ u'.cell? ⟨B, 1, none⟩ = some (.slice ma mb.length mc) ∧ B < u'.heap.size ∧ w5.cell? ⟨B, 1, none⟩ = some (.slice ma mb.length mc) ∧ w5.frozen? ⟨B, 1, none⟩ = false := by
  obtain ⟨ti, hti, hsz⟩ := infoKi
  obtain ⟨u', hup, hM', hg, hus⟩ := hM.put (P := Try.prog) (fun x v hx => hL x (by unfold numF at hx; split at hx; assumption; cases hx)) Try.underlying74 Try.underlying84 hti hsz hb mb.length
  have hBl : B < u.heap.size := (Array.getElem?_eq_some_iff.1 h1).1
  have hMB : M ≠ B := by
    rintro rfl
    obtain ⟨es, clock, he⟩ := hM.isMap
    rw [he] at h1
    cases h1
  have k1 : u'.heap[B]? = u.heap[B]? := hg.block B hBl (by intro e; injection e with e; exact hMB e.symm)
  have kr : ∀ g, (Value.slice ma mb.length mc).ownBlock = some g → u'.heap[g]? = u.heap[g]? := fun g hgg => hg.block g (h2.lt g hgg).2 (by
    intro e
    injection e with e
    subst e
    obtain ⟨es, clock, he⟩ := hM.isMap
    rcases h2.2 with ⟨e1, _⟩ | ⟨g2, cap, cur, e1, _, hg2, _⟩
    · rw [e1] at hgg; simp [Value.ownBlock] at hgg
    · rw [e1] at hgg
      have : g2 = g := by simpa [Value.ownBlock] using hgg
      subst this
      rw [he] at hg2
      cases hg2)
  have h2' := g_row_block h2 kr
  have h1' := k1.trans h1
  have hul : lo ≤ u'.heap.size := by rw [hus]; omega
  obtain ⟨v5, w5, hrun5, hsl5, hown5, hbel5, hot5, hid5⟩ := push_own2 (P := Try.prog) Try.underlying75 infoKn rfl (by decide) u' lo _ _ _ h2' #[ptr b] rfl (by intro u hu; simp at hu; subst hu; rfl) (by omega) (by omega) hul 75
  obtain ⟨a5, n5, c5, rfl⟩ := hsl5
  have hBr : (Value.slice ma mb.length mc).ownBlock ≠ some B := row_apart h2' h1' ht
  have k5 : w5.heap[B]? = u'.heap[B]? := hot5 B (by omega) hBr
  have h5 := k5.trans h1'
  have hMr : (Value.slice ma mb.length mc).ownBlock ≠ some M := fun e => by
    obtain ⟨es, clock, he⟩ := hM.isMap
    rcases h2.2 with ⟨e1, _⟩ | ⟨g2, cap, cur, e1, _, hg2, _⟩
    · rw [e1] at e; simp [Value.ownBlock] at e
    · rw [e1] at e
      have : g2 = M := by simpa [Value.ownBlock] using e
      subst this
      rw [he] at hg2
      cases hg2
  have hM5 : PmAt natVG w5 M (numF (mb ++ [b])) := by
    rw [← numF_put hm]
    exact hM'.same (hot5 M hM'.lt hMr)
  have hset : ∀ x, x ≠ B → (w5.setCell ⟨B, 1, none⟩ (.slice a5 n5 c5)).heap[x]? = w5.heap[x]? := fun x hx => heap_setCell_other _ _ _ _ hx
  have hr5 : (Value.slice a5 n5 c5).ownBlock ≠ some B := row_apart hown5 h5 ht
  have hn5 : n5 = mb.length + 1 := by
    rcases hown5.2 with ⟨e1, e2⟩ | ⟨gb, cap, cur, e1, _⟩
    · injection e1 with _ e1 _; omega
    · injection e1
  refine ⟨u', w5, a5, n5, c5, hup, hrun5, ⟨tr_set1 h5 _, ⟨a5, c5, by rw [hn5, List.length_append]; rfl⟩, ?_, .inr ⟨M, rfl, hlo, hM5.same (hset M hMB)⟩⟩, ?_, ⟨?_, ?_, ?_, .inl rfl⟩, tr_0 h1', tr_1 h1', by omega, tr_1 h5, tr_f h5 1⟩
  · rw [List.length_append, plV_snoc]
    exact row_set hown5 hr5 _ _
  · have hb1 : Below lo u u' := ⟨hg.os, hg.tape, hg.output, hg.size, fun j hj => hg.block j (by omega) (by intro e; injection e with e; omega)⟩
    exact (hb1.trans hbel5).setCell hB _
  · have h1 := hbel5.size
    show u.heap.size ≤ (w5.setCell ⟨B, 1, none⟩ (.slice a5 n5 c5)).heap.size
    simp [World.setCell]
    omega
  · intro x hxl hxB hxv hxM
    rw [hset x hxB, hot5 x (by omega) hxv]
    exact hg.block x hxl (by intro e; injection e with e; exact hxM (by rw [e]))
  · rcases hid5 with e | e
    · exact .inl e
    · exact .inr ⟨_, e, by omega⟩
set_option maxRecDepth 100000 in
set_option maxHeartbeats 8000000 in
theorem meet_newX (B : Nat) (t : TypeId) (rest : List Value) (lo : Nat) (mb : List Nat) (b : Nat) (w : World) (nv v : Value) (hT : TrX B t rest lo mb nv v w) (hL : ∀ x ∈ mb, Live w x) (hb : Live w b) (hm : b ∉ mb) (ht : t ≠ 84) (hB : lo ≤ B) (hl : mb.length ≤ 1048576) :
    Calls Try.prog 52 #[.pointer (some ⟨B, 0, none⟩), .pointer (some ⟨b, 0, none⟩)] w fun e w' => e = .returned (.tuple #[.int .i64 (mb.length : Int), .bool true]) ∧ ∃ nv' v', TrX B t rest lo (mb ++ [b]) nv' v' w' ∧ Below lo w w' ∧ FrX B nv v nv' v' w w' := by
  obtain ⟨h1, ⟨ma, mc, rfl⟩, h2, h3⟩ := hT
  have hlt : B < w.heap.size := (Array.getElem?_eq_some_iff.1 h1).1
  obtain ⟨ti, hti, hsz⟩ := infoKi
  have hlI : (mb.length : Int) ≤ 1048576 := by omega
  have hBr : (Value.slice ma mb.length mc).ownBlock ≠ some B := row_apart h2 h1 ht
  have hLf : ∀ (u : World), (∀ x, Live w x → Live u x) → ∀ x v, numF mb x = some v → Live u x := fun u hu x v hx => hu x (hL x (by unfold numF at hx; split at hx; assumption; cases hx))
  rcases h3 with ⟨rfl, hmb⟩ | ⟨M, rfl, hlo, hM⟩
  · -- the first one of all: the map is made
    have hlook := ptr_look_nil (P := Try.prog) (w := w) Try.underlying74 Try.underlying84 (zeroNumG w) b true
    have hq : ∀ (w : World), (binOp .eql 74 (.map none) (.map none)).run Try.prog w = .ok (.bool true) w := fun w => run_eql_map_nil w _ _ _ none Try.underlying74
    obtain ⟨W, hW⟩ : ∃ W, (w.setCell ⟨B, 0, none⟩ (.map (some w.heap.size))).alloc (.map #[] 0) = W := ⟨_, rfl⟩
    have hss : (w.setCell ⟨B, 0, none⟩ (.map (some w.heap.size))).heap.size = w.heap.size := by simp
    have hx : ∀ x, x ≠ B → x < w.heap.size → W.heap[x]? = w.heap[x]? := fun x hx hxl => by rw [← hW, Below.heap_alloc _ _ _ (by rw [hss]; exact hxl)]; exact heap_setCell_other _ _ _ _ hx
    have e1 : W.heap[B]? = some (.cells (.map (some w.heap.size) :: .slice ma mb.length mc :: rest).toArray t (0, 0)) := by rw [← hW, Below.heap_alloc _ _ _ (by rw [hss]; exact hlt)]; exact tr_set0 h1 _
    have e2 : W.ownsRow lo 84 1 (.slice ma mb.length mc) mb.length (plV mb) := g_row_block h2 (fun x hxo => hx x (fun e => hBr (by rw [hxo, e])) (h2.lt x hxo).2)
    have hWs : W.heap.size = w.heap.size + 1 := by rw [← hW]; simp
    have e3 : PmAt natVG W w.heap.size (numF mb) := by
      have h4 := PmAt.made (w.setCell ⟨B, 0, none⟩ (.map (some w.heap.size))) natVG
      have h5 : (fun _ => none : Nat → Option Nat) = numF mb := by
        funext x
        unfold numF
        rw [hmb]
        simp
      rw [h5, hW, hss] at h4
      exact h4
    have hLW : ∀ x, Live w x → Live W x := fun x ⟨cs, tt, hh⟩ => by
      by_cases e : x = B
      · subst e
        exact ⟨_, _, e1⟩
      · exact ⟨cs, tt, (hx x e (Array.getElem?_eq_some_iff.1 hh).1).trans hh⟩
    have hbW : Below lo w W := by rw [← hW]; exact ((Below.refl lo w).setCell hB _).alloc (by rw [hss]; omega) _
    have hkW : ∀ x, x < w.heap.size → x ≠ B → W.heap[x]? = w.heap[x]? := fun x hh hxB => hx x hxB hh
    obtain ⟨u', w5, a5, n5, c5, hup, hrun5, hT5, hB5, hK5, f0, f1, f2, f3, f4⟩ := meet_stepX B t rest lo mb b w.heap.size ma mc W e1 e2 e3 (by omega) (fun x hxm => hLW x (hL x hxm)) (hLW b hb) hm ht hB hl
    have HR : Hid (TrX B t rest lo (mb ++ [b]) (.map (some w.heap.size)) (.slice a5 n5 c5) (w5.setCell ⟨B, 1, none⟩ (.slice a5 n5 c5)) ∧ Below lo w (w5.setCell ⟨B, 1, none⟩ (.slice a5 n5 c5)) ∧ FrX B (.map none) (.slice ma mb.length mc) (.map (some w.heap.size)) (.slice a5 n5 c5) w (w5.setCell ⟨B, 1, none⟩ (.slice a5 n5 c5))) := by
      refine ⟨hT5, hbW.trans hB5, ⟨by have := hK5.size; omega, fun x hxl hxB hxv _ => ?_, ?_, .inr ⟨_, rfl, Nat.le_refl _⟩⟩⟩
      · exact (hK5.blk x (by omega) hxB hxv (by intro e; injection e with e; injection e with e; omega)).trans (hkW x hxl hxB)
      · rcases hK5.row with e | ⟨y, e, hy⟩
        · exact .inl e
        · exact .inr ⟨y, e, by omega⟩
    simp only [if_true, ptr] at hlook
    have c0 := tr_0 h1
    have df := tr_f h1 0
    have hBw : B < w.heap.size := hlt
    have d0 := tr_0 (tr_set0 h1 (.map (some w.heap.size)))
    have d1 := tr_1 (tr_set0 h1 (.map (some w.heap.size)))
    have g0 := tr_0 e1
    have g1 := tr_1 e1
    subst hW
    clear h1 h2 hL hb hm hLf hmb hss hx e1 e2 hWs e3 hLW hbW hkW hT5 hB5 hK5 hBr ht
    go_enter Try.func52, Try.ntmps52
    have hmm := @run_makeMap Try.prog
    go_wp2_with (at_builtin; refine append_run rfl _ _ 75 rfl _ _ rfl rfl _ w5 hrun5 ?_)
    go_ret2
    exact ⟨rfl, _, _, HR.out⟩
  · -- the map is there
    have hf : numF mb b = none := by unfold numF; rw [if_neg hm]
    have hlook := hM.look (P := Try.prog) (hLf w (fun _ h => h)) Try.underlying74 Try.underlying84 hti hsz (zeroNumG w) hb true
    rw [hf] at hlook
    have hq : ∀ (w : World), (binOp .eql 74 (.map (some M)) (.map none)).run Try.prog w = .ok (.bool false) w := fun w => run_eql_map_nil w _ _ _ (some M) Try.underlying74
    obtain ⟨u', w5, a5, n5, c5, hup, hrun5, hT5, hB5, hK5, f0, f1, f2, f3, f4⟩ := meet_stepX B t rest lo mb b M ma mc w h1 h2 hM hlo hL hb hm ht hB hl
    have HR : Hid (TrX B t rest lo (mb ++ [b]) (.map (some M)) (.slice a5 n5 c5) (w5.setCell ⟨B, 1, none⟩ (.slice a5 n5 c5)) ∧ Below lo w (w5.setCell ⟨B, 1, none⟩ (.slice a5 n5 c5)) ∧ FrX B (.map (some M)) (.slice ma mb.length mc) (.map (some M)) (.slice a5 n5 c5) w (w5.setCell ⟨B, 1, none⟩ (.slice a5 n5 c5))) := ⟨hT5, hB5, hK5⟩
    simp only [if_true, ptr, Option.isSome] at hlook
    have c0 := tr_0 h1
    have c1 := tr_1 h1
    clear h1 h2 hL hb hm hLf hM hf hT5 hB5 hK5 hBr ht hlo
    go_enter Try.func52, Try.ntmps52
    go_wp2_with (at_builtin; refine append_run rfl _ _ 75 rfl _ _ rfl rfl _ w5 hrun5 ?_)
    go_ret2
    exact ⟨rfl, _, _, HR.out⟩
end Go.Proofs.Ytkdlakcmhdiojaa
/- spec.GraphOk answers as the plain function. -/
namespace Go.Proofs.Ytkdlakcmhdiojaa
open Go.ChangeShapes Go.WideShapes Go.ChangeAt Go.RowKit Go.Deep
end Go.Proofs.Ytkdlakcmhdiojaa
/- Which nodes of a graph are shared: plain, and the counts in memory. -/
namespace Go.Proofs.Ytkdlakcmhdiojaa
open Go.ChangeShapes Go.WideShapes Go.ChangeAt Go.RowKit Go.Deep
def incAt (l : List Int) (k : Nat) : List Int := l.set k (l.getD k 0 + 1)
def cntI (l : List Int) (ks : List Int) : List Int := ks.foldl (fun l k => incAt l k.toNat) l
def cntN (l : List Int) (ns : List Nd) : List Int := ns.foldl (fun l n => cntI l n.kids) l
def sharedTo (l : List Int) : Nat → List Int
  | 0 => []
  | k + 1 => if 1 < l.getD k 0 then sharedTo l k ++ [(k : Int)] else sharedTo l k
def sharedG (g : Gr) : List Int := if graphOkP g = true then sharedTo (cntN (cntI (List.replicate g.nodes.length 0) g.roots) g.nodes) g.nodes.length else []
theorem cntI_take {l ks : List Int} {k : Nat} {x : Int} (h : ks[k]? = some x) : cntI l (ks.take (k + 1)) = incAt (cntI l (ks.take k)) x.toNat := by
  unfold cntI
  rw [List.take_add_one, h, List.foldl_append]
  rfl
theorem cntN_take {l : List Int} {ns : List Nd} {k : Nat} {n : Nd} (h : ns[k]? = some n) : cntN l (ns.take (k + 1)) = cntI (cntN l (ns.take k)) n.kids := by
  unfold cntN
  rw [List.take_add_one, h, List.foldl_append]
  rfl
theorem sharedTo_len (l : List Int) (k : Nat) : (sharedTo l k).length ≤ k := by
  induction k with
  | zero => exact Nat.le_refl _
  | succ k ih =>
    rw [sharedTo]
    split
    · rw [List.length_append]; simp; exact ih
    · omega
/-- The counts: as many as nodes, none above m. -/
structure Cn (N m : Nat) (l : List Int) : Prop where
  len : l.length = N
  bd : ∀ x ∈ l, 0 ≤ x ∧ x ≤ (m : Int)
theorem Cn.getD {N m : Nat} {l : List Int} (h : Cn N m l) (k : Nat) : 0 ≤ l.getD k 0 ∧ l.getD k 0 ≤ (m : Int) := by
  by_cases hk : k < l.length
  · have : l.getD k 0 = l[k] := by simp [List.getD, List.getElem?_eq_getElem hk]
    rw [this]
    exact h.bd _ (List.getElem_mem hk)
  · have : l.getD k 0 = 0 := by simp [List.getD, List.getElem?_eq_none (Nat.le_of_not_lt hk)]
    rw [this]
    omega
theorem Cn.inc {N m : Nat} {l : List Int} (h : Cn N m l) (k : Nat) : Cn N (m + 1) (incAt l k) := by
  refine ⟨by unfold incAt; rw [List.length_set]; exact h.len, fun x hx => ?_⟩
  have hg := h.getD k
  rcases List.mem_or_eq_of_mem_set hx with h1 | rfl
  · have := h.bd x h1
    omega
  · omega
theorem Cn.ints {N : Nat} : ∀ (ks : List Int) (m : Nat) (l : List Int), Cn N m l → Cn N (m + ks.length) (cntI l ks)
  | [], _, _, h => h
  | k :: ks, m, l, h => by
    have := Cn.ints ks (m + 1) _ (h.inc k.toNat)
    rw [List.length_cons, show m + (ks.length + 1) = m + 1 + ks.length by omega]
    exact this
theorem Cn.mono {N m m' : Nat} {l : List Int} (h : Cn N m l) (hm : m ≤ m') : Cn N m' l := ⟨h.len, fun x hx => by have := h.bd x hx; omega⟩
theorem Cn.nodes {N : Nat} : ∀ (ns : List Nd) (m : Nat) (l : List Int), Cn N m l → Cn N (m + totN ns) (cntN l ns)
  | [], _, _, h => h
  | n :: ns, m, l, h => by
    have := Cn.nodes ns _ _ (Cn.ints n.kids m l h)
    refine this.mono ?_
    show m + n.kids.length + totN ns ≤ m + totN (n :: ns)
    have e : totN (n :: ns) = n.tot + totN ns := rfl
    rw [e]
    unfold Nd.tot
    omega
theorem Cn.zero (N : Nat) : Cn N 0 (List.replicate N 0) := ⟨by simp, fun x hx => by obtain rfl := List.eq_of_mem_replicate hx; decide⟩
theorem ok_parts {g : Gr} (h : graphOkP g = true) : g.nodes.length ≤ 3000 ∧ (∀ i, ∀ k ∈ kidsOf g i, 0 ≤ k ∧ k < (g.nodes.length : Int)) ∧ ∀ k ∈ g.roots, 0 ≤ k ∧ k < (g.nodes.length : Int) := by
  unfold graphOkP at h
  rw [Bool.and_eq_true, Bool.and_eq_true, Bool.and_eq_true] at h
  obtain ⟨h1, h2, h3, _⟩ := h
  refine ⟨of_decide_eq_true h1, kids_in h2, fun k hk => ?_⟩
  unfold kidsIn at h3
  rw [List.all_eq_true] at h3
  exact of_decide_eq_true (h3 k hk)
/-- The counts in memory. -/
structure CAt (P : World) (S N : Nat) (l : List Int) (w : World) : Prop where
  row : w.ownsRow P.heap.size 3 1 (.slice (some ⟨S, 0, none⟩) N N) N (ilV l)
  below : Below P.heap.size P w
section
variable {P w w' : World} {S N : Nat} {l : List Int}
theorem CAt.slo (h : CAt P S N l w) : P.heap.size ≤ S ∧ S < w.heap.size := h.row.lt S rfl
theorem CAt.cells (h : CAt P S N l w) (hl : l.length = N) {i : Nat} (hi : i < N) : w.cell? ⟨S, i, none⟩ = some (.int .i64 (l.getD i 0)) ∧ w.frozen? ⟨S, i, none⟩ = false := by
  refine ⟨?_, h.row.frozenAt i⟩
  rw [h.row.cellAt i (by omega)]
  unfold ilV
  have hi' : i < l.length := by omega
  rw [List.getElem?_map, List.getElem?_eq_getElem hi']
  simp [List.getD, List.getElem?_eq_getElem hi']
theorem CAt.set (h : CAt P S N l w) (i : Nat) (v : Int) : CAt P S N (l.set i v) (w.setCell ⟨S, i, none⟩ (.int .i64 v)) := by
  refine ⟨?_, h.below.setCell (by show P.heap.size ≤ S; exact h.slo.1) _⟩
  have h1 := (h.row.stored i (.int .i64 v)).1
  have e : ilV (l.set i v) = (ilV l).set i (.int .i64 v) := by unfold ilV; rw [List.map_set]
  rw [e]
  exact h1
theorem CAt.alloc (h : CAt P S N l w) (o : Obj) : CAt P S N l (w.alloc o) := ⟨h.row.alloc _, h.below.alloc h.below.size _⟩
end
theorem cat_start (w : World) (N : Nat) (hN : N ≤ 3000) : CAt w w.heap.size N (List.replicate N 0) (w.alloc (.cells (madeCells #[.int .i64 0] N) 3)) := by
  refine ⟨⟨by simp [ilV], .inr ⟨w.heap.size, N, madeCells #[.int .i64 0] N, rfl, Nat.le_refl _, heap_alloc_new w _, Nat.le_refl _, by unfold maxLen; omega, by simp [size_madeCells], ?_⟩⟩, (Below.refl _ w).alloc (Nat.le_refl _) _⟩
  rw [made_ints]
  exact List.take_of_length_le (by simp [ilV])
end Go.Proofs.Ytkdlakcmhdiojaa
/- spec.Shared answers as the plain function. -/
namespace Go.Proofs.Ytkdlakcmhdiojaa
open Go.ChangeShapes Go.WideShapes Go.ChangeAt Go.RowKit Go.Deep
end Go.Proofs.Ytkdlakcmhdiojaa
/- Marks: a list of ints of the call's own is written full, and looked at again. -/
namespace Go.Proofs.Ytkdlakcmhdiojaa
open Go.ChangeShapes Go.WideShapes Go.ChangeAt Go.RowKit Go.Deep
theorem own_setX {w : World} {lo t size g n cap : Nat} {xs : List Value} (h : w.ownsRow lo t size (.slice (some ⟨g, 0, none⟩) n cap) n xs) (j : Nat) (u : Value) (hj : j < xs.length) :
    (w.setCell ⟨g, j, none⟩ u).ownsRow lo t size (.slice (some ⟨g, 0, none⟩) n cap) n (xs.set j u) := by
  refine ⟨by simpa using h.1, ?_⟩
  rcases h.2 with ⟨e, _⟩ | ⟨g', cap', cur, e, hb, hg, hn, hm, hs, ht⟩
  · cases e
  · injection e with e1 e2 e3
    injection e1 with e1
    injection e1 with e1
    subst e1
    subst e3
    refine .inr ⟨g, cap, cur.setIfInBounds j u, rfl, hb, by simp [World.setCell, Array.getElem?_modify, hg], hn, hm, by simpa using hs, ?_⟩
    rw [← ht]
    apply List.ext_getElem?
    intro i
    rw [List.getElem?_set, List.getElem?_take, Array.toList_setIfInBounds, List.getElem?_set]
    have hl : xs.length = n * size := h.1
    have hcl : n * size ≤ cur.size := by rw [hs]; exact Nat.mul_le_mul_right _ hn
    by_cases e : j = i
    · subst e
      rw [if_pos (by omega), if_pos rfl, if_pos rfl]
      simp only [Array.length_toList, List.length_take]
      rw [if_pos (by omega), if_pos (by omega)]
    · rw [if_neg e, if_neg e, List.getElem?_take]
/-- The marks: one number behind the other. -/
def mkN (k n : Nat) : List Int := (List.range n).map fun i => ((k + i : Nat) : Int)
theorem mkN_len (k n : Nat) : (mkN k n).length = n := by unfold mkN; simp
theorem mkN_at {k n i : Nat} (h : i < n) : (mkN k n)[i]? = some ((k + i : Nat) : Int) := by unfold mkN; simp [h]
theorem mkN_succ (k j : Nat) : mkN k (j + 1) = mkN k j ++ [((k + j : Nat) : Int)] := by unfold mkN; rw [List.range_succ, List.map_append]; rfl
theorem mkN_step {k : Nat} {xs : List Value} {j : Nat} (h : j < xs.length) : (ilV (mkN k j) ++ xs.drop j).set j (.int .i64 ((k + j : Nat) : Int)) = ilV (mkN k (j + 1)) ++ xs.drop (j + 1) := by
  have hl : (ilV (mkN k j)).length = j := by rw [ilV_len, mkN_len]
  rw [List.set_append_right _ _ (by omega), hl, Nat.sub_self, List.drop_eq_getElem_cons h, List.set_cons_zero, mkN_succ]
  unfold ilV
  rw [List.map_append, List.append_assoc]
  rfl
set_option maxHeartbeats 4000000 in
theorem markX_any (w : World) (lo : Nat) (v : Value) (n : Nat) (xs : List Value) (k : Nat) (hO : w.ownsRow lo 3 1 v n xs) (hl : n ≤ 1048576) (hk : k ≤ 20000000) :
    Calls Try.prog 36 #[v, .int .i64 (k : Int)] w fun e w' => e = .returned (.int .i64 ((k + n : Nat) : Int)) ∧ w'.ownsRow lo 3 1 v n (ilV (mkN k n)) ∧ w.grownBy w' v.ownBlock := by
  have hxl : xs.length = n := by rw [hO.1, Nat.mul_one]
  by_cases h0 : n = 0
  · subst h0
    obtain rfl : xs = [] := List.length_eq_zero_iff.1 hxl
    obtain ⟨a, c, rfl⟩ : ∃ a c, v = .slice a 0 c := by
      rcases hO.2 with ⟨e, _⟩ | ⟨g, cap, cur, e, _⟩
      · exact ⟨_, _, e⟩
      · exact ⟨_, _, e⟩
    have HO : Hid (w.ownsRow lo 3 1 (.slice a 0 c) 0 []) := hO
    clear hO
    go_enter Try.func36, Try.ntmps36
    go_wp2_with fail
    refine wp_loop_rounds 1 ?_
    rw [rounds_succ]
    go_wp2_with fail
    go_ret
    exact ⟨by simp, HO.out, ⟨rfl, rfl, rfl, Nat.le_refl _, fun _ _ _ => rfl⟩⟩
  · have hpos : 0 < n := Nat.pos_of_ne_zero h0
    obtain ⟨g, cap, rfl, hg, hgl⟩ := World.ownsRow.form hO hpos
    have HO : Hid (w.ownsRow lo 3 1 (.slice (some ⟨g, 0, none⟩) n cap) n xs) := hO
    have HXL : Hid (xs.length = n) := hxl
    have hk' : (k : Int) ≤ 20000000 := by omega
    have hl' : (n : Int) ≤ 1048576 := by omega
    clear hO h0 hxl
    go_enter Try.func36, Try.ntmps36
    go_wp2_with fail
    go_loopw [1, 5] (fun kk i wr => ∃ (j : Nat), j ≤ n ∧ i = .int .i64 (j : Int) ∧ kk = .int .i64 ((k + j : Nat) : Int) ∧ Hid (wr.ownsRow lo 3 1 (.slice (some ⟨g, 0, none⟩) n cap) n (ilV (mkN k j) ++ xs.drop j)) ∧ w.grownBy wr (some g)) (fun _ i _ => n - (intOf i).toNat)
    case atStart => exact ⟨0, Nat.zero_le _, rfl, by simp, by show World.ownsRow _ _ _ _ _ _ _; simpa [mkN, ilV] using HO.out, ⟨rfl, rfl, rfl, Nat.le_refl _, fun _ _ _ => rfl⟩⟩
    case round =>
      obtain ⟨j, hj, rfl, rfl, HR, hgr⟩ := hrel
      by_cases hlt : j < n
      · have hlt' : (j : Int) < (n : Int) := by omega
        have hlen : (ilV (mkN k j) ++ xs.drop j).length = n := by have := HXL.out; simp [ilV, mkN]; omega
        have hc0 := HR.out.cells (g := g) rfl j ((ilV (mkN k j) ++ xs.drop j)[j]'(by omega)) (by simp)
        have hadd : (⟨g, 0, none⟩ : Addr).add j = ⟨g, j, none⟩ := by unfold Addr.add; split <;> simp_all
        rw [hadd] at hc0
        obtain ⟨zc, hcd⟩ : ∃ zc, wr.cell? ⟨g, j, none⟩ = some zc := ⟨_, hc0⟩
        have hfd : wr.frozen? ⟨g, j, none⟩ = false := HR.out.frozenAt j
        obtain ⟨m, hm⟩ : ∃ m, k + j = m := ⟨_, rfl⟩
        have HM : Hid (k + j = m) := hm
        have hml : (m : Int) ≤ 30000000 := by omega
        have HLN : Hid (j < (ilV (mkN k j) ++ xs.drop j).length) := by show _ < _; omega
        rw [hm]
        clear hc0 hadd hm hlen
        go_wp2_with fail
        go_roundw
        case rel =>
          refine ⟨j + 1, hlt, by go_num, by have := HM.out; rw [← Nat.add_assoc, this]; go_num, ?_, ?_⟩
          · have := own_setX HR.out j (.int .i64 ((k + j : Nat) : Int)) HLN.out
            rw [mkN_step (by have := HXL.out; omega), HM.out] at this
            exact this
          · exact ⟨hgr.os, hgr.tape, hgr.output, by simp [World.setCell]; exact hgr.size, fun i hi hne => by rw [Below.heap_setCell _ _ _ _ (fun e => hne (by rw [e]))]; exact hgr.block i hi hne⟩
        case measure => simp [intOf]; omega
      · go_wp2_with fail
        go_ret
        have ej : j = n := by omega
        have := HR.out
        rw [ej, List.drop_of_length_le (by have := HXL.out; omega), List.append_nil] at this
        exact ⟨by rw [ej]; rfl, this, hgr⟩
set_option maxHeartbeats 4000000 in
theorem heldX_any (w : World) (v : Value) (n k : Nat) (hV : IlAt w v (mkN k n)) (hl : n ≤ 1048576) (hk : k ≤ 20000000) :
    Calls Try.prog 38 #[v, .int .i64 (k : Int)] w fun e w' => e = .returned (.int .i64 ((k + n : Nat) : Int)) ∧ Below w.heap.size w w' := by
  obtain ⟨a, c, rfl⟩ := hV.sl
  have HV : Hid (IlAt w (.slice a (mkN k n).length c) (mkN k n)) := hV
  rw [mkN_len]
  have hk' : (k : Int) ≤ 20000000 := by omega
  have hl' : (n : Int) ≤ 1048576 := by omega
  clear hV
  go_enter Try.func38, Try.ntmps38
  go_wp2_with fail
  go_loopw [1, 5] (fun kk i wr => ∃ (j : Nat), j ≤ n ∧ i = .int .i64 (j : Int) ∧ kk = .int .i64 ((k + j : Nat) : Int) ∧ Hid (Below w.heap.size w wr)) (fun _ i _ => n - (intOf i).toNat)
  case atStart => exact ⟨0, Nat.zero_le _, rfl, by simp, Below.refl _ _⟩
  case round =>
    obtain ⟨j, hj, rfl, rfl, HB⟩ := hrel
    by_cases hlt : j < n
    · have hlt' : (j : Int) < (n : Int) := by omega
      obtain ⟨b, o, rfl, hbl, d1⟩ := HV.out.at (mkN_at (k := k) hlt)
      rw [← HB.out.cell hbl] at d1
      obtain ⟨m, hm⟩ : ∃ m, k + j = m := ⟨_, rfl⟩
      have HM : Hid (k + j = m) := hm
      have hml : (m : Int) ≤ 30000000 := by omega
      rw [hm] at d1 ⊢
      have tm : ((m : Int) != (m : Int)) = false := by simp
      clear hm hbl
      go_wp2_with fail
      go_roundw
      case rel => exact ⟨j + 1, hlt, by go_num, by have := HM.out; rw [← Nat.add_assoc, this]; go_num, HB⟩
      case measure => simp [intOf]; omega
    · obtain rfl : j = n := by omega
      have hlt' : ¬ (j : Int) < (j : Int) := by omega
      go_wp2_with fail
      go_ret
      exact ⟨rfl, HB.out⟩
end Go.Proofs.Ytkdlakcmhdiojaa

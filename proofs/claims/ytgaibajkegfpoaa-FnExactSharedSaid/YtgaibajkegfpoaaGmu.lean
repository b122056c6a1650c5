/- The program's meet: a knot that was met, and one that wasn't. -/
import Derived.Test.YtgaibajkegfpoaaGmt
namespace Go.Proofs.Ytgaibajkegfpoaa
open Go.ChangeShapes Go.WideShapes Go.ChangeAt Go.RowKit Go.Deep
set_option maxRecDepth 100000 in
set_option maxHeartbeats 8000000 in
theorem meet_old (B : Nat) (t : TypeId) (rest : List Value) (lo : Nat) (mb : List Nat) (b : Nat) (w : World) (hT : TrAt B t rest lo mb w) (hL : ∀ x ∈ mb, Live w x) (hm : b ∈ mb) :
    Calls Try.prog 76 #[.pointer (some ⟨B, 0, none⟩), .pointer (some ⟨b, 0, none⟩)] w fun e w' => e = .returned (.tuple #[.int .i64 (ix b mb : Int), .bool false]) ∧ w' = w := by
  obtain ⟨nv, ma, mn, mc, h1, h2, h3⟩ := hT.ex
  obtain ⟨M, rfl, hlo, hM⟩ : ∃ M, nv = .map (some M) ∧ lo ≤ M ∧ PmAt natVG w M (numF mb) := by
    rcases h3 with ⟨_, h3⟩ | h3
    · rw [h3] at hm; cases hm
    · exact h3
  obtain ⟨ti, hti, hsz⟩ := infoKi
  have hlook := hM.look (P := Try.prog) (fun x v hx => hL x (by unfold numF at hx; split at hx; assumption; cases hx)) Try.underlying62 Try.underlying70 hti hsz (zeroNumG w) (hL b hm) true
  have hf : numF mb b = some (ix b mb) := by unfold numF; rw [if_pos hm]
  rw [hf] at hlook
  simp only [if_true, natVG, Option.isSome, ptr] at hlook
  have c0 := tr_0 h1
  clear hT h1 h2 h3 hL hM hf
  go_enter Try.func76, Try.ntmps76
  go_wp2_with fail
  go_ret2
  exact ⟨rfl, rfl⟩
set_option maxRecDepth 100000 in
/-- A knot gets its number, and comes behind those that were met. -/
theorem meet_step (B : Nat) (t : TypeId) (rest : List Value) (lo : Nat) (mb : List Nat) (b M : Nat) (ma : Option Addr) (mc : Nat) (u : World) (h1 : u.heap[B]? = some (.cells (.map (some M) :: .slice ma mb.length mc :: rest).toArray t (0, 0))) (h2 : u.ownsRow lo 70 1 (.slice ma mb.length mc) mb.length (plV mb)) (hM : PmAt natVG u M (numF mb)) (hlo : lo ≤ M) (hL : ∀ x ∈ mb, Live u x) (hb : Live u b) (hm : b ∉ mb) (ht : t ≠ 70) (hB : lo ≤ B) (hl : mb.length ≤ 1048576) :
    ∃ u' w5 a5 n5 c5, (Instr.mapUpdate 62 (.map (some M)) (.pointer (some ⟨b, 0, none⟩)) (.int .i64 (mb.length : Int))).run Try.prog u = .ok () u' ∧ (Builtin.append_ #[58, 58] 58 #[.slice ma mb.length mc, .slice (some ⟨u'.heap.size, 0, none⟩) 1 1]).run Try.prog (u'.alloc (.cells #[.pointer (some ⟨b, 0, none⟩)] 70)) = .ok (.slice a5 n5 c5) w5 ∧
      TrAt B t rest lo (mb ++ [b]) (w5.setCell ⟨B, 1, none⟩ (.slice a5 n5 c5)) ∧ Below lo u (w5.setCell ⟨B, 1, none⟩ (.slice a5 n5 c5)) ∧ KeepT B u (w5.setCell ⟨B, 1, none⟩ (.slice a5 n5 c5)) ∧
      u'.cell? ⟨B, 0, none⟩ = some (.map (some M)) ∧ u'.cell? ⟨B, 1, none⟩ = some (.slice ma mb.length mc) ∧ B < u'.heap.size ∧ w5.cell? ⟨B, 1, none⟩ = some (.slice ma mb.length mc) ∧ w5.frozen? ⟨B, 1, none⟩ = false := by
  obtain ⟨ti, hti, hsz⟩ := infoKi
  obtain ⟨u', hup, hM', hg, hus⟩ := hM.put (P := Try.prog) (fun x v hx => hL x (by unfold numF at hx; split at hx; assumption; cases hx)) Try.underlying62 Try.underlying70 hti hsz hb mb.length
  have hBl : B < u.heap.size := (Array.getElem?_eq_some_iff.1 h1).1
  have hMB : M ≠ B := by
    rintro rfl
    obtain ⟨es, clock, he⟩ := hM.isMap
    rw [he] at h1
    cases h1
  have k1 : u'.heap[B]? = u.heap[B]? := hg.block B hBl (by intro e; injection e with e; exact hMB e.symm)
  have kr : ∀ g, (Value.slice ma mb.length mc).ownBlock = some g → u'.heap[g]? = u.heap[g]? := fun g hgg => hg.block g (h2.lt g hgg).2 (by
    intro e
    injection e with e
    subst e
    obtain ⟨es, clock, he⟩ := hM.isMap
    rcases h2.2 with ⟨e1, _⟩ | ⟨g2, cap, cur, e1, _, hg2, _⟩
    · rw [e1] at hgg; simp [Value.ownBlock] at hgg
    · rw [e1] at hgg
      have : g2 = g := by simpa [Value.ownBlock] using hgg
      subst this
      rw [he] at hg2
      cases hg2)
  have h2' := g_row_block h2 kr
  have h1' := k1.trans h1
  have hul : lo ≤ u'.heap.size := by rw [hus]; omega
  obtain ⟨v5, w5, hrun5, hsl5, hown5, hbel5, hot5, hid5⟩ := push_own2 (P := Try.prog) Try.underlying58 infoKn rfl (by decide) u' lo _ _ _ h2' #[ptr b] rfl (by intro u hu; simp at hu; subst hu; rfl) (by omega) (by omega) hul 58
  obtain ⟨a5, n5, c5, rfl⟩ := hsl5
  have hBr : (Value.slice ma mb.length mc).ownBlock ≠ some B := row_apart h2' h1' ht
  have k5 : w5.heap[B]? = u'.heap[B]? := hot5 B (by omega) hBr
  have h5 := k5.trans h1'
  have hMr : (Value.slice ma mb.length mc).ownBlock ≠ some M := fun e => by
    obtain ⟨es, clock, he⟩ := hM.isMap
    rcases h2.2 with ⟨e1, _⟩ | ⟨g2, cap, cur, e1, _, hg2, _⟩
    · rw [e1] at e; simp [Value.ownBlock] at e
    · rw [e1] at e
      have : g2 = M := by simpa [Value.ownBlock] using e
      subst this
      rw [he] at hg2
      cases hg2
  have hM5 : PmAt natVG w5 M (numF (mb ++ [b])) := by
    rw [← numF_put hm]
    exact hM'.same (hot5 M hM'.lt hMr)
  have hset : ∀ x, x ≠ B → (w5.setCell ⟨B, 1, none⟩ (.slice a5 n5 c5)).heap[x]? = w5.heap[x]? := fun x hx => heap_setCell_other _ _ _ _ hx
  have hr5 : (Value.slice a5 n5 c5).ownBlock ≠ some B := row_apart hown5 h5 ht
  have hn5 : n5 = mb.length + 1 := by
    rcases hown5.2 with ⟨e1, e2⟩ | ⟨gb, cap, cur, e1, _⟩
    · injection e1 with _ e1 _; omega
    · injection e1
  refine ⟨u', w5, a5, n5, c5, hup, hrun5, ⟨_, a5, n5, c5, tr_set1 h5 _, ?_, .inr ⟨M, rfl, hlo, hM5.same (hset M hMB)⟩⟩, ?_, ?_, tr_0 h1', tr_1 h1', by omega, tr_1 h5, tr_f h5 1⟩
  · rw [List.length_append, plV_snoc]
    exact row_set hown5 hr5 _ _
  · have hb1 : Below lo u u' := ⟨hg.os, hg.tape, hg.output, hg.size, fun j hj => hg.block j (by omega) (by intro e; injection e with e; omega)⟩
    exact (hb1.trans hbel5).setCell hB _
  · intro x cs t' fr hx ht' hxB
    have hxM : x ≠ M := by
      rintro rfl
      obtain ⟨es, clock, he⟩ := hM.isMap
      rw [he] at hx
      cases hx
    have hxl : x < u.heap.size := (Array.getElem?_eq_some_iff.1 hx).1
    rw [hset x hxB, hot5 x (by omega) (row_apart h2' ((hg.block x hxl (by intro e; injection e with e; exact hxM e)).trans hx) ht')]
    exact hg.block x hxl (by intro e; injection e with e; exact hxM e)
set_option maxRecDepth 100000 in
set_option maxHeartbeats 8000000 in
theorem meet_new (B : Nat) (t : TypeId) (rest : List Value) (lo : Nat) (mb : List Nat) (b : Nat) (w : World) (hT : TrAt B t rest lo mb w) (hL : ∀ x ∈ mb, Live w x) (hb : Live w b) (hm : b ∉ mb) (ht : t ≠ 70) (hB : lo ≤ B) (hl : mb.length ≤ 1048576) :
    Calls Try.prog 76 #[.pointer (some ⟨B, 0, none⟩), .pointer (some ⟨b, 0, none⟩)] w fun e w' => e = .returned (.tuple #[.int .i64 (mb.length : Int), .bool true]) ∧ TrAt B t rest lo (mb ++ [b]) w' ∧ Below lo w w' ∧ KeepT B w w' := by
  obtain ⟨nv, ma, mn, mc, h1, h2, h3⟩ := hT.ex
  have hlt := hT.lt
  obtain ⟨ti, hti, hsz⟩ := infoKi
  have hmn : mn = mb.length := by
    rcases h2.2 with ⟨e1, e2⟩ | ⟨gb, cap, cur, e1, _⟩
    · injection e1 with _ e1 _; omega
    · injection e1
  subst hmn
  have hlI : (mb.length : Int) ≤ 1048576 := by omega
  have hBr : (Value.slice ma mb.length mc).ownBlock ≠ some B := row_apart h2 h1 ht
  have hLf : ∀ (u : World), (∀ x, Live w x → Live u x) → ∀ x v, numF mb x = some v → Live u x := fun u hu x v hx => hu x (hL x (by unfold numF at hx; split at hx; assumption; cases hx))
  rcases h3 with ⟨rfl, hmb⟩ | ⟨M, rfl, hlo, hM⟩
  · -- the first one of all: the map is made
    have hlook := ptr_look_nil (P := Try.prog) (w := w) Try.underlying62 Try.underlying70 (zeroNumG w) b true
    have hq : ∀ (w : World), (binOp .eql 62 (.map none) (.map none)).run Try.prog w = .ok (.bool true) w := fun w => run_eql_map_nil w _ _ _ none Try.underlying62
    obtain ⟨W, hW⟩ : ∃ W, (w.setCell ⟨B, 0, none⟩ (.map (some w.heap.size))).alloc (.map #[] 0) = W := ⟨_, rfl⟩
    have hss : (w.setCell ⟨B, 0, none⟩ (.map (some w.heap.size))).heap.size = w.heap.size := by simp
    have hx : ∀ x, x ≠ B → x < w.heap.size → W.heap[x]? = w.heap[x]? := fun x hx hxl => by rw [← hW, Below.heap_alloc _ _ _ (by rw [hss]; exact hxl)]; exact heap_setCell_other _ _ _ _ hx
    have e1 : W.heap[B]? = some (.cells (.map (some w.heap.size) :: .slice ma mb.length mc :: rest).toArray t (0, 0)) := by rw [← hW, Below.heap_alloc _ _ _ (by rw [hss]; exact hlt)]; exact tr_set0 h1 _
    have e2 : W.ownsRow lo 70 1 (.slice ma mb.length mc) mb.length (plV mb) := g_row_block h2 (fun x hxo => hx x (fun e => hBr (by rw [hxo, e])) (h2.lt x hxo).2)
    have hWs : W.heap.size = w.heap.size + 1 := by rw [← hW]; simp
    have e3 : PmAt natVG W w.heap.size (numF mb) := by
      have h4 := PmAt.made (w.setCell ⟨B, 0, none⟩ (.map (some w.heap.size))) natVG
      have h5 : (fun _ => none : Nat → Option Nat) = numF mb := by
        funext x
        unfold numF
        rw [hmb]
        simp
      rw [h5, hW, hss] at h4
      exact h4
    have hLW : ∀ x, Live w x → Live W x := fun x ⟨cs, tt, hh⟩ => by
      by_cases e : x = B
      · subst e
        exact ⟨_, _, e1⟩
      · exact ⟨cs, tt, (hx x e (Array.getElem?_eq_some_iff.1 hh).1).trans hh⟩
    have hbW : Below lo w W := by rw [← hW]; exact ((Below.refl lo w).setCell hB _).alloc (by rw [hss]; omega) _
    have hkW : KeepT B w W := fun x cs tt fr hh _ hxB => hx x hxB (Array.getElem?_eq_some_iff.1 hh).1
    obtain ⟨u', w5, a5, n5, c5, hup, hrun5, hT5, hB5, hK5, f0, f1, f2, f3, f4⟩ := meet_step B t rest lo mb b w.heap.size ma mc W e1 e2 e3 (by omega) (fun x hxm => hLW x (hL x hxm)) (hLW b hb) hm ht hB hl
    have HR : Hid (TrAt B t rest lo (mb ++ [b]) (w5.setCell ⟨B, 1, none⟩ (.slice a5 n5 c5)) ∧ Below lo w (w5.setCell ⟨B, 1, none⟩ (.slice a5 n5 c5)) ∧ KeepT B w (w5.setCell ⟨B, 1, none⟩ (.slice a5 n5 c5))) := ⟨hT5, hbW.trans hB5, hkW.trans hK5⟩
    simp only [if_true, ptr] at hlook
    have c0 := tr_0 h1
    have df := tr_f h1 0
    have hBw : B < w.heap.size := hlt
    have d0 := tr_0 (tr_set0 h1 (.map (some w.heap.size)))
    have d1 := tr_1 (tr_set0 h1 (.map (some w.heap.size)))
    have g0 := tr_0 e1
    have g1 := tr_1 e1
    subst hW
    clear hT h1 h2 hL hb hm hLf hmb hss hx e1 e2 hWs e3 hLW hbW hkW hT5 hB5 hK5 hBr ht
    go_enter Try.func76, Try.ntmps76
    have hmm := @run_makeMap Try.prog
    go_wp2_with (at_builtin; refine append_run rfl _ _ 58 rfl _ _ rfl rfl _ w5 hrun5 ?_)
    go_ret2
    exact ⟨rfl, HR.out⟩
  · -- the map is there
    have hf : numF mb b = none := by unfold numF; rw [if_neg hm]
    have hlook := hM.look (P := Try.prog) (hLf w (fun _ h => h)) Try.underlying62 Try.underlying70 hti hsz (zeroNumG w) hb true
    rw [hf] at hlook
    have hq : ∀ (w : World), (binOp .eql 62 (.map (some M)) (.map none)).run Try.prog w = .ok (.bool false) w := fun w => run_eql_map_nil w _ _ _ (some M) Try.underlying62
    obtain ⟨u', w5, a5, n5, c5, hup, hrun5, hT5, hB5, hK5, f0, f1, f2, f3, f4⟩ := meet_step B t rest lo mb b M ma mc w h1 h2 hM hlo hL hb hm ht hB hl
    have HR : Hid (TrAt B t rest lo (mb ++ [b]) (w5.setCell ⟨B, 1, none⟩ (.slice a5 n5 c5)) ∧ Below lo w (w5.setCell ⟨B, 1, none⟩ (.slice a5 n5 c5)) ∧ KeepT B w (w5.setCell ⟨B, 1, none⟩ (.slice a5 n5 c5))) := ⟨hT5, hB5, hK5⟩
    simp only [if_true, ptr, Option.isSome] at hlook
    have c0 := tr_0 h1
    have c1 := tr_1 h1
    clear hT h1 h2 hL hb hm hLf hM hf hT5 hB5 hK5 hBr ht hlo
    go_enter Try.func76, Try.ntmps76
    go_wp2_with (at_builtin; refine append_run rfl _ _ 58 rfl _ _ rfl rfl _ w5 hrun5 ?_)
    go_ret2
    exact ⟨rfl, HR.out⟩
end Go.Proofs.Ytgaibajkegfpoaa

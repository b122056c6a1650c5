/- Several texts in one: Gmt Gmu. -/
import Derived.Test.YtgaibajkegfpoaaDoorGky
/- A tour in memory: knots are numbered as they are met; the program's meet. -/
namespace Go.Proofs.YtgaibajkegfpoaaDoor
open Go.ChangeShapes Go.WideShapes Go.ChangeAt Go.RowKit Go.Deep
theorem ptr_look_nil {P : Program} {w : World} {t kt te e : TypeId} (ht : P.underlying t = some (.map kt e)) (hp : P.underlying kt = some (.pointer te)) {z : Value} (hz : (zeroValue e).run P w = .ok z w) (a : Nat) (c : Bool) :
    (Instr.lookup t (.map none) (ptr a) c).run P w = .ok (if c then .tuple #[z, .bool false] else z) w := by
  simp [Instr.lookup, run_underlying ht, ptr_check hp, Instr.findKey, run_underlying hp, Instr.findNow, hz, Result.andThen]
def natVG (n : Nat) : Value := .int .i64 (n : Int)
theorem zeroNumG (w : World) : (zeroValue 3).run Tryd.prog w = .ok (.int .i64 0) w := Tryd.zeroValue3 w
/-- The numbers of what was met. -/
def numF (mb : List Nat) : Nat → Option Nat := fun b => if b ∈ mb then some (ix b mb) else none
theorem numF_put {mb : List Nat} {b : Nat} (h : b ∉ mb) : putP (numF mb) b mb.length = numF (mb ++ [b]) := by
  funext x
  unfold putP numF
  by_cases e : x = b
  · subst e
    rw [if_pos rfl, if_pos (by simp), ix_new h]
  · rw [if_neg e]
    by_cases hx : x ∈ mb
    · rw [if_pos hx, if_pos (by simp [hx]), ix_app _ hx]
    · rw [if_neg hx, if_neg (by simp [hx, e])]
theorem infoKi : ∃ i, Tryd.prog.info? 80 = some i ∧ i.size ≠ 0 := by
  have h := infoKt
  cases e : Tryd.prog.info? 80 with
  | none => rw [e] at h; cases h
  | some i =>
    rw [e] at h
    refine ⟨i, rfl, ?_⟩
    have : i.size = 4 := by simpa using h
    omega
/-- The tour at block B, of type t, with what else is in it. -/
structure TrAt (B : Nat) (t : TypeId) (rest : List Value) (lo : Nat) (mb : List Nat) (w : World) : Prop where
  ex : ∃ (nv : Value) (ma : Option Addr) (mn mc : Nat), w.heap[B]? = some (.cells (nv :: .slice ma mn mc :: rest).toArray t (0, 0)) ∧ w.ownsRow lo 78 1 (.slice ma mn mc) mb.length (plV mb) ∧ ((nv = .map none ∧ mb = []) ∨ ∃ M, nv = .map (some M) ∧ lo ≤ M ∧ PmAt natVG w M (numF mb))
section
variable {B : Nat} {t : TypeId} {rest : List Value} {lo : Nat} {mb : List Nat} {w w' : World} {x0 x1 : Value}
theorem tr_0 (h : w.heap[B]? = some (.cells (x0 :: x1 :: rest).toArray t (0, 0))) : w.cell? ⟨B, 0, none⟩ = some x0 := by simp [World.cell?, h]
theorem tr_1 (h : w.heap[B]? = some (.cells (x0 :: x1 :: rest).toArray t (0, 0))) : w.cell? ⟨B, 1, none⟩ = some x1 := by simp [World.cell?, h]
theorem tr_f (h : w.heap[B]? = some (.cells (x0 :: x1 :: rest).toArray t (0, 0))) (i : Nat) : w.frozen? ⟨B, i, none⟩ = false := by simp [World.frozen?, h]
theorem tr_set0 (h : w.heap[B]? = some (.cells (x0 :: x1 :: rest).toArray t (0, 0))) (a : Value) : (w.setCell ⟨B, 0, none⟩ a).heap[B]? = some (.cells (a :: x1 :: rest).toArray t (0, 0)) := by
  simp [World.setCell, Array.getElem?_modify, h]
theorem tr_set1 (h : w.heap[B]? = some (.cells (x0 :: x1 :: rest).toArray t (0, 0))) (a : Value) : (w.setCell ⟨B, 1, none⟩ a).heap[B]? = some (.cells (x0 :: a :: rest).toArray t (0, 0)) := by
  simp [World.setCell, Array.getElem?_modify, h]
theorem TrAt.lt (h : TrAt B t rest lo mb w) : B < w.heap.size := by
  obtain ⟨_, _, _, _, h, _⟩ := h.ex
  exact (Array.getElem?_eq_some_iff.1 h).1
theorem TrAt.stays (h : TrAt B t rest lo mb w) (hb : Below w.heap.size w w') : TrAt B t rest lo mb w' := by
  obtain ⟨nv, ma, mn, mc, h1, h2, h3⟩ := h.ex
  refine ⟨nv, ma, mn, mc, (hb.block _ (Array.getElem?_eq_some_iff.1 h1).1).trans h1, g_row_below h2 hb, ?_⟩
  rcases h3 with h3 | ⟨M, e, hl, hm⟩
  · exact .inl h3
  · exact .inr ⟨M, e, hl, hm.same (hb.block _ hm.lt)⟩
/-- What a tour leaves alone: blocks of another type than its row's, but its own. -/
def KeepT (B : Nat) (w w' : World) : Prop := ∀ (x : Nat) (cs : Array Value) (t : TypeId) (fr : Nat × Nat), w.heap[x]? = some (.cells cs t fr) → t ≠ 78 → x ≠ B → w'.heap[x]? = w.heap[x]?
theorem KeepT.refl (B : Nat) (w : World) : KeepT B w w := fun _ _ _ _ _ _ _ => rfl
theorem KeepT.of (hb : Below w.heap.size w w') : KeepT B w w' := fun x _ _ _ h _ _ => hb.block x (Array.getElem?_eq_some_iff.1 h).1
theorem KeepT.trans {a b c : World} (h : KeepT B a b) (k : KeepT B b c) : KeepT B a c := fun x cs t fr hx ht hB => by
  have h1 := h x cs t fr hx ht hB
  exact (k x cs t fr (h1.trans hx) ht hB).trans h1
theorem KeepT.row {lo2 e sz : Nat} {v : Value} {n : Nat} {xs : List Value} (h : KeepT B w w') (hr : w.ownsRow lo2 e sz v n xs) (he : e ≠ 78) (hB : v.ownBlock ≠ some B) : w'.ownsRow lo2 e sz v n xs := by
  refine ⟨hr.1, ?_⟩
  rcases hr.2 with hn | ⟨g, cap, cur, rfl, hlo, hg, rest⟩
  · exact .inl hn
  · exact .inr ⟨g, cap, cur, rfl, hlo, by rw [h g _ _ _ hg he (fun e2 => hB (by rw [← e2]; rfl))]; exact hg, rest⟩
end
end Go.Proofs.YtgaibajkegfpoaaDoor
/- The program's meet: a knot that was met, and one that wasn't. -/
namespace Go.Proofs.YtgaibajkegfpoaaDoor
open Go.ChangeShapes Go.WideShapes Go.ChangeAt Go.RowKit Go.Deep
set_option maxRecDepth 100000 in
set_option maxHeartbeats 8000000 in
theorem meet_old (B : Nat) (t : TypeId) (rest : List Value) (lo : Nat) (mb : List Nat) (b : Nat) (w : World) (hT : TrAt B t rest lo mb w) (hL : ∀ x ∈ mb, Live w x) (hm : b ∈ mb) :
    Calls Tryd.prog 45 #[.pointer (some ⟨B, 0, none⟩), .pointer (some ⟨b, 0, none⟩)] w fun e w' => e = .returned (.tuple #[.int .i64 (ix b mb : Int), .bool false]) ∧ w' = w := by
  obtain ⟨nv, ma, mn, mc, h1, h2, h3⟩ := hT.ex
  obtain ⟨M, rfl, hlo, hM⟩ : ∃ M, nv = .map (some M) ∧ lo ≤ M ∧ PmAt natVG w M (numF mb) := by
    rcases h3 with ⟨_, h3⟩ | h3
    · rw [h3] at hm; cases hm
    · exact h3
  obtain ⟨ti, hti, hsz⟩ := infoKi
  have hlook := hM.look (P := Tryd.prog) (fun x v hx => hL x (by unfold numF at hx; split at hx; assumption; cases hx)) Tryd.underlying53 Tryd.underlying78 hti hsz (zeroNumG w) (hL b hm) true
  have hf : numF mb b = some (ix b mb) := by unfold numF; rw [if_pos hm]
  rw [hf] at hlook
  simp only [if_true, natVG, Option.isSome, ptr] at hlook
  have c0 := tr_0 h1
  clear hT h1 h2 h3 hL hM hf
  go_enter Tryd.func45, Tryd.ntmps45
  go_wp2_with fail
  go_ret2
  exact ⟨rfl, rfl⟩
set_option maxRecDepth 100000 in
/-- A knot gets its number, and comes behind those that were met. -/
theorem meet_step (B : Nat) (t : TypeId) (rest : List Value) (lo : Nat) (mb : List Nat) (b M : Nat) (ma : Option Addr) (mc : Nat) (u : World) (h1 : u.heap[B]? = some (.cells (.map (some M) :: .slice ma mb.length mc :: rest).toArray t (0, 0))) (h2 : u.ownsRow lo 78 1 (.slice ma mb.length mc) mb.length (plV mb)) (hM : PmAt natVG u M (numF mb)) (hlo : lo ≤ M) (hL : ∀ x ∈ mb, Live u x) (hb : Live u b) (hm : b ∉ mb) (ht : t ≠ 78) (hB : lo ≤ B) (hl : mb.length ≤ 1048576) :
    ∃ u' w5 a5 n5 c5, (Instr.mapUpdate 53 (.map (some M)) (.pointer (some ⟨b, 0, none⟩)) (.int .i64 (mb.length : Int))).run Tryd.prog u = .ok () u' ∧ (Builtin.append_ #[48, 48] 48 #[.slice ma mb.length mc, .slice (some ⟨u'.heap.size, 0, none⟩) 1 1]).run Tryd.prog (u'.alloc (.cells #[.pointer (some ⟨b, 0, none⟩)] 78)) = .ok (.slice a5 n5 c5) w5 ∧
      TrAt B t rest lo (mb ++ [b]) (w5.setCell ⟨B, 1, none⟩ (.slice a5 n5 c5)) ∧ Below lo u (w5.setCell ⟨B, 1, none⟩ (.slice a5 n5 c5)) ∧ KeepT B u (w5.setCell ⟨B, 1, none⟩ (.slice a5 n5 c5)) ∧
      u'.cell? ⟨B, 0, none⟩ = some (.map (some M)) ∧ u'.cell? ⟨B, 1, none⟩ = some (.slice ma mb.length mc) ∧ B < u'.heap.size ∧ w5.cell? ⟨B, 1, none⟩ = some (.slice ma mb.length mc) ∧ w5.frozen? ⟨B, 1, none⟩ = false := by
  obtain ⟨ti, hti, hsz⟩ := infoKi
  obtain ⟨u', hup, hM', hg, hus⟩ := hM.put (P := Tryd.prog) (fun x v hx => hL x (by unfold numF at hx; split at hx; assumption; cases hx)) Tryd.underlying53 Tryd.underlying78 hti hsz hb mb.length
  have hBl : B < u.heap.size := (Array.getElem?_eq_some_iff.1 h1).1
  have hMB : M ≠ B := by
    rintro rfl
    obtain ⟨es, clock, he⟩ := hM.isMap
    rw [he] at h1
    cases h1
  have k1 : u'.heap[B]? = u.heap[B]? := hg.block B hBl (by intro e; injection e with e; exact hMB e.symm)
  have kr : ∀ g, (Value.slice ma mb.length mc).ownBlock = some g → u'.heap[g]? = u.heap[g]? := fun g hgg => hg.block g (h2.lt g hgg).2 (by
    intro e
    injection e with e
    subst e
    obtain ⟨es, clock, he⟩ := hM.isMap
    rcases h2.2 with ⟨e1, _⟩ | ⟨g2, cap, cur, e1, _, hg2, _⟩
    · rw [e1] at hgg; simp [Value.ownBlock] at hgg
    · rw [e1] at hgg
      have : g2 = g := by simpa [Value.ownBlock] using hgg
      subst this
      rw [he] at hg2
      cases hg2)
  have h2' := g_row_block h2 kr
  have h1' := k1.trans h1
  have hul : lo ≤ u'.heap.size := by rw [hus]; omega
  obtain ⟨v5, w5, hrun5, hsl5, hown5, hbel5, hot5, hid5⟩ := push_own2 (P := Tryd.prog) Tryd.underlying48 infoKn rfl (by decide) u' lo _ _ _ h2' #[ptr b] rfl (by intro u hu; simp at hu; subst hu; rfl) (by omega) (by omega) hul 48
  obtain ⟨a5, n5, c5, rfl⟩ := hsl5
  have hBr : (Value.slice ma mb.length mc).ownBlock ≠ some B := row_apart h2' h1' ht
  have k5 : w5.heap[B]? = u'.heap[B]? := hot5 B (by omega) hBr
  have h5 := k5.trans h1'
  have hMr : (Value.slice ma mb.length mc).ownBlock ≠ some M := fun e => by
    obtain ⟨es, clock, he⟩ := hM.isMap
    rcases h2.2 with ⟨e1, _⟩ | ⟨g2, cap, cur, e1, _, hg2, _⟩
    · rw [e1] at e; simp [Value.ownBlock] at e
    · rw [e1] at e
      have : g2 = M := by simpa [Value.ownBlock] using e
      subst this
      rw [he] at hg2
      cases hg2
  have hM5 : PmAt natVG w5 M (numF (mb ++ [b])) := by
    rw [← numF_put hm]
    exact hM'.same (hot5 M hM'.lt hMr)
  have hset : ∀ x, x ≠ B → (w5.setCell ⟨B, 1, none⟩ (.slice a5 n5 c5)).heap[x]? = w5.heap[x]? := fun x hx => heap_setCell_other _ _ _ _ hx
  have hr5 : (Value.slice a5 n5 c5).ownBlock ≠ some B := row_apart hown5 h5 ht
  have hn5 : n5 = mb.length + 1 := by
    rcases hown5.2 with ⟨e1, e2⟩ | ⟨gb, cap, cur, e1, _⟩
    · injection e1 with _ e1 _; omega
    · injection e1
  refine ⟨u', w5, a5, n5, c5, hup, hrun5, ⟨_, a5, n5, c5, tr_set1 h5 _, ?_, .inr ⟨M, rfl, hlo, hM5.same (hset M hMB)⟩⟩, ?_, ?_, tr_0 h1', tr_1 h1', by omega, tr_1 h5, tr_f h5 1⟩
  · rw [List.length_append, plV_snoc]
    exact row_set hown5 hr5 _ _
  · have hb1 : Below lo u u' := ⟨hg.os, hg.tape, hg.output, hg.size, fun j hj => hg.block j (by omega) (by intro e; injection e with e; omega)⟩
    exact (hb1.trans hbel5).setCell hB _
  · intro x cs t' fr hx ht' hxB
    have hxM : x ≠ M := by
      rintro rfl
      obtain ⟨es, clock, he⟩ := hM.isMap
      rw [he] at hx
      cases hx
    have hxl : x < u.heap.size := (Array.getElem?_eq_some_iff.1 hx).1
    rw [hset x hxB, hot5 x (by omega) (row_apart h2' ((hg.block x hxl (by intro e; injection e with e; exact hxM e)).trans hx) ht')]
    exact hg.block x hxl (by intro e; injection e with e; exact hxM e)
set_option maxRecDepth 100000 in
set_option maxHeartbeats 8000000 in
theorem meet_new (B : Nat) (t : TypeId) (rest : List Value) (lo : Nat) (mb : List Nat) (b : Nat) (w : World) (hT : TrAt B t rest lo mb w) (hL : ∀ x ∈ mb, Live w x) (hb : Live w b) (hm : b ∉ mb) (ht : t ≠ 78) (hB : lo ≤ B) (hl : mb.length ≤ 1048576) :
    Calls Tryd.prog 45 #[.pointer (some ⟨B, 0, none⟩), .pointer (some ⟨b, 0, none⟩)] w fun e w' => e = .returned (.tuple #[.int .i64 (mb.length : Int), .bool true]) ∧ TrAt B t rest lo (mb ++ [b]) w' ∧ Below lo w w' ∧ KeepT B w w' := by
  obtain ⟨nv, ma, mn, mc, h1, h2, h3⟩ := hT.ex
  have hlt := hT.lt
  obtain ⟨ti, hti, hsz⟩ := infoKi
  have hmn : mn = mb.length := by
    rcases h2.2 with ⟨e1, e2⟩ | ⟨gb, cap, cur, e1, _⟩
    · injection e1 with _ e1 _; omega
    · injection e1
  subst hmn
  have hlI : (mb.length : Int) ≤ 1048576 := by omega
  have hBr : (Value.slice ma mb.length mc).ownBlock ≠ some B := row_apart h2 h1 ht
  have hLf : ∀ (u : World), (∀ x, Live w x → Live u x) → ∀ x v, numF mb x = some v → Live u x := fun u hu x v hx => hu x (hL x (by unfold numF at hx; split at hx; assumption; cases hx))
  rcases h3 with ⟨rfl, hmb⟩ | ⟨M, rfl, hlo, hM⟩
  · -- the first one of all: the map is made
    have hlook := ptr_look_nil (P := Tryd.prog) (w := w) Tryd.underlying53 Tryd.underlying78 (zeroNumG w) b true
    have hq : ∀ (w : World), (binOp .eql 53 (.map none) (.map none)).run Tryd.prog w = .ok (.bool true) w := fun w => run_eql_map_nil w _ _ _ none Tryd.underlying53
    obtain ⟨W, hW⟩ : ∃ W, (w.setCell ⟨B, 0, none⟩ (.map (some w.heap.size))).alloc (.map #[] 0) = W := ⟨_, rfl⟩
    have hss : (w.setCell ⟨B, 0, none⟩ (.map (some w.heap.size))).heap.size = w.heap.size := by simp
    have hx : ∀ x, x ≠ B → x < w.heap.size → W.heap[x]? = w.heap[x]? := fun x hx hxl => by rw [← hW, Below.heap_alloc _ _ _ (by rw [hss]; exact hxl)]; exact heap_setCell_other _ _ _ _ hx
    have e1 : W.heap[B]? = some (.cells (.map (some w.heap.size) :: .slice ma mb.length mc :: rest).toArray t (0, 0)) := by rw [← hW, Below.heap_alloc _ _ _ (by rw [hss]; exact hlt)]; exact tr_set0 h1 _
    have e2 : W.ownsRow lo 78 1 (.slice ma mb.length mc) mb.length (plV mb) := g_row_block h2 (fun x hxo => hx x (fun e => hBr (by rw [hxo, e])) (h2.lt x hxo).2)
    have hWs : W.heap.size = w.heap.size + 1 := by rw [← hW]; simp
    have e3 : PmAt natVG W w.heap.size (numF mb) := by
      have h4 := PmAt.made (w.setCell ⟨B, 0, none⟩ (.map (some w.heap.size))) natVG
      have h5 : (fun _ => none : Nat → Option Nat) = numF mb := by
        funext x
        unfold numF
        rw [hmb]
        simp
      rw [h5, hW, hss] at h4
      exact h4
    have hLW : ∀ x, Live w x → Live W x := fun x ⟨cs, tt, hh⟩ => by
      by_cases e : x = B
      · subst e
        exact ⟨_, _, e1⟩
      · exact ⟨cs, tt, (hx x e (Array.getElem?_eq_some_iff.1 hh).1).trans hh⟩
    have hbW : Below lo w W := by rw [← hW]; exact ((Below.refl lo w).setCell hB _).alloc (by rw [hss]; omega) _
    have hkW : KeepT B w W := fun x cs tt fr hh _ hxB => hx x hxB (Array.getElem?_eq_some_iff.1 hh).1
    obtain ⟨u', w5, a5, n5, c5, hup, hrun5, hT5, hB5, hK5, f0, f1, f2, f3, f4⟩ := meet_step B t rest lo mb b w.heap.size ma mc W e1 e2 e3 (by omega) (fun x hxm => hLW x (hL x hxm)) (hLW b hb) hm ht hB hl
    have HR : Hid (TrAt B t rest lo (mb ++ [b]) (w5.setCell ⟨B, 1, none⟩ (.slice a5 n5 c5)) ∧ Below lo w (w5.setCell ⟨B, 1, none⟩ (.slice a5 n5 c5)) ∧ KeepT B w (w5.setCell ⟨B, 1, none⟩ (.slice a5 n5 c5))) := ⟨hT5, hbW.trans hB5, hkW.trans hK5⟩
    simp only [if_true, ptr] at hlook
    have c0 := tr_0 h1
    have df := tr_f h1 0
    have hBw : B < w.heap.size := hlt
    have d0 := tr_0 (tr_set0 h1 (.map (some w.heap.size)))
    have d1 := tr_1 (tr_set0 h1 (.map (some w.heap.size)))
    have g0 := tr_0 e1
    have g1 := tr_1 e1
    subst hW
    clear hT h1 h2 hL hb hm hLf hmb hss hx e1 e2 hWs e3 hLW hbW hkW hT5 hB5 hK5 hBr ht
    go_enter Tryd.func45, Tryd.ntmps45
    have hmm := @run_makeMap Tryd.prog
    go_wp2_with (at_builtin; refine append_run rfl _ _ 48 rfl _ _ rfl rfl _ w5 hrun5 ?_)
    go_ret2
    exact ⟨rfl, HR.out⟩
  · -- the map is there
    have hf : numF mb b = none := by unfold numF; rw [if_neg hm]
    have hlook := hM.look (P := Tryd.prog) (hLf w (fun _ h => h)) Tryd.underlying53 Tryd.underlying78 hti hsz (zeroNumG w) hb true
    rw [hf] at hlook
    have hq : ∀ (w : World), (binOp .eql 53 (.map (some M)) (.map none)).run Tryd.prog w = .ok (.bool false) w := fun w => run_eql_map_nil w _ _ _ (some M) Tryd.underlying53
    obtain ⟨u', w5, a5, n5, c5, hup, hrun5, hT5, hB5, hK5, f0, f1, f2, f3, f4⟩ := meet_step B t rest lo mb b M ma mc w h1 h2 hM hlo hL hb hm ht hB hl
    have HR : Hid (TrAt B t rest lo (mb ++ [b]) (w5.setCell ⟨B, 1, none⟩ (.slice a5 n5 c5)) ∧ Below lo w (w5.setCell ⟨B, 1, none⟩ (.slice a5 n5 c5)) ∧ KeepT B w (w5.setCell ⟨B, 1, none⟩ (.slice a5 n5 c5))) := ⟨hT5, hB5, hK5⟩
    simp only [if_true, ptr, Option.isSome] at hlook
    have c0 := tr_0 h1
    have c1 := tr_1 h1
    clear hT h1 h2 hL hb hm hLf hM hf hT5 hB5 hK5 hBr ht hlo
    go_enter Tryd.func45, Tryd.ntmps45
    go_wp2_with (at_builtin; refine append_run rfl _ _ 48 rfl _ _ rfl rfl _ w5 hrun5 ?_)
    go_ret2
    exact ⟨rfl, HR.out⟩
end Go.Proofs.YtgaibajkegfpoaaDoor

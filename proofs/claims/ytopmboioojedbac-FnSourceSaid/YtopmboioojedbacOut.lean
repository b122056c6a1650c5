/- What a list of pages is that a call owns; and the contract of impl's source: the shelf told as a source in new memory. -/
import Derived.Test.YtopmboioojedbacRd
namespace Go.Proofs.Ytopmboioojedbac
open Go.Maps Go.RowKit
def u8s (zs : List Int) : List Value := zs.map (Value.int .u8)
def cellsP (ps : List Pv) : List Value := ps.flatMap (fun p => [.int .i64 p.1, p.2])
/-- Each page's bytes are owned, in blocks from lo on. -/
def DO (lo : Nat) (w : World) : List Pv → List Pg → Prop
  | [], [] => True
  | p :: ps, q :: qs => p.1 = q.1 ∧ w.ownsRow lo 5 1 p.2 q.2.length (u8s q.2) ∧ DO lo w ps qs
  | _, _ => False
def far (v v' : Value) : Prop := ∀ b, v.ownBlock = some b → v'.ownBlock ≠ some b
structure Apart (v : Value) (ps : List Pv) : Prop where
  row : ∀ p ∈ ps, far p.2 v
  each : ps.Pairwise (fun p p' => far p.2 p'.2)
/-- The slice value v owns the pages qs: no two lists of bytes lie in one block. -/
def Own (lo : Nat) (w : World) (v : Value) (qs : List Pg) : Prop :=
  ∃ ps, w.ownsRow lo 46 2 v ps.length (cellsP ps) ∧ DO lo w ps qs ∧ Apart v ps
theorem far.symm {v v' : Value} (h : far v v') : far v' v := fun b hb hb' => h b hb' hb
section
variable {lo : Nat} {w w' : World}
theorem DO.len : ∀ {ps : List Pv} {qs : List Pg}, DO lo w ps qs → ps.length = qs.length
  | [], [], _ => rfl
  | _ :: _, _ :: _, h => by simp [DO.len h.2.2]
  | [], _ :: _, h => h.elim
  | _ :: _, [], h => h.elim
theorem DO.snoc : ∀ {ps : List Pv} {qs : List Pg} {p : Pv} {q : Pg}, DO lo w ps qs → p.1 = q.1 → w.ownsRow lo 5 1 p.2 q.2.length (u8s q.2) → DO lo w (ps ++ [p]) (qs ++ [q])
  | [], [], _, _, _, e, h => ⟨e, h, trivial⟩
  | _ :: _, _ :: _, _, _, h, e, h2 => ⟨h.1, h.2.1, DO.snoc h.2.2 e h2⟩
  | [], _ :: _, _, _, h, _, _ => h.elim
  | _ :: _, [], _, _, h, _, _ => h.elim
theorem DO.kept {row : Option Nat} (hg : w.grownBy w' row) : ∀ {ps : List Pv} {qs : List Pg}, DO lo w ps qs → (∀ p ∈ ps, p.2.ownBlock = none ∨ p.2.ownBlock ≠ row) → DO lo w' ps qs
  | [], [], _, _ => trivial
  | p :: _, _ :: _, h, hf => ⟨h.1, h.2.1.kept hg (hf p (List.mem_cons_self ..)), DO.kept hg h.2.2 (fun x hx => hf x (List.mem_cons_of_mem _ hx))⟩
  | [], _ :: _, h, _ => h.elim
  | _ :: _, [], h, _ => h.elim
theorem DO.lt : ∀ {ps : List Pv} {qs : List Pg}, DO lo w ps qs → ∀ p ∈ ps, ∀ b, p.2.ownBlock = some b → lo ≤ b ∧ b < w.heap.size
  | [], [], _ => fun p hp => by cases hp
  | x :: ps, y :: qs, h => fun p hp => by
    rcases List.mem_cons.1 hp with rfl | hp
    · exact h.2.1.lt
    · exact DO.lt h.2.2 p hp
  | [], _ :: _, h => h.elim
  | _ :: _, [], h => h.elim
theorem DO.stays {H : Nat} (hb : Below H w w') (hH : w.heap.size ≤ H) : ∀ {ps : List Pv} {qs : List Pg}, DO lo w ps qs → DO lo w' ps qs
  | [], [], _ => trivial
  | _ :: _, _ :: _, h => ⟨h.1, row_block h.2.1 (fun k _ hk => hb.block k (by omega)), DO.stays hb hH h.2.2⟩
  | [], _ :: _, h => h.elim
  | _ :: _, [], h => h.elim
theorem DO.mono {lo' : Nat} (hl : lo' ≤ lo) : ∀ {ps : List Pv} {qs : List Pg}, DO lo w ps qs → DO lo' w ps qs
  | [], [], _ => trivial
  | _ :: _, _ :: _, h => ⟨h.1, ⟨h.2.1.1, h.2.1.2.imp id (fun ⟨g, cap, cur, e, hb, r⟩ => ⟨g, cap, cur, e, Nat.le_trans hl hb, r⟩)⟩, DO.mono hl h.2.2⟩
  | [], _ :: _, h => h.elim
  | _ :: _, [], h => h.elim
/-- What is owned can be read. -/
theorem sl_of_own {v : Value} {zs : List Int} (h : w.ownsRow lo 5 1 v zs.length (u8s zs)) : Sl w.heap.size w v zs := by
  by_cases hz : zs = []
  · subst hz
    left
    rcases h.2 with ⟨e, _⟩ | ⟨g, cap, cur, e, _⟩
    · exact ⟨rfl, _, _, e⟩
    · exact ⟨rfl, _, _, e⟩
  · right
    have hpos : 0 < zs.length := List.length_pos_iff.2 hz
    rcases h.2 with ⟨_, e⟩ | ⟨g, cap, cur, rfl, hb, hg, hn, hm, hs, ht⟩
    · omega
    · refine ⟨hz, g, 0, cap, rfl, lt_of_get hg, hn, fun i hi => ?_⟩
      have := h.cells (g := g) rfl i (.int .u8 (zs.getD i 0)) (by unfold u8s; simp [hi])
      have hadd : (⟨g, 0, none⟩ : Addr).add i = ⟨g, i, none⟩ := by unfold Addr.add; split <;> simp_all
      rw [hadd] at this
      rw [Nat.zero_add]
      exact this
theorem pq_of_do : ∀ {ps : List Pv} {qs : List Pg}, DO lo w ps qs → PQ w.heap.size w ps qs
  | [], [], _ => trivial
  | _ :: _, _ :: _, h => ⟨h.1, sl_of_own h.2.1, pq_of_do h.2.2⟩
  | [], _ :: _, h => h.elim
  | _ :: _, [], h => h.elim
end
theorem cellsP_len : ∀ ps : List Pv, (cellsP ps).length = ps.length * 2
  | [] => rfl
  | p :: ps => by
    have := cellsP_len ps
    unfold cellsP at *
    simp only [List.flatMap_cons, List.length_append, List.length_cons, List.length_nil, this]
    omega
theorem cellsP_at : ∀ {ps : List Pv} {i : Nat} {p : Pv}, ps[i]? = some p → (cellsP ps)[i * 2]? = some (.int .i64 p.1) ∧ (cellsP ps)[i * 2 + 1]? = some p.2
  | [], i, p, h => by simp at h
  | x :: ps, 0, p, h => by
    obtain rfl : x = p := by simpa using h
    exact ⟨rfl, rfl⟩
  | x :: ps, i + 1, p, h => by
    have := cellsP_at (ps := ps) (i := i) (p := p) (by simpa using h)
    have e1 : cellsP (x :: ps) = .int .i64 x.1 :: x.2 :: cellsP ps := rfl
    rw [e1]
    have e2 : (i + 1) * 2 = i * 2 + 1 + 1 := by omega
    rw [e2]
    simpa using this
theorem slp_of_own {lo : Nat} {w : World} {v : Value} {ps : List Pv} (h : w.ownsRow lo 46 2 v ps.length (cellsP ps)) : SlP w.heap.size w v ps := by
  by_cases hz : ps = []
  · subst hz
    left
    rcases h.2 with ⟨e, _⟩ | ⟨g, cap, cur, e, _⟩
    · exact ⟨rfl, _, _, e⟩
    · exact ⟨rfl, _, _, e⟩
  · right
    have hpos : 0 < ps.length := List.length_pos_iff.2 hz
    rcases h.2 with ⟨_, e⟩ | ⟨g, cap, cur, rfl, hb, hg, hn, hm, hs, ht⟩
    · omega
    · refine ⟨hz, g, 0, cap, rfl, lt_of_get hg, hn, fun i p hi => ?_⟩
      have hadd : ∀ j, (⟨g, 0, none⟩ : Addr).add j = ⟨g, j, none⟩ := by intro j; unfold Addr.add; split <;> simp_all
      have h1 := h.cells (g := g) rfl (i * 2) _ (cellsP_at hi).1
      have h2 := h.cells (g := g) rfl (i * 2 + 1) _ (cellsP_at hi).2
      rw [hadd] at h1 h2
      rw [Nat.zero_add]
      exact ⟨h1, h2⟩
theorem info5 : (Try.prog.info? 5).map (fun i => (i.zero, i.size, i.bytes)) = some (some (.int .u8 0), 1, 1) := by kernel_rfl
theorem infoPg : (Try.prog.info? 46).map (fun i => (i.zero, i.size, i.bytes)) = some (some (.agg #[.int .i64 0, .slice none 0 0]), 2, 32) := by kernel_rfl
theorem wpList_append_run {P : Program} {w : World} {ops : Array Oper} {rest : List Oper} {o : Oper} {a : Act} {Q : Exit → Act → World → Prop}
    (hg : o.guard = none) (s x : Operand) (t : TypeId) (hop : o.op = Op.call { callee := Callee.builtin Builtin.append, args := #[s, x], argTypes := #[t, t] })
    (v u : Value) (hs : a.eval s = v) (hx : a.eval x = u) (r : Value) (w' : World) (hrun : (Builtin.append_ #[t, t] o.type #[v, u]).run P w = .ok r w')
    (hK : wpList P ops Q rest (a.put o.dst r) w') : wpList P ops Q (o :: rest) a w := by
  refine wpList_plain hg fun K hK' => ?_
  unfold Oper.wp execOp
  simp only [hop, resolve, invoke, builtin, Sem.run_bind, Sem.run_pure, Result.andThen_ok, List.map_toArray, List.map_cons, List.map_nil, hs, hx, hrun]
  exact hK' _ _ hK
/-- append of bytes onto an own list of bytes. -/
theorem app_bytes {B : Nat} {w : World} {v : Value} {zs : List Int} (hS : Sl B w v zs) (lo : Nat) (d : Value) (acc : List Int) (hown : w.ownsRow lo 5 1 d acc.length (u8s acc)) (hl : acc.length + zs.length ≤ 4000000) (hlo : lo ≤ w.heap.size) (ty : TypeId) :
    ∃ d' w', (Builtin.append_ #[22, 22] ty #[d, v]).run Try.prog w = .ok d' w' ∧ w'.ownsRow lo 5 1 d' (acc ++ zs).length (u8s (acc ++ zs)) ∧ w.grownBy w' d.ownBlock ∧ (d'.ownBlock = d.ownBlock ∨ d'.ownBlock = some w.heap.size) ∧ isSl d' := by
  obtain ⟨ti, hti, hz0, hz1, hz2⟩ := info_parts info5
  have shp : ∀ (w' : World) (d' : Value) (n : Nat) (xs : List Value), w'.ownsRow lo 5 1 d' n xs → isSl d' := fun w' d' n xs h => by
    rcases h.2 with ⟨e, _⟩ | ⟨g, cap, cur, e, _⟩
    · exact ⟨_, _, _, e⟩
    · exact ⟨_, _, _, e⟩
  rcases hS with ⟨rfl, a, c, rfl⟩ | ⟨hne, b, off, c, rfl, hlt, hlc, hcell⟩
  · cases a with
    | some ad =>
      obtain ⟨v', w', hr, h2, h3, _, h5⟩ := run_append_own_at (P := Try.prog) w lo 22 ty 5 ti _ 1 1 Try.underlying22 hti hz0 hz1 hz2 rfl (by decide) d acc.length _ hown ad 0 c [] rfl (fun j u hu => by simp at hu) (fun u hu => by cases hu) (by unfold maxLen; omega) (by omega) hlo
      rw [List.append_nil] at h2
      exact ⟨v', w', hr, by rw [List.append_nil]; exact h2, h3, h5, shp _ _ _ _ h2⟩
    | none =>
      refine ⟨d, w, ?_, by rw [List.append_nil]; exact hown, ⟨rfl, rfl, rfl, Nat.le_refl _, fun _ _ _ => rfl⟩, .inl rfl, shp _ _ _ _ hown⟩
      rcases hown.2 with ⟨e, _⟩ | ⟨g, cap, cur, e, _, hg, hn, _⟩
      · subst e
        simp [Builtin.append_, run_underlying Try.underlying22, Go.sizeOf, typeInfo, hti, Builtin.lenOf, Builtin.firstCells]
      · subst e
        simp [Builtin.append_, run_underlying Try.underlying22, Go.sizeOf, typeInfo, hti, Builtin.lenOf, Builtin.firstCells, hn, storeCells]
  · have hadd : ∀ j, (⟨b, off, none⟩ : Addr).add j = ⟨b, off + j, none⟩ := by intro j; unfold Addr.add; split <;> simp_all
    obtain ⟨v', w', hr, h2, h3, _, h5⟩ := run_append_own_at (P := Try.prog) w lo 22 ty 5 ti _ 1 1 Try.underlying22 hti hz0 hz1 hz2 rfl (by decide) d acc.length _ hown ⟨b, off, none⟩ zs.length c (u8s zs) (by simp [u8s]) (fun j u hu => by
        rw [hadd]
        unfold u8s at hu
        rw [List.getElem?_map] at hu
        cases hj : zs[j]? with
        | none => rw [hj] at hu; cases hu
        | some z =>
          rw [hj] at hu
          obtain rfl : Value.int .u8 z = u := by simpa using hu
          have hjl : j < zs.length := by
            rcases Nat.lt_or_ge j zs.length with h | h
            · exact h
            · rw [List.getElem?_eq_none h] at hj; cases hj
          rw [hcell j hjl]
          simp [hj]) (fun u hu => by
        unfold u8s at hu
        obtain ⟨z, _, rfl⟩ := List.mem_map.1 hu
        rfl) (by unfold maxLen; omega) (by omega) hlo
    refine ⟨v', w', hr, ?_, h3, h5, shp _ _ _ _ h2⟩
    have : u8s acc ++ u8s zs = u8s (acc ++ zs) := by simp [u8s]
    rw [List.length_append, ← this]
    exact h2
end Go.Proofs.Ytopmboioojedbac

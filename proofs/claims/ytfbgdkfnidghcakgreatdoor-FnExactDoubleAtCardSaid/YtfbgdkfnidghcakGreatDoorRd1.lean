/- The reader's small methods: sees, put, keep. -/
import Derived.Test.YtfbgdkfnidghcakGreatDoorRdr
import Derived.Test.YtfbgdkfnidghcakGreatDoorMk
import Derived.OwnWalk
import Derived.WalkMore
import Derived.Deep.Light
import Derived.Deep.RegionHeld3
namespace Go.Proofs.YtfbgdkfnidghcakGreatDoor
open Go.ChangeShapes Go.WideShapes Go.ChangeAt Go.RowKit Go.Deep
set_option maxHeartbeats 2000000 in
theorem sees_any (b : Nat) (s q : ByteArray) (i : Nat) (l : List Pc) (cur : ByteArray) (fm : Nat) (w : World) (hR : RdM b s i l cur fm w) (hi : i ≤ s.size) (r : Bool) (hr : r = pre (s.extract i s.size) q) :
    Calls Tryz.prog 24 #[.pointer (some ⟨b, 0, none⟩), .string q] w fun e w' => e = .returned (.bool r) ∧ Below w.heap.size w w' := by
  obtain ⟨la, ln, lc, ca, cn, cc, h1, _, _⟩ := hR
  have c0 := h1.c0
  have c1 := h1.c1
  have hi' : (i : Int) ≤ (s.size : Int) := by omega
  have HR : Hid (r = pre (s.extract i s.size) q) := hr
  clear h1 hr
  go_enter Tryz.func24, Tryz.ntmps24
  go_wp2_with fail
  go_quiet ((first | (go_at_call 32; exact Calls.quiet_of_same (hp_any (s.extract i s.size) q _ r HR.out))))
  go_wp2
  go_ret
  exact ⟨rfl, below_drewN _ _⟩
set_option maxHeartbeats 2000000 in
theorem put_any (b : Nat) (s t : ByteArray) (i j : Nat) (l : List Pc) (cur : ByteArray) (fm : Nat) (w : World) (hR : RdM b s i l cur fm w) (hn : cur.size + t.size ≤ 100000000) :
    Calls Tryz.prog 37 #[.pointer (some ⟨b, 0, none⟩), .string t, .int .i64 (j : Int)] w fun e w' => e = .returned (.tuple #[]) ∧ RdM b s j l (cur ++ t) fm w' ∧ Fq b w w' := by
  obtain ⟨la, ln, lc, ca, cn, cc, h1, h2, h3⟩ := hR
  have hlt := h1.lt
  obtain ⟨a, n, c, w1, hrun, ho, hb1, hot⟩ := push_any w (b + 1) _ cur t h3 hn hlt
  have k1 := h1.stays hb1 (Nat.lt_succ_self b)
  have k2 : w1.ownsRow (b + 1) 29 2 (.slice la ln lc) l.length (cellsC l) := row_beside h2 hot (rows_apart h2 h3 (by decide))
  have c3 := h1.c3
  have d3 := k1.c3
  have d1 := k1.c1
  have f3 := k1.fz 3
  have f1 := k1.fz 1
  have HO : Hid (RdM b s j l (cur ++ t) fm ((w1.setCell ⟨b, 3, none⟩ (.slice a n c)).setCell ⟨b, 1, none⟩ (.int .i64 (j : Int)))) := ⟨la, ln, lc, a, n, c, (k1.set3 _).set1 j, row_past (row_past k2), row_past (row_past ho)⟩
  have HB : Hid (Fq b w ((w1.setCell ⟨b, 3, none⟩ (.slice a n c)).setCell ⟨b, 1, none⟩ (.int .i64 (j : Int)))) := ((Fq.push hb1 h3 (.inr rfl) hot).setB _ _).setB _ _
  clear h1 h2 h3 ho hb1 hot k1 k2 hlt hn
  go_enter Tryz.func37, Tryz.ntmps37
  go_wp2_with (at_builtin; refine append_str rfl _ _ 27 9 rfl _ _ rfl rfl _ w1 hrun ?_)
  go_end0
  exact ⟨rfl, HO.out, HB.out⟩
/-- append as one step of a region that draws, its run being known. -/
theorem step_append_runQ {P : Program} {ops : Array Oper} {o : Oper} {a : Act} {w : World} {K : Act → World → Prop} {Q : Exit → Act → World → Prop} {E : Prop}
    (hg : o.guard = none) (s x : Operand) (t : TypeId) (hop : o.op = Op.call { callee := Callee.builtin Builtin.append, args := #[s, x], argTypes := #[t, t] })
    (v u : Value) (hs : a.eval s = v) (hx : a.eval x = u) (r : Value) (w' : World) (hrun : (Builtin.append_ #[t, t] o.type #[v, u]).run P w = .ok r w')
    (hK : K (a.put o.dst r) w') :
    if Region.wanted o (yielded ops a.tmps) = true then Oper.wp P o a w K Q else E := by
  have hw : Region.wanted o (yielded ops a.tmps) = true := by simp [Region.wanted, hg]
  rw [if_pos hw]
  unfold Oper.wp execOp
  simp only [hop, resolve, invoke, builtin, Sem.run_bind, Sem.run_pure, Result.andThen_ok, List.map_toArray, List.map_cons, List.map_nil, hs, hx, hrun]
  exact hK
set_option maxHeartbeats 4000000 in
theorem keep_any (b : Nat) (s : ByteArray) (i : Nat) (l : List Pc) (cur : ByteArray) (fm : Nat) (gl : Bool) (w : World) (hR : RdM b s i l cur fm w) (hn : l.length ≤ 100000000) :
    Calls Tryz.prog 30 #[.pointer (some ⟨b, 0, none⟩), .bool gl] w fun e w' => e = .returned (.tuple #[]) ∧ RdM b s i (l ++ [(cur, gl)]) ByteArray.empty 0 w' ∧ Fq b w w' := by
  obtain ⟨la, ln, lc, ca, cn, cc, h1, h2, h3⟩ := hR
  have hlt := h1.lt
  obtain ⟨v5, w5, hrun5, hsl5, hown5, hbel5, hot5⟩ := push_own (P := Tryz.prog) Tryz.underlying26 infoC rfl (by decide) w.drew (b + 1) _ _ _ h2.drew #[.string cur, .bool gl] rfl (by intro u hu; simp at hu; rcases hu with rfl | rfl <;> rfl) hn (by omega) hlt 26
  obtain ⟨a5, n5, c5, rfl⟩ := hsl5
  have hcv := conv_row (w := w.drew) h3.drew
  have b5 : Below (b + 1) w w5 := ((Below.refl _ w).drew).trans hbel5
  have k1 := h1.stays b5 (Nat.lt_succ_self b)
  have k3 : w5.ownsRow (b + 1) 5 1 (.slice ca cn cc) cur.size (Lib.strCells cur) := row_beside h3.drew hot5 (rows_apart h3 h2 (by decide))
  have k2 : w5.ownsRow (b + 1) 29 2 (.slice a5 n5 c5) (l ++ [(cur, gl)]).length (cellsC (l ++ [(cur, gl)])) := by
    rw [List.length_append, cellsC_app]
    exact hown5
  have hln := row_len h3
  have k30 : w5.ownsRow (b + 1) 5 1 (.slice ca 0 cc) ByteArray.empty.size (Lib.strCells ByteArray.empty) := by
    have := row_take (k := 0) k3 (Nat.zero_le _)
    rw [extract_same] at this
    exact this
  have c2 := h1.c2
  have c3 := h1.c3
  have hA : RdAt b s i (.slice la ln lc) (.slice ca cn cc) fm (w.alloc (.cells #[.string cur, .bool gl] 29)) := h1.stays ((Below.refl _ w).alloc (Nat.le_refl _) _) hlt
  have a2 := hA.c2
  have a3 := hA.c3
  have d2 := k1.c2
  have d3 := k1.c3
  have d4 := k1.c4
  have f2 := k1.fz 2
  have f3 := k1.fz 3
  have f4 := k1.fz 4
  have hne : w.heap.size ≠ b := by omega
  have HO : Hid (RdM b s i (l ++ [(cur, gl)]) ByteArray.empty 0 (((w5.setCell ⟨b, 2, none⟩ (.slice a5 n5 c5)).setCell ⟨b, 3, none⟩ (.slice ca 0 cc)).setCell ⟨b, 4, none⟩ (.int .i64 0))) := ⟨a5, n5, c5, ca, 0, cc, ((k1.set2 _).set3 _).set4 0, row_past (row_past (row_past k2)), row_past (row_past (row_past k30))⟩
  have HB : Hid (Fq b w (((w5.setCell ⟨b, 2, none⟩ (.slice a5 n5 c5)).setCell ⟨b, 3, none⟩ (.slice ca 0 cc)).setCell ⟨b, 4, none⟩ (.int .i64 0))) := (((((Fq.refl b w).drew).trans (Fq.push hbel5 h2.drew (.inl rfl) hot5)).setB _ _).setB _ _).setB _ _
  clear h1 h2 h3 hown5 hbel5 hot5 b5 k1 k2 k3 k30 hA hln hlt hn
  go_enter Tryz.func30, Tryz.ntmps30
  go_wp2_with fail
  go_region_law (refine step_append_runQ (by rfl) _ _ 26 (by rfl) _ _ (by rfl) (by rfl) _ w5 hrun5 ?_)
  all_goals go_wp2_with fail
  all_goals go_end0
  all_goals exact ⟨rfl, HO.out, HB.out⟩
end Go.Proofs.YtfbgdkfnidghcakGreatDoor

/- The region of spec.PlainAt that puts the empty pieces and the next one behind the pieces, in every order that it may draw. -/
import Derived.Test.YtjpcmmfmdoglkalGreatDoorPap2
import Derived.Test.YtjpcmmfmdoglkalGreatDoorProg
import Derived.Deep.RegionLaw
import Derived.Deep.RegionHeld3
import Derived.Deep.Light
import Derived.WalkLawsBesides
import Derived.WalkSpells
import Derived.WalkMore
namespace Go.Proofs.YtjpcmmfmdoglkalGreatDoor
open Go.ChangeShapes Go.WideShapes Go.ChangeAt Go.RowKit Go.Deep
theorem step_append_run' {P : Program} {ops : Array Oper} {o : Oper} {a : Act} {w : World} {K : Act → World → Prop} {Q : Exit → Act → World → Prop} {E : Prop}
    (hg : o.guard = none) (s x : Operand) (t : TypeId) (hop : o.op = Op.call { callee := Callee.builtin Builtin.append, args := #[s, x], argTypes := #[t, t] })
    (v u : Value) (hs : a.eval s = v) (hx : a.eval x = u) (r : Value) (w' : World) (hrun : (Builtin.append_ #[t, t] o.type #[v, u]).run P w = .ok r w')
    (hK : K (a.put o.dst r) w') :
    if Region.wanted o (yielded ops a.tmps) = true then Oper.wp P o a w K Q else E := by
  have hw : Region.wanted o (yielded ops a.tmps) = true := by simp [Region.wanted, hg]
  rw [if_pos hw]
  unfold Oper.wp execOp
  simp only [hop, resolve, invoke, builtin, Sem.run_bind, Sem.run_pure, Result.andThen_ok, List.map_toArray, List.map_cons, List.map_nil, hs, hx, hrun]
  exact hK
set_option maxRecDepth 100000 in
set_option maxHeartbeats 8000000 in
theorem reg_pieces {ps : String} {Q : Exit → Act → World → Prop} {w wA wB vA vB : World} {s : ByteArray} {q2 x g m gc : Nat} {l0 a30 a40 b30 b40 : Option Addr} {l1 l2 a31 a32 a41 a42 b31 b32 b41 b42 : Nat} {t1 t2 t3 t4 t5 t6 t7 t8 t9 t10 t15 t16 t17 t18 t19 t20 t21 t22 t23 t24 t25 t26 t27 t28 t29 t30 t31 t32 t33 t34 t35 t36 t37 t38 t39 t40 t41 t42 t43 t44 t45 t46 t47 t48 t49 t50 t51 t52 t53 t54 t55 t56 t57 t58 t59 t60 t61 t62 t63 t64 t65 t66 t67 t68 t69 t70 t71 t72 t73 t74 t75 t76 t77 t78 t79 t80 t81 t82 t83 t84 t85 t86 t87 t88 t89 t90 t91 t92 t93 t94 t95 t96 t97 t98 t99 t100 t101 t102 t103 t104 t105 t106 t107 t108 t109 t110 t111 t112 t113 t114 t115 t116 t117 t118 t119 t120 t121 t122 t123 t124 t125 t126 t127 t128 t129 t130 t131 t132 : Value}
    (hx1 : (q2 : Int) ≤ (x : Int)) (hx2 : (x : Int) ≤ (s.size : Int))
    (a1 : (Builtin.append_ #[90, 90] 90 #[.slice l0 l1 l2, .slice (some ⟨g, 0, none⟩) m gc]).run Tryz.prog w.drew = .ok (.slice a30 a31 a32) wA)
    (a2 : (Builtin.append_ #[90, 90] 90 #[.slice a30 a31 a32, .slice (some ⟨wA.heap.size, 0, none⟩) 1 1]).run Tryz.prog (wA.alloc (.cells #[.string (s.extract q2 x), .bool false] 92)) = .ok (.slice a40 a41 a42) wB)
    (b1 : (Builtin.append_ #[90, 90] 90 #[.slice l0 l1 l2, .slice (some ⟨g, 0, none⟩) m gc]).run Tryz.prog (w.drew.alloc (.cells #[.string (s.extract q2 x), .bool false] 92)) = .ok (.slice b30 b31 b32) vA)
    (b2 : (Builtin.append_ #[90, 90] 90 #[.slice b30 b31 b32, .slice (some ⟨w.heap.size, 0, none⟩) 1 1]).run Tryz.prog vA = .ok (.slice b40 b41 b42) vB)
    (hA : Q .normal { tmps := ((Value.string s) :: t1 :: t2 :: t3 :: t4 :: t5 :: t6 :: t7 :: t8 :: t9 :: t10 :: (Value.int .i64 (x : Int)) :: (Value.slice a40 a41 a42) :: (Value.slice (some ⟨g, 0, none⟩) m gc) :: (Value.int .i64 (q2 : Int)) :: t15 :: t16 :: t17 :: t18 :: t19 :: t20 :: t21 :: t22 :: t23 :: t24 :: t25 :: t26 :: t27 :: t28 :: t29 :: t30 :: t31 :: t32 :: t33 :: t34 :: t35 :: t36 :: t37 :: t38 :: t39 :: t40 :: t41 :: t42 :: t43 :: t44 :: t45 :: t46 :: t47 :: t48 :: t49 :: t50 :: t51 :: t52 :: t53 :: t54 :: t55 :: t56 :: t57 :: t58 :: t59 :: t60 :: t61 :: t62 :: t63 :: t64 :: t65 :: t66 :: t67 :: t68 :: t69 :: t70 :: t71 :: t72 :: t73 :: t74 :: t75 :: t76 :: t77 :: t78 :: t79 :: t80 :: t81 :: t82 :: t83 :: t84 :: t85 :: t86 :: t87 :: t88 :: t89 :: t90 :: t91 :: t92 :: t93 :: t94 :: t95 :: t96 :: t97 :: t98 :: t99 :: t100 :: t101 :: t102 :: t103 :: t104 :: t105 :: t106 :: t107 :: t108 :: t109 :: t110 :: t111 :: t112 :: t113 :: t114 :: t115 :: t116 :: t117 :: t118 :: t119 :: (Value.slice l0 l1 l2) :: (Value.slice (some ⟨g, 0, none⟩) m gc) :: (Value.slice a30 a31 a32) :: (Value.string s) :: (Value.int .i64 (q2 : Int)) :: (Value.int .i64 (x : Int)) :: (Value.string (s.extract q2 x)) :: (Value.agg #[Value.string (s.extract q2 x), .bool false]) :: (Value.slice (some ⟨wA.heap.size, 0, none⟩) 1 1) :: (Value.slice a40 a41 a42) :: t130 :: t131 :: t132 :: []).toArray, defers := [] } wB)
    (hB : Q .normal { tmps := ((Value.string s) :: t1 :: t2 :: t3 :: t4 :: t5 :: t6 :: t7 :: t8 :: t9 :: t10 :: (Value.int .i64 (x : Int)) :: (Value.slice b40 b41 b42) :: (Value.slice (some ⟨g, 0, none⟩) m gc) :: (Value.int .i64 (q2 : Int)) :: t15 :: t16 :: t17 :: t18 :: t19 :: t20 :: t21 :: t22 :: t23 :: t24 :: t25 :: t26 :: t27 :: t28 :: t29 :: t30 :: t31 :: t32 :: t33 :: t34 :: t35 :: t36 :: t37 :: t38 :: t39 :: t40 :: t41 :: t42 :: t43 :: t44 :: t45 :: t46 :: t47 :: t48 :: t49 :: t50 :: t51 :: t52 :: t53 :: t54 :: t55 :: t56 :: t57 :: t58 :: t59 :: t60 :: t61 :: t62 :: t63 :: t64 :: t65 :: t66 :: t67 :: t68 :: t69 :: t70 :: t71 :: t72 :: t73 :: t74 :: t75 :: t76 :: t77 :: t78 :: t79 :: t80 :: t81 :: t82 :: t83 :: t84 :: t85 :: t86 :: t87 :: t88 :: t89 :: t90 :: t91 :: t92 :: t93 :: t94 :: t95 :: t96 :: t97 :: t98 :: t99 :: t100 :: t101 :: t102 :: t103 :: t104 :: t105 :: t106 :: t107 :: t108 :: t109 :: t110 :: t111 :: t112 :: t113 :: t114 :: t115 :: t116 :: t117 :: t118 :: t119 :: (Value.slice l0 l1 l2) :: (Value.slice (some ⟨g, 0, none⟩) m gc) :: (Value.slice b30 b31 b32) :: (Value.string s) :: (Value.int .i64 (q2 : Int)) :: (Value.int .i64 (x : Int)) :: (Value.string (s.extract q2 x)) :: (Value.agg #[Value.string (s.extract q2 x), .bool false]) :: (Value.slice (some ⟨w.heap.size, 0, none⟩) 1 1) :: (Value.slice b40 b41 b42) :: t130 :: t131 :: t132 :: []).toArray, defers := [] } vB) :
    (Code.region 17
      #[{ dst := some 120, op := Op.move (Operand.tmp 12), type := 90, pos := ps, after := #[], guard := none },
      { dst := some 121, op := Op.move (Operand.tmp 13), type := 90, pos := ps, after := #[], guard := none },
      { dst := some 122, op := Op.call { callee := Callee.builtin Builtin.append, args := #[Operand.tmp 120, Operand.tmp 121], argTypes := #[90, 90] }, type := 90, pos := ps, after := #[{ on := 0, ground := Ground.data }, { on := 1, ground := Ground.data }], guard := none },
      { dst := some 123, op := Op.move (Operand.tmp 0), type := 9, pos := ps, after := #[], guard := none },
      { dst := some 124, op := Op.move (Operand.tmp 14), type := 3, pos := ps, after := #[], guard := none },
      { dst := some 125, op := Op.move (Operand.tmp 11), type := 3, pos := ps, after := #[], guard := none },
      { dst := some 126, op := Op.slice 9 (Operand.tmp 123) (some (Operand.tmp 124)) (some (Operand.tmp 125)) none, type := 9, pos := ps, after := #[{ on := 3, ground := Ground.data }, { on := 4, ground := Ground.data }, { on := 5, ground := Ground.data }], guard := none },
      { dst := some 127, op := Op.build 92 #[(0, Operand.tmp 126)], type := 92, pos := ps, after := #[{ on := 6, ground := Ground.data }], guard := none },
      { dst := some 128, op := Op.buildSlice 90 1 #[(0, Operand.tmp 127)], type := 90, pos := ps, after := #[{ on := 7, ground := Ground.data }], guard := none },
      { dst := some 129, op := Op.call { callee := Callee.builtin Builtin.append, args := #[Operand.tmp 122, Operand.tmp 128], argTypes := #[90, 90] }, type := 90, pos := ps, after := #[{ on := 2, ground := Ground.data }, { on := 8, ground := Ground.data }, { on := 2, ground := Ground.chain }], guard := none },
      { dst := some 12, op := Op.assign (Operand.tmp 129), type := 90, pos := ps, after := #[{ on := 9, ground := Ground.data }, { on := 9, ground := Ground.chain }, { on := 0, ground := Ground.phase }, { on := 1, ground := Ground.phase }, { on := 2, ground := Ground.phase }, { on := 3, ground := Ground.phase }, { on := 4, ground := Ground.phase }, { on := 5, ground := Ground.phase }, { on := 6, ground := Ground.phase }, { on := 7, ground := Ground.phase }, { on := 8, ground := Ground.phase }, { on := 9, ground := Ground.phase }], guard := none }] true).wp Tryz.prog Q { tmps := ((Value.string s) :: t1 :: t2 :: t3 :: t4 :: t5 :: t6 :: t7 :: t8 :: t9 :: t10 :: (Value.int .i64 (x : Int)) :: (Value.slice l0 l1 l2) :: (Value.slice (some ⟨g, 0, none⟩) m gc) :: (Value.int .i64 (q2 : Int)) :: t15 :: t16 :: t17 :: t18 :: t19 :: t20 :: t21 :: t22 :: t23 :: t24 :: t25 :: t26 :: t27 :: t28 :: t29 :: t30 :: t31 :: t32 :: t33 :: t34 :: t35 :: t36 :: t37 :: t38 :: t39 :: t40 :: t41 :: t42 :: t43 :: t44 :: t45 :: t46 :: t47 :: t48 :: t49 :: t50 :: t51 :: t52 :: t53 :: t54 :: t55 :: t56 :: t57 :: t58 :: t59 :: t60 :: t61 :: t62 :: t63 :: t64 :: t65 :: t66 :: t67 :: t68 :: t69 :: t70 :: t71 :: t72 :: t73 :: t74 :: t75 :: t76 :: t77 :: t78 :: t79 :: t80 :: t81 :: t82 :: t83 :: t84 :: t85 :: t86 :: t87 :: t88 :: t89 :: t90 :: t91 :: t92 :: t93 :: t94 :: t95 :: t96 :: t97 :: t98 :: t99 :: t100 :: t101 :: t102 :: t103 :: t104 :: t105 :: t106 :: t107 :: t108 :: t109 :: t110 :: t111 :: t112 :: t113 :: t114 :: t115 :: t116 :: t117 :: t118 :: t119 :: t120 :: t121 :: t122 :: t123 :: t124 :: t125 :: t126 :: t127 :: t128 :: t129 :: t130 :: t131 :: t132 :: []).toArray, defers := [] } w := by
  refine wp_region_noPanic ?_
  have HA : Hid (Q .normal { tmps := ((Value.string s) :: t1 :: t2 :: t3 :: t4 :: t5 :: t6 :: t7 :: t8 :: t9 :: t10 :: (Value.int .i64 (x : Int)) :: (Value.slice a40 a41 a42) :: (Value.slice (some ⟨g, 0, none⟩) m gc) :: (Value.int .i64 (q2 : Int)) :: t15 :: t16 :: t17 :: t18 :: t19 :: t20 :: t21 :: t22 :: t23 :: t24 :: t25 :: t26 :: t27 :: t28 :: t29 :: t30 :: t31 :: t32 :: t33 :: t34 :: t35 :: t36 :: t37 :: t38 :: t39 :: t40 :: t41 :: t42 :: t43 :: t44 :: t45 :: t46 :: t47 :: t48 :: t49 :: t50 :: t51 :: t52 :: t53 :: t54 :: t55 :: t56 :: t57 :: t58 :: t59 :: t60 :: t61 :: t62 :: t63 :: t64 :: t65 :: t66 :: t67 :: t68 :: t69 :: t70 :: t71 :: t72 :: t73 :: t74 :: t75 :: t76 :: t77 :: t78 :: t79 :: t80 :: t81 :: t82 :: t83 :: t84 :: t85 :: t86 :: t87 :: t88 :: t89 :: t90 :: t91 :: t92 :: t93 :: t94 :: t95 :: t96 :: t97 :: t98 :: t99 :: t100 :: t101 :: t102 :: t103 :: t104 :: t105 :: t106 :: t107 :: t108 :: t109 :: t110 :: t111 :: t112 :: t113 :: t114 :: t115 :: t116 :: t117 :: t118 :: t119 :: (Value.slice l0 l1 l2) :: (Value.slice (some ⟨g, 0, none⟩) m gc) :: (Value.slice a30 a31 a32) :: (Value.string s) :: (Value.int .i64 (q2 : Int)) :: (Value.int .i64 (x : Int)) :: (Value.string (s.extract q2 x)) :: (Value.agg #[Value.string (s.extract q2 x), .bool false]) :: (Value.slice (some ⟨wA.heap.size, 0, none⟩) 1 1) :: (Value.slice a40 a41 a42) :: t130 :: t131 :: t132 :: []).toArray, defers := [] } wB) := hA
  have HB : Hid (Q .normal { tmps := ((Value.string s) :: t1 :: t2 :: t3 :: t4 :: t5 :: t6 :: t7 :: t8 :: t9 :: t10 :: (Value.int .i64 (x : Int)) :: (Value.slice b40 b41 b42) :: (Value.slice (some ⟨g, 0, none⟩) m gc) :: (Value.int .i64 (q2 : Int)) :: t15 :: t16 :: t17 :: t18 :: t19 :: t20 :: t21 :: t22 :: t23 :: t24 :: t25 :: t26 :: t27 :: t28 :: t29 :: t30 :: t31 :: t32 :: t33 :: t34 :: t35 :: t36 :: t37 :: t38 :: t39 :: t40 :: t41 :: t42 :: t43 :: t44 :: t45 :: t46 :: t47 :: t48 :: t49 :: t50 :: t51 :: t52 :: t53 :: t54 :: t55 :: t56 :: t57 :: t58 :: t59 :: t60 :: t61 :: t62 :: t63 :: t64 :: t65 :: t66 :: t67 :: t68 :: t69 :: t70 :: t71 :: t72 :: t73 :: t74 :: t75 :: t76 :: t77 :: t78 :: t79 :: t80 :: t81 :: t82 :: t83 :: t84 :: t85 :: t86 :: t87 :: t88 :: t89 :: t90 :: t91 :: t92 :: t93 :: t94 :: t95 :: t96 :: t97 :: t98 :: t99 :: t100 :: t101 :: t102 :: t103 :: t104 :: t105 :: t106 :: t107 :: t108 :: t109 :: t110 :: t111 :: t112 :: t113 :: t114 :: t115 :: t116 :: t117 :: t118 :: t119 :: (Value.slice l0 l1 l2) :: (Value.slice (some ⟨g, 0, none⟩) m gc) :: (Value.slice b30 b31 b32) :: (Value.string s) :: (Value.int .i64 (q2 : Int)) :: (Value.int .i64 (x : Int)) :: (Value.string (s.extract q2 x)) :: (Value.agg #[Value.string (s.extract q2 x), .bool false]) :: (Value.slice (some ⟨w.heap.size, 0, none⟩) 1 1) :: (Value.slice b40 b41 b42) :: t130 :: t131 :: t132 :: []).toArray, defers := [] } vB) := hB
  clear hA hB
  refine wp_region_any (by kernel_rfl) ?_
  try (change wpAny _ _ _ _ _ _ _ (World.drew _))
  refine wpAny_take (i := 0) (v := ?_) rfl (by kernel_rfl) (by kernel_rfl) (by kernel_rfl) (fun _ _ _ h => h) (Or.inl ⟨by rfl, ?_⟩) ?_
  rotate_left
  · intro w
    go_simp
    try with_reducible rfl
  refine wpAny_take (i := 1) (v := ?_) rfl (by kernel_rfl) (by kernel_rfl) (by kernel_rfl) (fun _ _ _ h => h) (Or.inl ⟨by rfl, ?_⟩) ?_
  rotate_left
  · intro w
    go_simp
    try with_reducible rfl
  refine wpAny_take (i := 3) (v := ?_) rfl (by kernel_rfl) (by kernel_rfl) (by kernel_rfl) (fun _ _ _ h => h) (Or.inl ⟨by rfl, ?_⟩) ?_
  rotate_left
  · intro w
    go_simp
    try with_reducible rfl
  refine wpAny_take (i := 4) (v := ?_) rfl (by kernel_rfl) (by kernel_rfl) (by kernel_rfl) (fun _ _ _ h => h) (Or.inl ⟨by rfl, ?_⟩) ?_
  rotate_left
  · intro w
    go_simp
    try with_reducible rfl
  refine wpAny_take (i := 5) (v := ?_) rfl (by kernel_rfl) (by kernel_rfl) (by kernel_rfl) (fun _ _ _ h => h) (Or.inl ⟨by rfl, ?_⟩) ?_
  rotate_left
  · intro w
    go_simp
    try with_reducible rfl
  refine wpAny_take (i := 6) (v := ?_) rfl (by kernel_rfl) (by kernel_rfl) (by kernel_rfl) (fun _ _ _ h => h) (Or.inl ⟨by rfl, ?_⟩) ?_
  rotate_left
  · intro w
    go_simp
    try with_reducible rfl
  refine wpAny_take (i := 7) (v := ?_) rfl (by kernel_rfl) (by kernel_rfl) (by kernel_rfl) (fun _ _ _ h => h) (Or.inl ⟨by rfl, ?_⟩) ?_
  rotate_left
  · intro w
    go_simp
    try with_reducible rfl
  refine wpAny_ready (rs := [2, 8]) (by kernel_rfl) (by simp) ?_
  refine AllReady.cons (o := { dst := some 122, op := Op.call { callee := Callee.builtin Builtin.append, args := #[Operand.tmp 120, Operand.tmp 121], argTypes := #[90, 90] }, type := 90, pos := ps, after := #[{ on := 0, ground := Ground.data }, { on := 1, ground := Ground.data }], guard := none }) rfl (fun K hK => ?_) ?_
  · refine step_append_run' (by rfl) (Operand.tmp 120) (Operand.tmp 121) 90 (by rfl) (.slice l0 l1 l2) (.slice (some ⟨g, 0, none⟩) m gc) (by go_simp) (by go_simp) (.slice a30 a31 a32) wA (by exact a1) ?_
    refine hK _ _ ?_
    clear hK K
    refine wpAny_ready (rs := [8]) (by kernel_rfl) (by simp) ?_
    refine AllReady.cons (o := { dst := some 128, op := Op.buildSlice 90 1 #[(0, Operand.tmp 127)], type := 90, pos := ps, after := #[{ on := 7, ground := Ground.data }], guard := none }) rfl (fun K hK => ?_) AllReady.nil
    go_simp
    refine hK _ _ ?_
    clear hK K
    refine wpAny_ready (rs := [9]) (by kernel_rfl) (by simp) ?_
    refine AllReady.cons (o := { dst := some 129, op := Op.call { callee := Callee.builtin Builtin.append, args := #[Operand.tmp 122, Operand.tmp 128], argTypes := #[90, 90] }, type := 90, pos := ps, after := #[{ on := 2, ground := Ground.data }, { on := 8, ground := Ground.data }, { on := 2, ground := Ground.chain }], guard := none }) rfl (fun K hK => ?_) AllReady.nil
    refine step_append_run' (by rfl) (Operand.tmp 122) (Operand.tmp 128) 90 (by rfl) (.slice a30 a31 a32) (.slice (some ⟨wA.heap.size, 0, none⟩) 1 1) (by go_simp) (by go_simp) (.slice a40 a41 a42) wB (by exact a2) ?_
    refine hK _ _ ?_
    clear hK K
    refine wpAny_ready (rs := [10]) (by kernel_rfl) (by simp) ?_
    refine AllReady.cons (o := { dst := some 12, op := Op.assign (Operand.tmp 129), type := 90, pos := ps, after := #[{ on := 9, ground := Ground.data }, { on := 9, ground := Ground.chain }, { on := 0, ground := Ground.phase }, { on := 1, ground := Ground.phase }, { on := 2, ground := Ground.phase }, { on := 3, ground := Ground.phase }, { on := 4, ground := Ground.phase }, { on := 5, ground := Ground.phase }, { on := 6, ground := Ground.phase }, { on := 7, ground := Ground.phase }, { on := 8, ground := Ground.phase }, { on := 9, ground := Ground.phase }], guard := none }) rfl (fun K hK => ?_) AllReady.nil
    go_simp
    refine hK _ _ ?_
    clear hK K
    refine wpAny_done (by kernel_rfl) ?_ _
    exact HA.out
  refine AllReady.cons (o := { dst := some 128, op := Op.buildSlice 90 1 #[(0, Operand.tmp 127)], type := 90, pos := ps, after := #[{ on := 7, ground := Ground.data }], guard := none }) rfl (fun K hK => ?_) AllReady.nil
  go_simp
  refine hK _ _ ?_
  clear hK K
  refine wpAny_ready (rs := [2]) (by kernel_rfl) (by simp) ?_
  refine AllReady.cons (o := { dst := some 122, op := Op.call { callee := Callee.builtin Builtin.append, args := #[Operand.tmp 120, Operand.tmp 121], argTypes := #[90, 90] }, type := 90, pos := ps, after := #[{ on := 0, ground := Ground.data }, { on := 1, ground := Ground.data }], guard := none }) rfl (fun K hK => ?_) AllReady.nil
  refine step_append_run' (by rfl) (Operand.tmp 120) (Operand.tmp 121) 90 (by rfl) (.slice l0 l1 l2) (.slice (some ⟨g, 0, none⟩) m gc) (by go_simp) (by go_simp) (.slice b30 b31 b32) vA (by exact b1) ?_
  refine hK _ _ ?_
  clear hK K
  refine wpAny_ready (rs := [9]) (by kernel_rfl) (by simp) ?_
  refine AllReady.cons (o := { dst := some 129, op := Op.call { callee := Callee.builtin Builtin.append, args := #[Operand.tmp 122, Operand.tmp 128], argTypes := #[90, 90] }, type := 90, pos := ps, after := #[{ on := 2, ground := Ground.data }, { on := 8, ground := Ground.data }, { on := 2, ground := Ground.chain }], guard := none }) rfl (fun K hK => ?_) AllReady.nil
  refine step_append_run' (by rfl) (Operand.tmp 122) (Operand.tmp 128) 90 (by rfl) (.slice b30 b31 b32) (.slice (some ⟨w.heap.size, 0, none⟩) 1 1) (by go_simp) (by go_simp) (.slice b40 b41 b42) vB (by exact b2) ?_
  refine hK _ _ ?_
  clear hK K
  refine wpAny_ready (rs := [10]) (by kernel_rfl) (by simp) ?_
  refine AllReady.cons (o := { dst := some 12, op := Op.assign (Operand.tmp 129), type := 90, pos := ps, after := #[{ on := 9, ground := Ground.data }, { on := 9, ground := Ground.chain }, { on := 0, ground := Ground.phase }, { on := 1, ground := Ground.phase }, { on := 2, ground := Ground.phase }, { on := 3, ground := Ground.phase }, { on := 4, ground := Ground.phase }, { on := 5, ground := Ground.phase }, { on := 6, ground := Ground.phase }, { on := 7, ground := Ground.phase }, { on := 8, ground := Ground.phase }, { on := 9, ground := Ground.phase }], guard := none }) rfl (fun K hK => ?_) AllReady.nil
  go_simp
  refine hK _ _ ?_
  clear hK K
  refine wpAny_done (by kernel_rfl) ?_ _
  exact HB.out
end Go.Proofs.YtjpcmmfmdoglkalGreatDoor

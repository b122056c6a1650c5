/- The program's loom tells its graph. -/
import Derived.Test.YtkdlakcmhdiojaaGnv
namespace Go.Proofs.Ytkdlakcmhdiojaa
open Go.ChangeShapes Go.WideShapes Go.ChangeAt Go.RowKit Go.Deep Go.Maps
section
variable {w0 w : World} {B T B1 B2 K : Nat} {lv : Value} {q p : Nat} {t : Ti} {f : Int → Option Nat} {mb : List Nat} {ns : List Nd} {cs : List (List Nat)} {rs : List Nat} {nv mv rv : Value} {kvs : List Value}
theorem LmS.live (h : LmS w0 B T B1 B2 K lv q p t f mb ns cs rs nv mv rv kvs w) : ∀ x ∈ mb, Live w x := fun x hx => by
  obtain ⟨m, hm⟩ := List.mem_iff_getElem?.1 hx
  obtain ⟨_, _, _, _, _, _, h7, _⟩ := h.knotAt hm
  exact ⟨_, _, h7⟩
theorem LmS.nums (h : LmS w0 B T B1 B2 K lv q p t f mb ns cs rs nv mv rv kvs w) (hml : mb.length ≤ 1048576) {x : World} (hb : Below w.heap.size w x) (pv : Value) (l : List Int) (hP : PlAt x pv (l.map (blk mb))) (hl : l.length ≤ 1048576) (hin : ∀ k ∈ l, 0 ≤ k ∧ k < (mb.length : Int)) :
    Calls Try.prog 53 #[.pointer (some ⟨B, 0, none⟩), pv] x fun e w' => (∃ v, e = .returned v ∧ isSlG v ∧ w'.ownsRow x.heap.size 3 1 v l.length (ilV l)) ∧ Below x.heap.size x w' :=
  numbers_any B 79 _ w0.heap.size mb nv mv x (h.tour.stays hb) (h.stays hb).live h.nd pv l hP hl hin hml
end
theorem gr_start1 {w V w1 : World} {rs : List Int} {ra : Option Addr} {rn rc : Nat} (hBV : Below w.heap.size w V) (hVE : V.heap[w.heap.size]? = some (.cells #[.slice none 0 0, .slice none 0 0] 27 (0, 0)) ∧ V.heap.size = w.heap.size + 1) (hb1 : Below V.heap.size V w1) (hrow : w1.ownsRow V.heap.size 3 1 (.slice ra rn rc) rs.length (ilV rs)) :
    GrS w w1.heap.size (.slice ra rn rc) rs [] [] (w1.alloc (.cells #[.slice none 0 0, .slice ra rn rc] 27)) := by
  have hb2 := al_belowG w1 (.cells #[.slice none 0 0, .slice ra rn rc] 27)
  have hs := hb1.size
  have hr := (hb1.block _ (by omega)).trans hVE.1
  exact ⟨⟨none, 0, 0, heap_alloc_new w1 _, ⟨rfl, .inl ⟨rfl, rfl⟩⟩⟩, KidsOwn.nil _ _, g_row_lower (g_row_below hrow hb2) hBV.size, ⟨_, _, _, rfl⟩, fun i a y h => by simp at h, by omega, (hb2.block _ (Array.getElem?_eq_some_iff.1 hr).1).trans hr, (hBV.trans (hb1.mono hBV.size)).trans (hb2.mono (Nat.le_trans hBV.size hs))⟩
theorem gr_start2 {w V w1 : World} {rs : List Int} {ra : Option Addr} {rn rc : Nat} {o : Obj} (hBV : Below w.heap.size w V) (hVE : V.heap[w.heap.size]? = some (.cells #[.slice none 0 0, .slice none 0 0] 27 (0, 0)) ∧ V.heap.size = w.heap.size + 1) (hb1 : Below (V.alloc o).heap.size (V.alloc o) w1) (hrow : w1.ownsRow (V.alloc o).heap.size 3 1 (.slice ra rn rc) rs.length (ilV rs)) (hE : w1.heap[V.heap.size]? = some (.cells #[.slice none 0 0, .slice none 0 0] 27 (0, 0))) :
    GrS w V.heap.size (.slice ra rn rc) rs [] [] ((w1.setCell ⟨V.heap.size, 0, none⟩ (.slice none 0 0)).setCell ⟨V.heap.size, 1, none⟩ (.slice ra rn rc)) := by
  have ha := al_belowG V o
  have hs : (V.alloc o).heap.size = V.heap.size + 1 := by show (V.heap.push _).size = _; simp
  have hb : Below V.heap.size V w1 := ha.trans (hb1.mono ha.size)
  have hr := (hb.block _ (by omega)).trans hVE.1
  have hx : ∀ x, x ≠ V.heap.size → ((w1.setCell ⟨V.heap.size, 0, none⟩ (.slice none 0 0)).setCell ⟨V.heap.size, 1, none⟩ (.slice ra rn rc)).heap[x]? = w1.heap[x]? := fun x h => (heap_setCell_other _ _ _ _ h).trans (heap_setCell_other _ _ _ _ h)
  exact ⟨⟨none, 0, 0, n2_set1 (n2_set0 hE _) _, ⟨rfl, .inl ⟨rfl, rfl⟩⟩⟩, KidsOwn.nil _ _, g_row_lower (g_row_block hrow (fun x h => hx x (by have := (hrow.lt x h).1; omega))) (Nat.le_trans hBV.size ha.size), ⟨_, _, _, rfl⟩, fun i a y h => by simp at h, by omega, (hx _ (by omega)).trans hr, ((hBV.trans (hb.mono hBV.size)).setCell hBV.size _).setCell hBV.size _⟩
theorem ndOf_kids (l : List Ev) (j : Nat) (ks : List Int) : ({ ndOf l j [] with kids := ks } : Nd) = ndOf l j ks := by
  unfold ndOf
  split <;> rfl
set_option maxRecDepth 100000 in
set_option maxHeartbeats 16000000 in
theorem loomGraph_any {w0 w : World} {B T B1 B2 K : Nat} {lv : Value} {l : List Ev} {q : Nat} (hw : whole l = true) (hl : l.length ≤ 1048576) (h : LmP w0 B T B1 B2 K lv l q l.length w) :
    Calls Try.prog 30 #[.pointer (some ⟨B, 0, none⟩)] w fun e w' => (∃ nv rv vs, e = .returned (.agg #[nv, rv]) ∧ isSlG nv ∧ isSlG rv ∧ GOwn w.heap.size w' nv rv ⟨knotsTo l l.length, kidsTo l (-1) l.length⟩ vs) ∧ Below w.heap.size w w' := by
  obtain ⟨mb, nv, mv, rv, kvs, hmb, hS⟩ := h.ex
  have hml : mb.length ≤ 1048576 := by have := cntR_le l l.length; omega
  obtain ⟨x0, x1, x2, x3, x4⟩ := hS.cells
  obtain ⟨ma, mc, rfl⟩ := hS.tour.sl
  have HS := hidG hS
  have HM := hidG (And.intro hmb (And.intro hml hl))
  have HW := hidG hw
  obtain ⟨V, hV⟩ : ∃ V, w.alloc (.cells #[.slice none 0 0, .slice none 0 0] 27) = V := ⟨_, rfl⟩
  have hBV : Below w.heap.size w V := by rw [← hV]; exact al_belowG w _
  have hVE : V.heap[w.heap.size]? = some (.cells #[.slice none 0 0, .slice none 0 0] 27 (0, 0)) := by rw [← hV]; exact heap_alloc_new w _
  have hVs : V.heap.size = w.heap.size + 1 := by rw [← hV]; show (w.heap.push _).size = _; simp
  have HBV := hidG hBV
  have HVE := hidG (And.intro hVE hVs)
  have hBW : B < w.heap.size := (Array.getElem?_eq_some_iff.1 hS.tour.at_).1
  have y0 : V.cell? ⟨B, 4, none⟩ = some rv := (hBV.cell hBW).trans x4
  have y1 : V.cell? ⟨B, 1, none⟩ = some (.slice ma mb.length mc) := (hBV.cell hBW).trans x1
  have hBl : B < V.heap.size := by omega
  have y2 : (V.drew.alloc (.cells #[.slice none 0 0, .slice none 0 0] 27)).cell? ⟨B, 4, none⟩ = some rv := by rw [World.cell?_of_block (Below.heap_alloc V.drew _ B hBl)]; exact y0
  have y3 : (V.alloc (.cells #[.slice none 0 0, .slice none 0 0] 27)).cell? ⟨B, 4, none⟩ = some rv := by rw [World.cell?_of_block (Below.heap_alloc V _ B hBl)]; exact y0
  have nb : V.heap.size ≠ B := by omega
  have HV := hidG hV
  have hmI : (mb.length : Int) ≤ 1048576 := by omega
  -- behind the draw, with the graph's block there or not
  have hrts := pl_of_own hS.rts
  have HC : Hid (∀ x, Below V.heap.size V x → Calls Try.prog 53 #[.pointer (some ⟨B, 0, none⟩), rv] x fun e w' => (∃ v, e = .returned v ∧ isSlG v ∧ w'.ownsRow x.heap.size 3 1 v (kidsTo l (-1) l.length).length (ilV (kidsTo l (-1) l.length))) ∧ Below x.heap.size x w') := fun x hb => by
    have hbx := hBV.trans (hb.mono hBV.size)
    exact hS.nums hml hbx rv (kidsTo l (-1) l.length) (hrts.later hbx) (by have := kidsTo_len l (-1) l.length; omega) (fun k hk => by have := kids_lt hw hk; omega)
  clear hV hBV hVE hVs hS h hmb hml hl hw hrts x1 x0 x2 x3 x4
  go_enter Try.func30, Try.ntmps30
  go_upto_region 1 with fail
  rw [HV.out]
  go_cut [3] (fun gv wx => ∃ (G : Nat) (rv2 : Value), gv = .pointer (some ⟨G, 0, none⟩) ∧ Hid (GrS w G rv2 (kidsTo l (-1) l.length) [] [] wx))
  case first =>
    go_region_with ((first
      | (go_at_call 53
         with_reducible refine (HC.out _ ((Below.refl _ V).drew)).mono ?_
         rintro e w1 ⟨⟨v1, rfl, ⟨ra, rn, rc, rfl⟩, hrow⟩, hb1⟩)
      | (go_at_call 53
         refine (HC.out _ (((Below.refl _ V).drew).trans (al_belowG V.drew _))).mono ?_
         rintro e w1 ⟨⟨v1, rfl, ⟨ra, rn, rc, rfl⟩, hrow⟩, hb1⟩
         have hE := (hb1.block V.heap.size (by show V.heap.size < (V.heap.push _).size; simp)).trans (heap_alloc_new V.drew (.cells #[.slice none 0 0, .slice none 0 0] 27))
         have e0 := n2_0 hE
         have e1 := n2_1 hE
         have e2 := n2_f hE 0
         have e3 := n2_f hE 1)))
    all_goals (
      go_wp2_with fail
      go_meet
      first
        | exact ⟨_, _, rfl, gr_start1 HBV.out HVE.out (((Below.refl _ V).drew).trans hb1) hrow⟩
        | exact ⟨_, _, rfl, gr_start2 (V := V.drew) HBV.out.drew HVE.out hb1 hrow hE⟩)
  case rest =>
    obtain ⟨G, rv2, rfl, HG⟩ := hcut
    have hSc := HS.out.stays HG.out.below
    obtain ⟨_, x1, _⟩ := hSc.cells
    obtain ⟨N, hN⟩ : ∃ N, knotsTo l l.length = N := ⟨_, rfl⟩
    have HN := hidG hN
    have hNl : N.length = mb.length := by rw [← hN]; unfold knotsTo; rw [List.length_map, HM.out.1]; rfl
    have HNL := hidG hNl

    clear y0 y1 y2 y3 nb hSc HC HV hN hNl
    have HG0 : Hid (GrS w G rv2 (kidsTo l (-1) l.length) (N.take 0) [] wc) := HG
    clear HG
    go_wp2_with fail
    clear x1
    go_loopw [21] (fun iv wr => ∃ (k : Nat) (vs : List Value), iv = .int .i64 (k : Int) ∧ k ≤ mb.length ∧ Hid (GrS w G rv2 (kidsTo l (-1) l.length) (N.take k) vs wr)) (fun iv _ => mb.length - (intOf iv).toNat)
    case atStart => exact ⟨0, [], rfl, Nat.zero_le _, HG0⟩
    case round =>
      clear HG0
      obtain ⟨k, vs, rfl, hk, HGR⟩ := hrel
      by_cases hlt : k < mb.length
      · have hltI : (k : Int) < (mb.length : Int) := by omega
        have hSw := HS.out.stays HGR.out.below
        obtain ⟨b, hb⟩ : ∃ b, mb[k]? = some b := ⟨_, List.getElem?_eq_getElem hlt⟩
        obtain ⟨n, kv, c, e1, e2, e3, e4, e5⟩ := hSw.knotAt hb
        obtain ⟨j, hj⟩ : ∃ j, (realsTo l l.length)[k]? = some j := ⟨_, List.getElem?_eq_getElem (by have := HM.out.1; unfold cntR at this; omega)⟩
        have hn : n = ndOf l j [] := by unfold ndsR at e1; rw [List.getElem?_map, hj] at e1; exact (Option.some.inj e1).symm
        have hc : c = kidB l mb (j : Int) l.length := by unfold csR at e3; rw [List.getElem?_map, hj] at e3; exact (Option.some.inj e3).symm
        subst hc
        have hNk : N[k]? = some ({ n with kids := kidsTo l (j : Int) l.length } : Nd) := by
          rw [hn, ndOf_kids, ← HN.out]
          unfold knotsTo
          rw [List.getElem?_map, hj]
          rfl
        have HNK : Hid (N.take (k + 1) = N.take k ++ [({ n with kids := kidsTo l (j : Int) l.length } : Nd)]) := by show _ = _; rw [List.take_add_one, hNk]; rfl
        obtain ⟨b0, o0, hma, hbl, d⟩ := (pl_of_own hSw.tour.row).at hb
        unfold ptr at d
        subst hma
        obtain ⟨kind, tag, text, ks0⟩ := n
        obtain ⟨z0, z1, z2, z3⟩ := lk_3 e4
        simp only at z0 z1 z2
        obtain ⟨ka, kn, kc, rfl⟩ : isSlG kv := by
          rcases e5.2 with ⟨e, _⟩ | ⟨_, _, _, e, _⟩
          · exact ⟨_, _, _, e⟩
          · exact ⟨_, _, _, e⟩
        have hbD : Below w.heap.size w wr.drew := HGR.out.below.drew
        have cN := HS.out.nums HM.out.2.1 hbD (.slice ka kn kc) (kidsTo l (j : Int) l.length) (pl_of_own e5) (by have := kidsTo_len l (j : Int) l.length; have := HM.out.2.2; omega) (fun x hx => by have := kids_lt HW.out hx; have := HM.out.1; omega)
        have HGD : Hid (GrS w G rv2 (kidsTo l (-1) l.length) (N.take k) vs wr.drew) := HGR.out.stays ((Below.refl _ wr).drew)
        have HTK : Hid ((N.take k).length ≤ 1048576) := by show _ ≤ _; rw [List.length_take]; have := HNL.out; have := HM.out.2.1; omega
        have HCN := hidG cN
        have HKB : Hid (wr.drew.heap[b]? = some (.cells (knV ⟨kind, tag, text, ks0⟩ (.slice ka kn kc)) 89 (0, 0))) := e4
        have HPG : Hid (∃ a0 n0 c0, wr.drew.cell? ⟨G, 0, none⟩ = some (.slice a0 n0 c0)) := by
          obtain ⟨a0, n0, c0, h0, _⟩ := HGR.out.box
          exact ⟨a0, n0, c0, n2_0 h0⟩
        have HBW2 : Hid (b < wr.heap.size) := (Array.getElem?_eq_some_iff.1 e4).1
        have HLT := hidG hlt
        clear hSw hb e1 e2 e3 e4 e5 hj hn hNk hbl hbD cN hk hlt HGR
        go_wp2_with fail
        clear d
        have hS0 : wr.drew.cell? ⟨b, 0, none⟩ = some (.int .i64 kind) ∧ wr.drew.cell? ⟨b, 1, none⟩ = some (.string tag) ∧ wr.drew.cell? ⟨b, 2, none⟩ = some (.string text) ∧ wr.drew.cell? ⟨b, 3, none⟩ = some (.slice ka kn kc) := ⟨z0, z1, z2, z3⟩
        refine wp_region_held (S := fun V => V.cell? ⟨b, 0, none⟩ = some (.int .i64 kind) ∧ V.cell? ⟨b, 1, none⟩ = some (.string tag) ∧ V.cell? ⟨b, 2, none⟩ = some (.string text) ∧ V.cell? ⟨b, 3, none⟩ = some (.slice ka kn kc)) (by kernel_rfl) ?_
        change wpAnyH _ _ _ _ _ _ _ _ (World.drew _)
        refine wpAnyH_take (i := 0) (oi := { dst := some 25, op := Op.fieldAddr 27 (Operand.tmp 3) 0, type := 0, pos := _, after := #[], guard := none }) (v := ?_) rfl (by kernel_rfl) (by kernel_rfl) (by kernel_rfl) (fun _ _ _ h => h) (Or.inl ⟨by rfl, ?_⟩) hS0 ?_
        rotate_left
        · rintro V ⟨k0, k1, k2, k3⟩
          go_simp
          try with_reducible rfl
        try simp only [Act.put, List.setIfInBounds_toArray, List.set_cons_zero, List.set_cons_succ]
        refine wpAnyH_take (i := 2) (oi := { dst := some 27, op := Op.move (Operand.tmp 5), type := 84, pos := _, after := #[], guard := none }) (v := ?_) rfl (by kernel_rfl) (by kernel_rfl) (by kernel_rfl) (fun _ _ _ h => h) (Or.inl ⟨by rfl, ?_⟩) hS0 ?_
        rotate_left
        · rintro V ⟨k0, k1, k2, k3⟩
          go_simp
          try with_reducible rfl
        try simp only [Act.put, List.setIfInBounds_toArray, List.set_cons_zero, List.set_cons_succ]
        refine wpAnyH_take (i := 3) (oi := { dst := some 28, op := Op.nilCheck (Operand.tmp 27), type := 0, pos := _, after := #[{ on := 2, ground := Ground.data }], guard := none }) (v := ?_) rfl (by kernel_rfl) (by kernel_rfl) (by kernel_rfl) (fun _ _ _ h => h) (Or.inl ⟨by rfl, ?_⟩) hS0 ?_
        rotate_left
        · rintro V ⟨k0, k1, k2, k3⟩
          go_simp
          try with_reducible rfl
        try simp only [Act.put, List.setIfInBounds_toArray, List.set_cons_zero, List.set_cons_succ]
        refine wpAnyH_take (i := 4) (oi := { dst := some 29, op := Op.fieldAddr 89 (Operand.tmp 28) 0, type := 0, pos := _, after := #[{ on := 3, ground := Ground.data }], guard := none }) (v := ?_) rfl (by kernel_rfl) (by kernel_rfl) (by kernel_rfl) (fun _ _ _ h => h) (Or.inl ⟨by rfl, ?_⟩) hS0 ?_
        rotate_left
        · rintro V ⟨k0, k1, k2, k3⟩
          go_simp
          try with_reducible rfl
        try simp only [Act.put, List.setIfInBounds_toArray, List.set_cons_zero, List.set_cons_succ]
        refine wpAnyH_take (i := 5) (oi := { dst := some 30, op := Op.load 3 (Operand.tmp 29), type := 3, pos := _, after := #[{ on := 4, ground := Ground.data }], guard := none }) (v := ?_) rfl (by kernel_rfl) (by kernel_rfl) (by kernel_rfl) (fun _ _ _ h => h) (Or.inl ⟨by rfl, ?_⟩) hS0 ?_
        rotate_left
        · rintro V ⟨k0, k1, k2, k3⟩
          go_simp
          try with_reducible rfl
        try simp only [Act.put, List.setIfInBounds_toArray, List.set_cons_zero, List.set_cons_succ]
        refine wpAnyH_take (i := 6) (oi := { dst := some 31, op := Op.move (Operand.tmp 5), type := 84, pos := _, after := #[], guard := none }) (v := ?_) rfl (by kernel_rfl) (by kernel_rfl) (by kernel_rfl) (fun _ _ _ h => h) (Or.inl ⟨by rfl, ?_⟩) hS0 ?_
        rotate_left
        · rintro V ⟨k0, k1, k2, k3⟩
          go_simp
          try with_reducible rfl
        try simp only [Act.put, List.setIfInBounds_toArray, List.set_cons_zero, List.set_cons_succ]
        refine wpAnyH_take (i := 7) (oi := { dst := some 32, op := Op.nilCheck (Operand.tmp 31), type := 0, pos := _, after := #[{ on := 6, ground := Ground.data }], guard := none }) (v := ?_) rfl (by kernel_rfl) (by kernel_rfl) (by kernel_rfl) (fun _ _ _ h => h) (Or.inl ⟨by rfl, ?_⟩) hS0 ?_
        rotate_left
        · rintro V ⟨k0, k1, k2, k3⟩
          go_simp
          try with_reducible rfl
        try simp only [Act.put, List.setIfInBounds_toArray, List.set_cons_zero, List.set_cons_succ]
        refine wpAnyH_take (i := 8) (oi := { dst := some 33, op := Op.fieldAddr 89 (Operand.tmp 32) 1, type := 0, pos := _, after := #[{ on := 7, ground := Ground.data }], guard := none }) (v := ?_) rfl (by kernel_rfl) (by kernel_rfl) (by kernel_rfl) (fun _ _ _ h => h) (Or.inl ⟨by rfl, ?_⟩) hS0 ?_
        rotate_left
        · rintro V ⟨k0, k1, k2, k3⟩
          go_simp
          try with_reducible rfl
        try simp only [Act.put, List.setIfInBounds_toArray, List.set_cons_zero, List.set_cons_succ]
        refine wpAnyH_take (i := 9) (oi := { dst := some 34, op := Op.load 9 (Operand.tmp 33), type := 9, pos := _, after := #[{ on := 8, ground := Ground.data }], guard := none }) (v := ?_) rfl (by kernel_rfl) (by kernel_rfl) (by kernel_rfl) (fun _ _ _ h => h) (Or.inl ⟨by rfl, ?_⟩) hS0 ?_
        rotate_left
        · rintro V ⟨k0, k1, k2, k3⟩
          go_simp
          try with_reducible rfl
        try simp only [Act.put, List.setIfInBounds_toArray, List.set_cons_zero, List.set_cons_succ]
        refine wpAnyH_take (i := 10) (oi := { dst := some 35, op := Op.move (Operand.tmp 5), type := 84, pos := _, after := #[], guard := none }) (v := ?_) rfl (by kernel_rfl) (by kernel_rfl) (by kernel_rfl) (fun _ _ _ h => h) (Or.inl ⟨by rfl, ?_⟩) hS0 ?_
        rotate_left
        · rintro V ⟨k0, k1, k2, k3⟩
          go_simp
          try with_reducible rfl
        try simp only [Act.put, List.setIfInBounds_toArray, List.set_cons_zero, List.set_cons_succ]
        refine wpAnyH_take (i := 11) (oi := { dst := some 36, op := Op.nilCheck (Operand.tmp 35), type := 0, pos := _, after := #[{ on := 10, ground := Ground.data }], guard := none }) (v := ?_) rfl (by kernel_rfl) (by kernel_rfl) (by kernel_rfl) (fun _ _ _ h => h) (Or.inl ⟨by rfl, ?_⟩) hS0 ?_
        rotate_left
        · rintro V ⟨k0, k1, k2, k3⟩
          go_simp
          try with_reducible rfl
        try simp only [Act.put, List.setIfInBounds_toArray, List.set_cons_zero, List.set_cons_succ]
        refine wpAnyH_take (i := 12) (oi := { dst := some 37, op := Op.fieldAddr 89 (Operand.tmp 36) 2, type := 0, pos := _, after := #[{ on := 11, ground := Ground.data }], guard := none }) (v := ?_) rfl (by kernel_rfl) (by kernel_rfl) (by kernel_rfl) (fun _ _ _ h => h) (Or.inl ⟨by rfl, ?_⟩) hS0 ?_
        rotate_left
        · rintro V ⟨k0, k1, k2, k3⟩
          go_simp
          try with_reducible rfl
        try simp only [Act.put, List.setIfInBounds_toArray, List.set_cons_zero, List.set_cons_succ]
        refine wpAnyH_take (i := 13) (oi := { dst := some 38, op := Op.load 9 (Operand.tmp 37), type := 9, pos := _, after := #[{ on := 12, ground := Ground.data }], guard := none }) (v := ?_) rfl (by kernel_rfl) (by kernel_rfl) (by kernel_rfl) (fun _ _ _ h => h) (Or.inl ⟨by rfl, ?_⟩) hS0 ?_
        rotate_left
        · rintro V ⟨k0, k1, k2, k3⟩
          go_simp
          try with_reducible rfl
        try simp only [Act.put, List.setIfInBounds_toArray, List.set_cons_zero, List.set_cons_succ]
        refine wpAnyH_take (i := 14) (oi := { dst := some 39, op := Op.move (Operand.tmp 0), type := 56, pos := _, after := #[], guard := none }) (v := ?_) rfl (by kernel_rfl) (by kernel_rfl) (by kernel_rfl) (fun _ _ _ h => h) (Or.inl ⟨by rfl, ?_⟩) hS0 ?_
        rotate_left
        · rintro V ⟨k0, k1, k2, k3⟩
          go_simp
          try with_reducible rfl
        try simp only [Act.put, List.setIfInBounds_toArray, List.set_cons_zero, List.set_cons_succ]
        refine wpAnyH_take (i := 15) (oi := { dst := some 40, op := Op.nilCheck (Operand.tmp 39), type := 0, pos := _, after := #[{ on := 14, ground := Ground.data }], guard := none }) (v := ?_) rfl (by kernel_rfl) (by kernel_rfl) (by kernel_rfl) (fun _ _ _ h => h) (Or.inl ⟨by rfl, ?_⟩) hS0 ?_
        rotate_left
        · rintro V ⟨k0, k1, k2, k3⟩
          go_simp
          try with_reducible rfl
        try simp only [Act.put, List.setIfInBounds_toArray, List.set_cons_zero, List.set_cons_succ]
        refine wpAnyH_take (i := 16) (oi := { dst := some 41, op := Op.fieldAddr 79 (Operand.tmp 40) 0, type := 0, pos := _, after := #[{ on := 15, ground := Ground.data }], guard := none }) (v := ?_) rfl (by kernel_rfl) (by kernel_rfl) (by kernel_rfl) (fun _ _ _ h => h) (Or.inl ⟨by rfl, ?_⟩) hS0 ?_
        rotate_left
        · rintro V ⟨k0, k1, k2, k3⟩
          go_simp
          try with_reducible rfl
        try simp only [Act.put, List.setIfInBounds_toArray, List.set_cons_zero, List.set_cons_succ]
        refine wpAnyH_take (i := 17) (oi := { dst := some 42, op := Op.move (Operand.tmp 5), type := 84, pos := _, after := #[], guard := none }) (v := ?_) rfl (by kernel_rfl) (by kernel_rfl) (by kernel_rfl) (fun _ _ _ h => h) (Or.inl ⟨by rfl, ?_⟩) hS0 ?_
        rotate_left
        · rintro V ⟨k0, k1, k2, k3⟩
          go_simp
          try with_reducible rfl
        try simp only [Act.put, List.setIfInBounds_toArray, List.set_cons_zero, List.set_cons_succ]
        refine wpAnyH_take (i := 18) (oi := { dst := some 43, op := Op.nilCheck (Operand.tmp 42), type := 0, pos := _, after := #[{ on := 17, ground := Ground.data }], guard := none }) (v := ?_) rfl (by kernel_rfl) (by kernel_rfl) (by kernel_rfl) (fun _ _ _ h => h) (Or.inl ⟨by rfl, ?_⟩) hS0 ?_
        rotate_left
        · rintro V ⟨k0, k1, k2, k3⟩
          go_simp
          try with_reducible rfl
        try simp only [Act.put, List.setIfInBounds_toArray, List.set_cons_zero, List.set_cons_succ]
        refine wpAnyH_take (i := 19) (oi := { dst := some 44, op := Op.fieldAddr 89 (Operand.tmp 43) 3, type := 0, pos := _, after := #[{ on := 18, ground := Ground.data }], guard := none }) (v := ?_) rfl (by kernel_rfl) (by kernel_rfl) (by kernel_rfl) (fun _ _ _ h => h) (Or.inl ⟨by rfl, ?_⟩) hS0 ?_
        rotate_left
        · rintro V ⟨k0, k1, k2, k3⟩
          go_simp
          try with_reducible rfl
        try simp only [Act.put, List.setIfInBounds_toArray, List.set_cons_zero, List.set_cons_succ]
        refine wpAnyH_take (i := 20) (oi := { dst := some 45, op := Op.load 75 (Operand.tmp 44), type := 75, pos := _, after := #[{ on := 19, ground := Ground.data }], guard := none }) (v := ?_) rfl (by kernel_rfl) (by kernel_rfl) (by kernel_rfl) (fun _ _ _ h => h) (Or.inl ⟨by rfl, ?_⟩) hS0 ?_
        rotate_left
        · rintro V ⟨k0, k1, k2, k3⟩
          go_simp
          try with_reducible rfl
        try simp only [Act.put, List.setIfInBounds_toArray, List.set_cons_zero, List.set_cons_succ]
        refine wpAnyH_ready (rs := [1, 21]) (by kernel_rfl) (by simp) ?_
        refine AllReadyH.cons (o := { dst := some 26, op := Op.load 24 (Operand.tmp 25), type := 24, pos := _, after := #[{ on := 0, ground := Ground.data }], guard := none }) rfl (fun K hK => ?_) (AllReadyH.cons (o := { dst := some 46, op := Op.call { callee := Callee.value (Operand.func 53), args := #[Operand.tmp 41, Operand.tmp 45], argTypes := #[77, 75] }, type := 25, pos := _, after := #[{ on := 16, ground := Ground.data }, { on := 20, ground := Ground.data }], guard := none }) rfl (fun K hK => ?_) AllReadyH.nil)
        · obtain ⟨a0, n0, c0, p0⟩ := HPG.out
          go_simp
          refine hK.out _ _ hS0 (fun _ => ?_)
          clear hK K
          try simp only [Act.put, List.setIfInBounds_toArray, List.set_cons_zero, List.set_cons_succ]
          refine wpAnyH_ready (rs := [21]) (by kernel_rfl) (by simp) ?_
          refine AllReadyH.cons (o := { dst := some 46, op := Op.call { callee := Callee.value (Operand.func 53), args := #[Operand.tmp 41, Operand.tmp 45], argTypes := #[77, 75] }, type := 25, pos := _, after := #[{ on := 16, ground := Ground.data }, { on := 20, ground := Ground.data }], guard := none }) rfl (fun K hK => ?_) AllReadyH.nil
          go_simp
          refine HCN.out.mono ?_
          rintro e w1 ⟨⟨v1, rfl, ⟨ra, rn, rc, rfl⟩, hrow⟩, hb1⟩
          obtain ⟨a1, n1, c1, a5, m5, c5, w5, q0, p1, hrun5, p5, f5, hG5, hGl, hs5, hfr⟩ := HGD.out.push (n := ⟨kind, tag, text, kidsTo l (j : Int) l.length⟩) hb1 hrow HTK.out
          obtain ⟨rfl, rfl, rfl⟩ : a0 = a1 ∧ n0 = n1 ∧ c0 = c1 := by rw [p0] at q0; injection q0 with q0; injection q0 with q1 q2 q3; exact ⟨q1, q2, q3⟩
          have hk1 := (hb1.block b HBW2.out).trans HKB.out
          have S1 := lk_3 hk1
          have S2 := lk_3 (((al_belowG w1 (.cells #[.int .i64 kind, .string tag, .string text, .slice ra rn rc] 70)).block b (Array.getElem?_eq_some_iff.1 hk1).1).trans hk1)
          have S3 := lk_3 (hfr b _ hk1).1
          have S4 := lk_3 (hfr b _ hk1).2
          have p2 : (w1.alloc (.cells #[.int .i64 kind, .string tag, .string text, .slice ra rn rc] 70)).cell? ⟨G, 0, none⟩ = some (.slice a0 n0 c0) := ((al_belowG w1 _).cell hGl).trans p1
          have HG5 := hidG hG5
          clear hG5 hfr hb1 hrow
          refine hK.out _ _ S1 (fun _ => ?_)
          clear hK K
          try simp only [Act.put, List.setIfInBounds_toArray, List.set_cons_zero, List.set_cons_succ]
          refine wpAnyH_take (i := 22) (oi := { dst := some 47, op := Op.build 70 #[(0, Operand.tmp 30), (1, Operand.tmp 34), (2, Operand.tmp 38), (3, Operand.tmp 46)], type := 70, pos := _, after := #[{ on := 5, ground := Ground.data }, { on := 9, ground := Ground.data }, { on := 13, ground := Ground.data }, { on := 21, ground := Ground.data }], guard := none }) (v := ?_) rfl (by kernel_rfl) (by kernel_rfl) (by kernel_rfl) (fun _ _ _ h => h) (Or.inl ⟨by rfl, ?_⟩) S1 ?_
          rotate_left
          · rintro V ⟨k0, k1, k2, k3⟩
            go_simp
            try with_reducible rfl
          try simp only [Act.put, List.setIfInBounds_toArray, List.set_cons_zero, List.set_cons_succ]
          refine wpAnyH_ready (rs := [23]) (by kernel_rfl) (by simp) ?_
          refine AllReadyH.cons (o := { dst := some 48, op := Op.buildSlice 24 1 #[(0, Operand.tmp 47)], type := 24, pos := _, after := #[{ on := 22, ground := Ground.data }], guard := none }) rfl (fun K hK => ?_) AllReadyH.nil
          go_simp
          refine hK.out _ _ S2 (fun _ => ?_)
          clear hK K
          try simp only [Act.put, List.setIfInBounds_toArray, List.set_cons_zero, List.set_cons_succ]
          refine wpAnyH_ready (rs := [24]) (by kernel_rfl) (by simp) ?_
          refine AllReadyH.cons (o := { dst := some 49, op := Op.call { callee := Callee.builtin Builtin.append, args := #[Operand.tmp 26, Operand.tmp 48], argTypes := #[24, 24] }, type := 24, pos := _, after := #[{ on := 1, ground := Ground.data }, { on := 23, ground := Ground.data }, { on := 21, ground := Ground.chain }], guard := none }) rfl (fun K hK => ?_) AllReadyH.nil
          refine step_append_runP (by rfl) (Operand.tmp 26) (Operand.tmp 48) 24 (by rfl) (.slice a0 n0 c0) (.slice (some ⟨w1.heap.size, 0, none⟩) 1 1) (by go_simp) (by go_simp) (.slice a5 m5 c5) w5 (by exact hrun5) ?_
          refine hK.out _ _ S3 (fun _ => ?_)
          clear hK K
          try simp only [Act.put, List.setIfInBounds_toArray, List.set_cons_zero, List.set_cons_succ]
          refine wpAnyH_take (i := 25) (oi := { dst := some 50, op := Op.fieldAddr 27 (Operand.tmp 3) 0, type := 0, pos := _, after := #[{ on := 0, ground := Ground.phase }, { on := 1, ground := Ground.phase }, { on := 2, ground := Ground.phase }, { on := 3, ground := Ground.phase }, { on := 4, ground := Ground.phase }, { on := 5, ground := Ground.phase }, { on := 6, ground := Ground.phase }, { on := 7, ground := Ground.phase }, { on := 8, ground := Ground.phase }, { on := 9, ground := Ground.phase }, { on := 10, ground := Ground.phase }, { on := 11, ground := Ground.phase }, { on := 12, ground := Ground.phase }, { on := 13, ground := Ground.phase }, { on := 14, ground := Ground.phase }, { on := 15, ground := Ground.phase }, { on := 16, ground := Ground.phase }, { on := 17, ground := Ground.phase }, { on := 18, ground := Ground.phase }, { on := 19, ground := Ground.phase }, { on := 20, ground := Ground.phase }, { on := 21, ground := Ground.phase }, { on := 22, ground := Ground.phase }, { on := 23, ground := Ground.phase }, { on := 24, ground := Ground.phase }], guard := none }) (v := ?_) rfl (by kernel_rfl) (by kernel_rfl) (by kernel_rfl) (fun _ _ _ h => h) (Or.inl ⟨by rfl, ?_⟩) S3 ?_
          rotate_left
          · rintro V ⟨k0, k1, k2, k3⟩
            go_simp
            try with_reducible rfl
          try simp only [Act.put, List.setIfInBounds_toArray, List.set_cons_zero, List.set_cons_succ]
          refine wpAnyH_ready (rs := [26]) (by kernel_rfl) (by simp) ?_
          refine AllReadyH.cons (o := { dst := none, op := Op.store 24 (Operand.tmp 50) (Operand.tmp 49), type := 0, pos := _, after := #[{ on := 25, ground := Ground.data }, { on := 24, ground := Ground.data }, { on := 24, ground := Ground.chain }, { on := 0, ground := Ground.phase }, { on := 1, ground := Ground.phase }, { on := 2, ground := Ground.phase }, { on := 3, ground := Ground.phase }, { on := 4, ground := Ground.phase }, { on := 5, ground := Ground.phase }, { on := 6, ground := Ground.phase }, { on := 7, ground := Ground.phase }, { on := 8, ground := Ground.phase }, { on := 9, ground := Ground.phase }, { on := 10, ground := Ground.phase }, { on := 11, ground := Ground.phase }, { on := 12, ground := Ground.phase }, { on := 13, ground := Ground.phase }, { on := 14, ground := Ground.phase }, { on := 15, ground := Ground.phase }, { on := 16, ground := Ground.phase }, { on := 17, ground := Ground.phase }, { on := 18, ground := Ground.phase }, { on := 19, ground := Ground.phase }, { on := 20, ground := Ground.phase }, { on := 21, ground := Ground.phase }, { on := 22, ground := Ground.phase }, { on := 23, ground := Ground.phase }, { on := 24, ground := Ground.phase }], guard := none }) rfl (fun K hK => ?_) AllReadyH.nil
          go_simp
          refine hK.out _ _ S4 (fun _ => ?_)
          clear hK K
          try simp only [Act.put, List.setIfInBounds_toArray, List.set_cons_zero, List.set_cons_succ]
          refine wpAnyH_done (by kernel_rfl) ?_ _
          go_wp2_with fail
          go_roundw
          case rel => exact ⟨k + 1, _, by go_num, HLT.out, by rw [HNK.out]; exact HG5⟩
          case measure => have := HLT.out; simp [intOf]; omega
        · go_simp
          refine HCN.out.mono ?_
          rintro e w1 ⟨⟨v1, rfl, ⟨ra, rn, rc, rfl⟩, hrow⟩, hb1⟩
          obtain ⟨a0, n0, c0, a5, m5, c5, w5, p0, p1, hrun5, p5, f5, hG5, hGl, hs5, hfr⟩ := HGD.out.push (n := ⟨kind, tag, text, kidsTo l (j : Int) l.length⟩) hb1 hrow HTK.out
          have hk1 := (hb1.block b HBW2.out).trans HKB.out
          have S1 := lk_3 hk1
          have S2 := lk_3 (((al_belowG w1 (.cells #[.int .i64 kind, .string tag, .string text, .slice ra rn rc] 70)).block b (Array.getElem?_eq_some_iff.1 hk1).1).trans hk1)
          have S3 := lk_3 (hfr b _ hk1).1
          have S4 := lk_3 (hfr b _ hk1).2
          have p2 : (w1.alloc (.cells #[.int .i64 kind, .string tag, .string text, .slice ra rn rc] 70)).cell? ⟨G, 0, none⟩ = some (.slice a0 n0 c0) := ((al_belowG w1 _).cell hGl).trans p1
          have HG5 := hidG hG5
          clear hG5 hfr hb1 hrow
          refine hK.out _ _ S1 (fun _ => ?_)
          clear hK K
          try simp only [Act.put, List.setIfInBounds_toArray, List.set_cons_zero, List.set_cons_succ]
          refine wpAnyH_take (i := 22) (oi := { dst := some 47, op := Op.build 70 #[(0, Operand.tmp 30), (1, Operand.tmp 34), (2, Operand.tmp 38), (3, Operand.tmp 46)], type := 70, pos := _, after := #[{ on := 5, ground := Ground.data }, { on := 9, ground := Ground.data }, { on := 13, ground := Ground.data }, { on := 21, ground := Ground.data }], guard := none }) (v := ?_) rfl (by kernel_rfl) (by kernel_rfl) (by kernel_rfl) (fun _ _ _ h => h) (Or.inl ⟨by rfl, ?_⟩) S1 ?_
          rotate_left
          · rintro V ⟨k0, k1, k2, k3⟩
            go_simp
            try with_reducible rfl
          try simp only [Act.put, List.setIfInBounds_toArray, List.set_cons_zero, List.set_cons_succ]
          refine wpAnyH_ready (rs := [1, 23]) (by kernel_rfl) (by simp) ?_
          refine AllReadyH.cons (o := { dst := some 26, op := Op.load 24 (Operand.tmp 25), type := 24, pos := _, after := #[{ on := 0, ground := Ground.data }], guard := none }) rfl (fun K hK => ?_) (AllReadyH.cons (o := { dst := some 48, op := Op.buildSlice 24 1 #[(0, Operand.tmp 47)], type := 24, pos := _, after := #[{ on := 22, ground := Ground.data }], guard := none }) rfl (fun K hK => ?_) AllReadyH.nil)
          · go_simp
            refine hK.out _ _ S1 (fun _ => ?_)
            clear hK K
            try simp only [Act.put, List.setIfInBounds_toArray, List.set_cons_zero, List.set_cons_succ]
            refine wpAnyH_ready (rs := [23]) (by kernel_rfl) (by simp) ?_
            refine AllReadyH.cons (o := { dst := some 48, op := Op.buildSlice 24 1 #[(0, Operand.tmp 47)], type := 24, pos := _, after := #[{ on := 22, ground := Ground.data }], guard := none }) rfl (fun K hK => ?_) AllReadyH.nil
            go_simp
            refine hK.out _ _ S2 (fun _ => ?_)
            clear hK K
            try simp only [Act.put, List.setIfInBounds_toArray, List.set_cons_zero, List.set_cons_succ]
            refine wpAnyH_ready (rs := [24]) (by kernel_rfl) (by simp) ?_
            refine AllReadyH.cons (o := { dst := some 49, op := Op.call { callee := Callee.builtin Builtin.append, args := #[Operand.tmp 26, Operand.tmp 48], argTypes := #[24, 24] }, type := 24, pos := _, after := #[{ on := 1, ground := Ground.data }, { on := 23, ground := Ground.data }, { on := 21, ground := Ground.chain }], guard := none }) rfl (fun K hK => ?_) AllReadyH.nil
            refine step_append_runP (by rfl) (Operand.tmp 26) (Operand.tmp 48) 24 (by rfl) (.slice a0 n0 c0) (.slice (some ⟨w1.heap.size, 0, none⟩) 1 1) (by go_simp) (by go_simp) (.slice a5 m5 c5) w5 (by exact hrun5) ?_
            refine hK.out _ _ S3 (fun _ => ?_)
            clear hK K
            try simp only [Act.put, List.setIfInBounds_toArray, List.set_cons_zero, List.set_cons_succ]
            refine wpAnyH_take (i := 25) (oi := { dst := some 50, op := Op.fieldAddr 27 (Operand.tmp 3) 0, type := 0, pos := _, after := #[{ on := 0, ground := Ground.phase }, { on := 1, ground := Ground.phase }, { on := 2, ground := Ground.phase }, { on := 3, ground := Ground.phase }, { on := 4, ground := Ground.phase }, { on := 5, ground := Ground.phase }, { on := 6, ground := Ground.phase }, { on := 7, ground := Ground.phase }, { on := 8, ground := Ground.phase }, { on := 9, ground := Ground.phase }, { on := 10, ground := Ground.phase }, { on := 11, ground := Ground.phase }, { on := 12, ground := Ground.phase }, { on := 13, ground := Ground.phase }, { on := 14, ground := Ground.phase }, { on := 15, ground := Ground.phase }, { on := 16, ground := Ground.phase }, { on := 17, ground := Ground.phase }, { on := 18, ground := Ground.phase }, { on := 19, ground := Ground.phase }, { on := 20, ground := Ground.phase }, { on := 21, ground := Ground.phase }, { on := 22, ground := Ground.phase }, { on := 23, ground := Ground.phase }, { on := 24, ground := Ground.phase }], guard := none }) (v := ?_) rfl (by kernel_rfl) (by kernel_rfl) (by kernel_rfl) (fun _ _ _ h => h) (Or.inl ⟨by rfl, ?_⟩) S3 ?_
            rotate_left
            · rintro V ⟨k0, k1, k2, k3⟩
              go_simp
              try with_reducible rfl
            try simp only [Act.put, List.setIfInBounds_toArray, List.set_cons_zero, List.set_cons_succ]
            refine wpAnyH_ready (rs := [26]) (by kernel_rfl) (by simp) ?_
            refine AllReadyH.cons (o := { dst := none, op := Op.store 24 (Operand.tmp 50) (Operand.tmp 49), type := 0, pos := _, after := #[{ on := 25, ground := Ground.data }, { on := 24, ground := Ground.data }, { on := 24, ground := Ground.chain }, { on := 0, ground := Ground.phase }, { on := 1, ground := Ground.phase }, { on := 2, ground := Ground.phase }, { on := 3, ground := Ground.phase }, { on := 4, ground := Ground.phase }, { on := 5, ground := Ground.phase }, { on := 6, ground := Ground.phase }, { on := 7, ground := Ground.phase }, { on := 8, ground := Ground.phase }, { on := 9, ground := Ground.phase }, { on := 10, ground := Ground.phase }, { on := 11, ground := Ground.phase }, { on := 12, ground := Ground.phase }, { on := 13, ground := Ground.phase }, { on := 14, ground := Ground.phase }, { on := 15, ground := Ground.phase }, { on := 16, ground := Ground.phase }, { on := 17, ground := Ground.phase }, { on := 18, ground := Ground.phase }, { on := 19, ground := Ground.phase }, { on := 20, ground := Ground.phase }, { on := 21, ground := Ground.phase }, { on := 22, ground := Ground.phase }, { on := 23, ground := Ground.phase }, { on := 24, ground := Ground.phase }], guard := none }) rfl (fun K hK => ?_) AllReadyH.nil
            go_simp
            refine hK.out _ _ S4 (fun _ => ?_)
            clear hK K
            try simp only [Act.put, List.setIfInBounds_toArray, List.set_cons_zero, List.set_cons_succ]
            refine wpAnyH_done (by kernel_rfl) ?_ _
            go_wp2_with fail
            go_roundw
            case rel => exact ⟨k + 1, _, by go_num, HLT.out, by rw [HNK.out]; exact HG5⟩
            case measure => have := HLT.out; simp [intOf]; omega
          · go_simp
            refine hK.out _ _ S2 (fun _ => ?_)
            clear hK K
            try simp only [Act.put, List.setIfInBounds_toArray, List.set_cons_zero, List.set_cons_succ]
            refine wpAnyH_ready (rs := [1]) (by kernel_rfl) (by simp) ?_
            refine AllReadyH.cons (o := { dst := some 26, op := Op.load 24 (Operand.tmp 25), type := 24, pos := _, after := #[{ on := 0, ground := Ground.data }], guard := none }) rfl (fun K hK => ?_) AllReadyH.nil
            go_simp
            refine hK.out _ _ S2 (fun _ => ?_)
            clear hK K
            try simp only [Act.put, List.setIfInBounds_toArray, List.set_cons_zero, List.set_cons_succ]
            refine wpAnyH_ready (rs := [24]) (by kernel_rfl) (by simp) ?_
            refine AllReadyH.cons (o := { dst := some 49, op := Op.call { callee := Callee.builtin Builtin.append, args := #[Operand.tmp 26, Operand.tmp 48], argTypes := #[24, 24] }, type := 24, pos := _, after := #[{ on := 1, ground := Ground.data }, { on := 23, ground := Ground.data }, { on := 21, ground := Ground.chain }], guard := none }) rfl (fun K hK => ?_) AllReadyH.nil
            refine step_append_runP (by rfl) (Operand.tmp 26) (Operand.tmp 48) 24 (by rfl) (.slice a0 n0 c0) (.slice (some ⟨w1.heap.size, 0, none⟩) 1 1) (by go_simp) (by go_simp) (.slice a5 m5 c5) w5 (by exact hrun5) ?_
            refine hK.out _ _ S3 (fun _ => ?_)
            clear hK K
            try simp only [Act.put, List.setIfInBounds_toArray, List.set_cons_zero, List.set_cons_succ]
            refine wpAnyH_take (i := 25) (oi := { dst := some 50, op := Op.fieldAddr 27 (Operand.tmp 3) 0, type := 0, pos := _, after := #[{ on := 0, ground := Ground.phase }, { on := 1, ground := Ground.phase }, { on := 2, ground := Ground.phase }, { on := 3, ground := Ground.phase }, { on := 4, ground := Ground.phase }, { on := 5, ground := Ground.phase }, { on := 6, ground := Ground.phase }, { on := 7, ground := Ground.phase }, { on := 8, ground := Ground.phase }, { on := 9, ground := Ground.phase }, { on := 10, ground := Ground.phase }, { on := 11, ground := Ground.phase }, { on := 12, ground := Ground.phase }, { on := 13, ground := Ground.phase }, { on := 14, ground := Ground.phase }, { on := 15, ground := Ground.phase }, { on := 16, ground := Ground.phase }, { on := 17, ground := Ground.phase }, { on := 18, ground := Ground.phase }, { on := 19, ground := Ground.phase }, { on := 20, ground := Ground.phase }, { on := 21, ground := Ground.phase }, { on := 22, ground := Ground.phase }, { on := 23, ground := Ground.phase }, { on := 24, ground := Ground.phase }], guard := none }) (v := ?_) rfl (by kernel_rfl) (by kernel_rfl) (by kernel_rfl) (fun _ _ _ h => h) (Or.inl ⟨by rfl, ?_⟩) S3 ?_
            rotate_left
            · rintro V ⟨k0, k1, k2, k3⟩
              go_simp
              try with_reducible rfl
            try simp only [Act.put, List.setIfInBounds_toArray, List.set_cons_zero, List.set_cons_succ]
            refine wpAnyH_ready (rs := [26]) (by kernel_rfl) (by simp) ?_
            refine AllReadyH.cons (o := { dst := none, op := Op.store 24 (Operand.tmp 50) (Operand.tmp 49), type := 0, pos := _, after := #[{ on := 25, ground := Ground.data }, { on := 24, ground := Ground.data }, { on := 24, ground := Ground.chain }, { on := 0, ground := Ground.phase }, { on := 1, ground := Ground.phase }, { on := 2, ground := Ground.phase }, { on := 3, ground := Ground.phase }, { on := 4, ground := Ground.phase }, { on := 5, ground := Ground.phase }, { on := 6, ground := Ground.phase }, { on := 7, ground := Ground.phase }, { on := 8, ground := Ground.phase }, { on := 9, ground := Ground.phase }, { on := 10, ground := Ground.phase }, { on := 11, ground := Ground.phase }, { on := 12, ground := Ground.phase }, { on := 13, ground := Ground.phase }, { on := 14, ground := Ground.phase }, { on := 15, ground := Ground.phase }, { on := 16, ground := Ground.phase }, { on := 17, ground := Ground.phase }, { on := 18, ground := Ground.phase }, { on := 19, ground := Ground.phase }, { on := 20, ground := Ground.phase }, { on := 21, ground := Ground.phase }, { on := 22, ground := Ground.phase }, { on := 23, ground := Ground.phase }, { on := 24, ground := Ground.phase }], guard := none }) rfl (fun K hK => ?_) AllReadyH.nil
            go_simp
            refine hK.out _ _ S4 (fun _ => ?_)
            clear hK K
            try simp only [Act.put, List.setIfInBounds_toArray, List.set_cons_zero, List.set_cons_succ]
            refine wpAnyH_done (by kernel_rfl) ?_ _
            go_wp2_with fail
            go_roundw
            case rel => exact ⟨k + 1, _, by go_num, HLT.out, by rw [HNK.out]; exact HG5⟩
            case measure => have := HLT.out; simp [intOf]; omega
      · have hge : ¬ (k : Int) < (mb.length : Int) := by omega
        have hN : N.take k = N := List.take_of_length_le (by have := HNL.out; omega)
        rw [hN] at HGR
        obtain ⟨a, n, c, hE, hrow⟩ := HGR.out.box
        obtain ⟨ra, rn, rc, rfl⟩ := HGR.out.sl
        have hr := HGR.out.res
        have q0 := n2_0 hE
        have q1 := n2_1 hE
        have r0 := n2_0 hr
        have r1 := n2_1 hr
        have r2 := n2_f hr 0
        have r3 := n2_f hr 1
        have hO : GOwn w.heap.size wr (.slice a n c) (.slice ra rn rc) ⟨N, kidsTo l (-1) l.length⟩ vs := ⟨hrow, HGR.out.kids, HGR.out.roots, HGR.out.apart⟩
        have HO := hidG hO
        have HR := hidG hr
        clear hN hE hrow hr hO hk hlt
        go_wp2_with fail
        have hF := n2_set1 (n2_set0 HR.out (.slice a n c)) (.slice ra rn rc)
        have hX : ∀ x, x ≠ w.heap.size → ((wr.setCell ⟨w.heap.size, 0, none⟩ (.slice a n c)).setCell ⟨w.heap.size, 1, none⟩ (.slice ra rn rc)).heap[x]? = wr.heap[x]? := fun x h => (heap_setCell_other _ _ _ _ h).trans (heap_setCell_other _ _ _ _ h)
        have hi : ∀ {v : Value} {m : Nat} {xs : List Value}, wr.ownsRow w.heap.size 3 1 v m xs → ((wr.setCell ⟨w.heap.size, 0, none⟩ (.slice a n c)).setCell ⟨w.heap.size, 1, none⟩ (.slice ra rn rc)).ownsRow w.heap.size 3 1 v m xs := fun h => g_row_block h (fun x hx => hX x (own_neC h hx HR.out (by decide)))
        try simp only [Exit.inBlock, Exit.then]
        refine bodyPost_ret (results_cell_row rfl _ _ w.heap.size 27 _ (0, 0) _ rfl hF Try.underlying27 rfl (by kernel_rfl)) rfl ?_
        rw [HN.out]
        refine ⟨⟨_, _, rfl, ⟨_, _, _, rfl⟩, ⟨_, _, _, rfl⟩, vs, ⟨g_row_block HO.out.nodes (fun x hx => hX x (own_neC HO.out.nodes hx HR.out (by decide))), HO.out.kids.block (fun i v x hv hx => ?_), hi HO.out.roots, HO.out.apart⟩⟩, (HGR.out.below.setCell (Nat.le_refl _) _).setCell (Nat.le_refl _) _⟩
        obtain ⟨p, hp⟩ := HO.out.kids.get hv
        exact hX x (own_neC (HO.out.kids.own i v p hv hp) hx HR.out (by decide))
end Go.Proofs.Ytkdlakcmhdiojaa

/- The contract of impl.PlainAt. -/
import Derived.Test.YthlainjkpeioeajIpg
import Derived.Test.YthlainjkpeioeajRbr
import Derived.Test.YthlainjkpeioeajIpf
import Derived.Test.YthlainjkpeioeajLpl
namespace Go.Proofs.Ythlainjkpeioeaj
open Go.ChangeShapes Go.WideShapes Go.ChangeAt Go.RowKit Go.Shelf Go.Deep
attribute [local go_sem] Oper.semAt_some
theorem append_runIn {F : Fence} {n : Nat} {P : Program} {w : World} {ops : Array Oper} {rest : List Oper} {o : Oper} {a : Act} {Q : Exit → Act → World → Prop}
    (hg : o.guard = none) (s x : Operand) (t tx : TypeId) (hop : o.op = Op.call { callee := Callee.builtin Builtin.append, args := #[s, x], argTypes := #[t, tx] })
    (v u : Value) (hs : a.eval s = v) (hx : a.eval x = u) (r : Value) (w' : World) (hrun : (Builtin.append_ #[t, tx] o.type #[v, u]).run P w = .ok r w')
    (hK : wpListIn F n P ops Q rest (a.put o.dst r) w') : wpListIn F n P ops Q (o :: rest) a w := by
  refine wpListIn_plain hg fun K hK' => ?_
  unfold Oper.wpIn
  refine ⟨?_, ?_⟩
  · simp [Oper.about, hop, resolve, Target.leads, Sem.run_pure]
  · rw [Oper.semAt_plain F _ _ (by rw [hop]; intro c hc'; cases hc')]
    simp [execOp, hop, resolve, invoke, builtin, hs, hx, hrun, Result.andThen]
    exact hK' _ _ hK
theorem step_append_runR {P : Program} {ops : Array Oper} {o : Oper} {a : Act} {w : World} {K : Act → World → Prop} {Q : Exit → Act → World → Prop} {E : Prop}
    (hg : o.guard = none) (s x : Operand) (t : TypeId) (hop : o.op = Op.call { callee := Callee.builtin Builtin.append, args := #[s, x], argTypes := #[t, t] })
    (v u : Value) (hs : a.eval s = v) (hx : a.eval x = u) (r : Value) (w' : World) (hrun : (Builtin.append_ #[t, t] o.type #[v, u]).run P w = .ok r w')
    (hK : K (a.put o.dst r) w') :
    if Region.wanted o (yielded ops a.tmps) = true then Oper.wp P o a w K Q else E := by
  have hw : Region.wanted o (yielded ops a.tmps) = true := by simp [Region.wanted, hg]
  rw [if_pos hw]
  unfold Oper.wp execOp
  simp only [hop, resolve, invoke, builtin, Sem.run_bind, Sem.run_pure, Result.andThen_ok, List.map_toArray, List.map_cons, List.map_nil, hs, hx, hrun]
  exact hK
set_option maxRecDepth 100000 in
set_option maxHeartbeats 4000000 in
theorem stretches_any (s : ByteArray) (p n : Int) (fl : Bool) (w : World) :
    Calls Try.prog 44 #[.string s, .int .i64 p, .int .i64 n, .bool fl] w fun e w' => e = .returned (.func (.func 58) #[] #[.pointer (some ⟨w.heap.size + 1, 0, none⟩), .pointer (some ⟨w.heap.size, 0, none⟩), .pointer (some ⟨w.heap.size + 3, 0, none⟩), .pointer (some ⟨w.heap.size + 2, 0, none⟩)]) ∧
      w' = (((w.alloc (.cells #[.string s] 9)).alloc (.cells #[.int .i64 p] 3)).alloc (.cells #[.int .i64 n] 3)).alloc (.cells #[.bool fl] 4) := by
  go_enter Try.func44, Try.ntmps44
  go_wp2_with fail
  go_ret
  refine ⟨?_, rfl⟩
  simp
/-- The world where the loop begins. -/
abbrev loopW (w2 : World) (s : ByteArray) (k : Nat) (n : Int) (fl : Bool) : World :=
  ((((((w2.alloc (.cells #[.slice none 0 0] 56)).alloc (.cells #[.int .i64 0] 3)).alloc (.cells #[.string s] 9)).alloc (.cells #[.int .i64 (k : Int)] 3)).alloc (.cells #[.int .i64 n] 3)).alloc (.cells #[.bool fl] 4)).drew
theorem push6 (h : Array Obj) (a b c d e f : Obj) : ((((((h.push a).push b).push c).push d).push e).push f)[h.size]? = some a ∧ ((((((h.push a).push b).push c).push d).push e).push f)[h.size + 1]? = some b ∧ ((((((h.push a).push b).push c).push d).push e).push f)[h.size + 2]? = some c ∧
    ((((((h.push a).push b).push c).push d).push e).push f)[h.size + 3]? = some d ∧ ((((((h.push a).push b).push c).push d).push e).push f)[h.size + 4]? = some e ∧ ((((((h.push a).push b).push c).push d).push e).push f)[h.size + 5]? = some f := by
  refine ⟨?_, ?_, ?_, ?_, ?_, ?_⟩ <;> simp only [Array.getElem?_push, Array.size_push] <;> (repeat (first | rw [if_neg (by omega)] | rw [if_pos (by omega)] | rw [if_pos trivial]))
theorem InvP.size {w w3 : World} {s : ByteArray} {Bp : Nat} {ps : List Pc} {e : Nat} {W : World} (h : InvP w w3 s Bp ps e W) (hw3 : w3.heap.size = Bp + 6) : w3.heap.size ≤ W.heap.size := by
  have a1 := h.bx (Bp + 5) (by omega) (by omega)
  rcases Nat.lt_or_ge (Bp + 5) W.heap.size with h' | h'
  · omega
  · rw [Array.getElem?_eq_none h', Array.getElem?_eq_getElem (by omega)] at a1
    cases a1
structure AtLoop (w w2 w3 : World) (s : ByteArray) (k : Nat) (n : Int) (fl : Bool) : Prop where
  size : w3.heap.size = w2.heap.size + 6
  lt : w.heap.size < w2.heap.size
  inv : InvP w w3 s w2.heap.size [] 0 w3
  c0 : w3.cell? ⟨w2.heap.size + 2, 0, none⟩ = some (.string s)
  c1 : w3.cell? ⟨w2.heap.size + 3, 0, none⟩ = some (.int .i64 (k : Int))
  c2 : w3.cell? ⟨w2.heap.size + 4, 0, none⟩ = some (.int .i64 n)
  c3 : w3.cell? ⟨w2.heap.size + 5, 0, none⟩ = some (.bool fl)
  typ : ∀ j, w2.heap.size + 2 ≤ j → j < w2.heap.size + 6 → ∃ o, w3.heap[j]? = some o ∧ ∀ c fz, o ≠ Obj.cells c 55 fz
theorem loop_at {w w2 : World} {s : ByteArray} {k : Nat} {n : Int} {fl : Bool} (hb : Below (w.alloc (.cells #[.string s] 9)).heap.size (w.alloc (.cells #[.string s] 9)) w2) : AtLoop w w2 (loopW w2 s k n fl) s k n fl := by
  have h0 : (loopW w2 s k n fl).heap[w2.heap.size]? = some (.cells #[.slice none 0 0] 56 (0, 0)) := (push6 w2.heap _ _ _ _ _ _).1
  have h1 : (loopW w2 s k n fl).heap[w2.heap.size + 1]? = some (.cells #[.int .i64 0] 3 (0, 0)) := (push6 w2.heap _ _ _ _ _ _).2.1
  have h2 : (loopW w2 s k n fl).heap[w2.heap.size + 2]? = some (.cells #[.string s] 9 (0, 0)) := (push6 w2.heap _ _ _ _ _ _).2.2.1
  have h3 : (loopW w2 s k n fl).heap[w2.heap.size + 3]? = some (.cells #[.int .i64 (k : Int)] 3 (0, 0)) := (push6 w2.heap _ _ _ _ _ _).2.2.2.1
  have h4 : (loopW w2 s k n fl).heap[w2.heap.size + 4]? = some (.cells #[.int .i64 n] 3 (0, 0)) := (push6 w2.heap _ _ _ _ _ _).2.2.2.2.1
  have h5 : (loopW w2 s k n fl).heap[w2.heap.size + 5]? = some (.cells #[.bool fl] 4 (0, 0)) := (push6 w2.heap _ _ _ _ _ _).2.2.2.2.2
  have hlt : w.heap.size < w2.heap.size := by have := hb.size; simp at this; omega
  have hbel : Below w2.heap.size w2 (loopW w2 s k n fl) := (((((((Below.refl _ w2).alloc (Nat.le_refl _) _).alloc (by simp) _).alloc (by simp; omega) _).alloc (by simp; omega) _).alloc (by simp; omega) _).alloc (by simp; omega) _).drew
  have hb0 : w2.heap[w.heap.size]? = some (.cells #[.string s] 9 (0, 0)) := (hb.block _ (by simp)).trans (heap_alloc_new w _)
  refine ⟨by show ((((((w2.heap.push _).push _).push _).push _).push _).push _).size = _; simp, hlt, ⟨⟨_, h0, World.ownsRow_nil _ _ _ _, ⟨_, _, _, rfl⟩⟩, h1, (hbel.block _ hlt).trans hb0, fun _ _ _ => rfl, ?_⟩, ?_, ?_, ?_, ?_, ?_⟩
  · exact (((Below.refl _ w).alloc (Nat.le_refl _) _).trans (hb.mono (by simp))).trans (hbel.mono (by omega))
  · exact Boxed.cell (t := 9) h2
  · exact Boxed.cell (t := 3) h3
  · exact Boxed.cell (t := 3) h4
  · exact Boxed.cell (t := 4) h5
  · intro j j1 j2
    rcases (show j = w2.heap.size + 2 ∨ j = w2.heap.size + 3 ∨ j = w2.heap.size + 4 ∨ j = w2.heap.size + 5 by omega) with rfl | rfl | rfl | rfl
    · exact ⟨_, h2, fun _ _ => cells_ne (by decide)⟩
    · exact ⟨_, h3, fun _ _ => cells_ne (by decide)⟩
    · exact ⟨_, h4, fun _ _ => cells_ne (by decide)⟩
    · exact ⟨_, h5, fun _ _ => cells_ne (by decide)⟩
def PfC (s : ByteArray) (p : Int) (fl : Bool) (b : Bool) : Prop := ∀ w, Calls Try.prog 16 #[.string s, .int .i64 p, .bool fl] w fun e w' => e = .returned (.bool b) ∧ Below w.heap.size w w'
def FfC : Prop := ∀ w v ps, SlC w v ps → totC ps + ps.length ≤ 4194304 → Calls Try.prog 45 #[v] w fun e w' => e = .returned (.string (foldFlow ps)) ∧ Below w.heap.size w w'
/-- The frame of a round. -/
abbrev frm (s : ByteArray) (p n : Int) (fl : Bool) (k Bs Bp Bx : Nat) (x : Stx) : Act := { tmps := #[Value.string s, .int .i64 p, .int .i64 n, .bool fl, .pointer (some ⟨Bs, 0, none⟩), undef, undef, undef, .string ⟨#[]⟩, .int .i64 0, .bool false, .pointer (some ⟨Bp, 0, none⟩), .pointer (some ⟨Bp + 1, 0, none⟩), .pointer (some ⟨Bx, 0, none⟩), .string s, .int .i64 p, .bool fl, .bool true, .bool false, .string s, .string s, .int .i64 p, .int .i64 (k : Int), .int .i64 n, .bool fl, .func (.func 58) #[] #[.pointer (some ⟨Bp + 1 + 1 + 1, 0, none⟩), .pointer (some ⟨Bp + 1 + 1, 0, none⟩), .pointer (some ⟨Bp + 1 + 1 + 3, 0, none⟩), .pointer (some ⟨Bp + 1 + 1 + 2, 0, none⟩)], .agg #[.int .i64 (x.1 : Int), .int .i64 (x.2.1 : Int), .int .i64 (x.2.2 : Int)], undef, undef, undef, undef, undef, undef, undef, undef, undef, undef, undef, undef, undef, undef, undef, undef, undef, undef, undef], defers := [] }
set_option maxRecDepth 100000 in
set_option maxHeartbeats 8000000 in
theorem cal (s : ByteArray) (p n : Int) (k : Nat) (fl : Bool) (w : World) (hk : k ≤ s.size) (hs : s.size ≤ 1048576)
    (hBr : ∀ w, Calls Try.prog 31 #[.string s, .int .i64 p] w fun e w' => e = .returned (.int .i64 (k : Int)) ∧ w' = w)
    (hPf : PfC s p fl true) (hPe : PeC s k fl) (hFu : FuC s n fl) (hFf : FfC)
    (T : ByteArray) (E : Nat) (hT : foldFlow (pcs s (allS s k n fl)) = T) (hE : lastE 0 (allS s k n fl) = E) :
    Calls Try.prog 20 #[.string s, .int .i64 p, .int .i64 n, .bool fl] w fun e w' => e = .returned (.tuple #[.string T, .int .i64 (E : Int), .bool true]) ∧ Below w.heap.size w w' := by
  refine (callsIn_wide (n := 8)).1 ?_
  refine callsIn_of_wp_marks Try.func20 rfl trivial ?_ rfl
  simp only [Try.ntmps20, List.size_toArray, List.length_cons, List.length_nil, Nat.reduceAdd, Nat.reduceSub, Array.replicate_succ, Array.replicate_zero, List.push_toArray, List.append_toArray, List.nil_append, List.cons_append]
  have HBR : Hid (∀ w, Calls Try.prog 31 #[.string s, .int .i64 p] w fun e w' => e = .returned (.int .i64 (k : Int)) ∧ w' = w) := hBr
  have HPF : Hid (PfC s p fl true) := hPf
  have HPE : Hid (PeC s k fl) := hPe
  have HFU : Hid (FuC s n fl) := hFu
  have HFF : Hid FfC := hFf
  have HT : Hid (foldFlow (pcs s (allS s k n fl)) = T) := hT
  have HE : Hid (lastE 0 (allS s k n fl) = E) := hE
  have HK : Hid (k ≤ s.size) := hk
  have HS : Hid (s.size ≤ 1048576) := hs
  clear hBr hPf hPe hFu hFf hT hE hk hs
  refine wpIn_wide.2 ?_
  go_wp2_with fail
  refine (HPF.out _).mono ?_
  rintro e w2 ⟨rfl, hb2⟩
  have cb : w2.cell? ⟨w.heap.size, 0, none⟩ = some (.string s) := cell_stays hb2 (by simp)
  have cb2 : ((w2.alloc (.cells #[.slice none 0 0] 56)).alloc (.cells #[.int .i64 0] 3)).cell? ⟨w.heap.size, 0, none⟩ = some (.string s) := cell_stays (alB _ _) (cell_stays (alB _ _) cb)
  have HAT : Hid (AtLoop w w2 (loopW w2 s k n fl) s k n fl) := loop_at hb2
  clear hb2
  go_wp2_with fail
  go_region_held3 (fun V => V.cell? ⟨w.heap.size, 0, none⟩ = some (.string s))
    (first | exact cb2 | (refine cell_stays (alB _ _) (cell_stays (alB _ _) (cell_stays (alB _ _) (cell_stays (alB _ _) ?_))); exact cb2) | go_keep)
    (first | (go_at_call 31; refine (HBR.out _).mono ?_; rintro e w3 ⟨rfl, rfl⟩) | (go_at_call 44; refine (stretches_any _ _ _ _ _).mono ?_; rintro e w3 ⟨rfl, hw3⟩; subst hw3))
  clear cb cb2 HBR HPF
  obtain ⟨w3, hw3⟩ : ∃ w3, loopW w2 s k n fl = w3 := ⟨_, rfl⟩
  rw [show ((((((w2.alloc (Obj.cells #[Value.slice none 0 0] 56)).alloc (Obj.cells #[Value.int IntKind.i64 0] 3)).alloc (Obj.cells #[Value.string s] 9)).alloc (Obj.cells #[Value.int IntKind.i64 (k : Int)] 3)).alloc (Obj.cells #[Value.int IntKind.i64 n] 3)).alloc (Obj.cells #[Value.bool fl] 4)).drew = w3 from hw3]
  rw [hw3] at HAT
  clear hw3
  have hat := HAT.out
  obtain ⟨Bp, hBp⟩ : ∃ Bp, w2.heap.size = Bp := ⟨_, rfl⟩
  obtain ⟨hsz, hltB, hinv, c0, c1, c2, c3, htyp⟩ := hat
  rw [hBp] at hsz hltB hinv c0 c1 c2 c3 htyp ⊢
  clear hBp HAT
  obtain ⟨all, hall⟩ : ∃ all, all = allS s k n fl := ⟨_, rfl⟩
  have hseq : SeqOwn Fence.wide (8 - 1) Try.prog 58 #[.pointer (some ⟨Bp + 2 + 1, 0, none⟩), .pointer (some ⟨Bp + 2, 0, none⟩), .pointer (some ⟨Bp + 2 + 3, 0, none⟩), .pointer (some ⟨Bp + 2 + 2, 0, none⟩)] encS (KpB (Bp + 2)) (Turns 62 w3.heap.size) (fun pre x => ∃ rest, all = pre ++ x :: rest) (fun xs => xs = all) (fun _ => True) w3 :=
    it_own s k n fl HK.out HPE.out HFU.out w3 (Bp + 2) (8 - 1) c0 c1 c2 c3 all hall
  have HALL : Hid (all = allS s k n fl) := hall
  have HINV : Hid (InvP w w3 s Bp [] 0 w3) := hinv
  have HTYP : Hid (∀ j, Bp + 2 ≤ j → j < Bp + 6 → ∃ o, w3.heap[j]? = some o ∧ ∀ c fz, o ≠ Obj.cells c 55 fz) := htyp
  clear c0 c1 c2 c3 HPE HFU hall hinv htyp
  go_wp2_with fail
  refine (wpIn_wide (n := 8)).1 ?_
  refine rangeFunc_by rfl (by omega) (gf := 58) (lb := #[.pointer (some ⟨Bp + 2 + 1, 0, none⟩), .pointer (some ⟨Bp + 2, 0, none⟩), .pointer (some ⟨Bp + 2 + 3, 0, none⟩), .pointer (some ⟨Bp + 2 + 2, 0, none⟩)]) ?hg trivial (enters_of Try.func58 (by kernel_rfl) rfl) hseq ?hRk KpB.trans ?hKb (Below.refl _ _) (fun _ => rfl)
    (fun pre W => InvP w w3 s Bp (pcs s pre) (lastE 0 pre) W) (fun _ _ _ => False) (InvP.own hltB hsz _ _) (fun _ _ _ _ _ hs _ _ => hs) (fun _ _ _ h r => h.turns hltB hsz r) (fun _ _ _ _ h _ => h) HINV.out
    (fun x a' W => ∃ Bx, w3.heap.size ≤ Bx ∧ W.heap[Bx]? = some (.cells #[.int .i64 (x.1 : Int), .int .i64 (x.2.1 : Int), .int .i64 (x.2.2 : Int)] 62 (0, 0)) ∧ a' = frm s p n fl k w.heap.size Bp Bx x)
    ?hAx ?hassign ?hbody ?hdone ?hstop
  case hg => rfl
  case hRk => exact fun A A' h k o hk ho => h.same k o hk (.inr fun c fz e => by rw [e] at ho; cases ho)
  case hKb => exact fun W l o o' hl h ho _ => KpB.put (by omega) h ho
  case hAx =>
    intro a' x W W' row hx hg hr
    obtain ⟨Bx, h1, h2, h3⟩ := hx
    refine ⟨Bx, h1, (hg.block Bx (Array.getElem?_eq_some_iff.1 h2).1 (fun e => ?_)).trans h2, h3⟩
    obtain ⟨_, o, ho, hoc⟩ := hr Bx e.symm
    rw [h2] at ho
    injection ho with ho
    rw [← ho] at hoc
    cases hoc
  case hassign =>
    rintro l pre ⟨xf, xe, xm⟩ W K hi hG hK
    gi_wp2
    have hW := hi.size hsz
    refine hK _ _ (KeepsOthers.alloc _ _) ⟨fun j _ h2 => Below.heap_alloc W _ j (by omega), fun j c fz hj => (Below.heap_alloc W _ j (Array.getElem?_eq_some_iff.1 hj).1).trans hj⟩ ((InvP.own hltB hsz (fun pre => pcs s pre) (fun pre => lastE 0 pre)).alloc _ hi) ⟨W.heap.size, hW, heap_alloc_new W _, rfl⟩
  case hstop => exact fun D c pre W _ _ h _ => h.elim
  case hbody =>
    rintro l pre ⟨xf, xe, xm⟩ W hi hG a' ⟨Bx, hBx, hx, rfl⟩
    obtain ⟨rest, hrest⟩ := hG
    obtain ⟨b1, b2, b3, b4⟩ : (pcs s pre).length ≤ s.size + 1 ∧ xm ≤ s.size ∧ xf ≤ xe ∧ xe ≤ s.size := allS_split HK.out (HALL.out ▸ hrest)
    have hszs := HS.out
    obtain ⟨v, hv, hrow, a0, n0, c0, rfl⟩ := hi.pcs
    obtain ⟨v7, w7, hrun7, ⟨a7, n7, c7, rfl⟩, hv7a, hv7, hrow7, hq7, hbl7⟩ := grow_zeros hv hrow (by omega) xm (by omega) (by omega) 56
    have x2 : W.cell? ⟨Bx, 2, none⟩ = some (.int .i64 (xm : Int)) := k3_2 hx
    have y4 := hv.cell
    have z4 := hv7a.cell
    have z5 := hv7a.frozen
    have HI : Hid (InvP w w3 s Bp (pcs s pre) (lastE 0 pre) W) := hi
    obtain ⟨W7, hW7⟩ : ∃ W7, w7.setCell ⟨Bp, 0, none⟩ (.slice a7 n7 c7) = W7 := ⟨_, rfl⟩
    rw [hW7] at hv7 hrow7 hq7 hbl7
    have HV7 : Hid (Boxed W7 Bp 56 (.slice a7 n7 c7)) := hv7
    have HR7 : Hid (W7.ownsRow w.heap.size 55 2 (.slice a7 n7 c7) (pcs s pre ++ List.replicate xm e0).length (cellsC (pcs s pre ++ List.replicate xm e0))) := hrow7
    have HQ7 : Hid (Kq Bp W W7) := hq7
    have HL7 : Hid (Below w.heap.size W W7) := hbl7
    have HX7 : Hid (W7.heap[Bx]? = some (.cells #[.int .i64 (xf : Int), .int .i64 (xe : Int), .int .i64 (xm : Int)] 62 (0, 0))) := hq7.same _ _ hx (fun _ _ => cells_ne (by decide)) (by omega)
    have HS7 : Hid (Boxed W7 w.heap.size 9 (.string s)) := hq7.same _ _ hi.sbox (fun _ _ => cells_ne (by decide)) (by omega)
    have HE7 : Hid (Boxed W7 (Bp + 1) 3 (.int .i64 (lastE 0 pre : Int))) := hq7.same _ _ hi.ende (fun _ _ => cells_ne (by decide)) (by omega)
    have B1 : Hid ((pcs s pre).length ≤ s.size + 1) := b1
    have B2 : Hid (xm ≤ s.size) := b2
    have B3 : Hid (xf ≤ xe) := b3
    have B4 : Hid (xe ≤ s.size) := b4
    have HBX : Hid (w3.heap.size ≤ Bx) := hBx
    have HSZ : Hid (w3.heap.size = Bp + 6) := hsz
    have HLT : Hid (w.heap.size < Bp) := hltB
    clear hv7 hrow7 hq7 hbl7 hi hv hrow hx hrest b1 b2 b3 b4 hszs hBx hv7a hsz hltB hseq
    gi_wp2_with (gi_at_builtin; refine append_runIn rfl _ _ 56 3 rfl (.slice a0 n0 c0) (.int .i64 (xm : Int)) rfl rfl (.slice a7 n7 c7) w7 hrun7 ?_)
    try rw [hW7]
    clear hW7 hrun7 z4 z5 y4 x2
    have y0 : W7.cell? ⟨Bx, 0, none⟩ = some (.int .i64 (xf : Int)) := k3_0 HX7.out
    have y1 : W7.cell? ⟨Bx, 1, none⟩ = some (.int .i64 (xe : Int)) := k3_1 HX7.out
    have y3 := HS7.out.cell
    have y4 := HV7.out.cell
    have hxx : (xf : Int) ≤ (xe : Int) := by have := B3.out; omega
    have hxs : (xe : Int) ≤ (s.size : Int) := by have := B4.out; omega
    obtain ⟨v9, w9, hrun9, ⟨u0, u1, u2, rfl⟩, hv9a, hv9, hrow9, hq9, hbl9⟩ := grow_one (W := W7.drew) (lo := w.heap.size) (Bp := Bp) (v := .slice a7 n7 c7) (ps := pcs s pre ++ List.replicate xm e0) HV7.out (row_same HR7.out (fun _ _ _ => rfl)) (by have := HLT.out; omega) (s.extract xf xe) (by rw [List.length_append, List.length_replicate]; have := B1.out; have := B2.out; have := HS.out; omega) 56
    have p9 := hv9a.cell
    have f9 := hv9a.frozen
    have HX9 : Hid ((w9.setCell ⟨Bp, 0, none⟩ (.slice u0 u1 u2)).heap[Bx]? = some (.cells #[.int .i64 (xf : Int), .int .i64 (xe : Int), .int .i64 (xm : Int)] 62 (0, 0))) := hq9.same _ _ HX7.out (fun _ _ => cells_ne (by decide)) (by have := HSZ.out; have := HBX.out; omega)
    have HS9 : Hid (Boxed (w9.setCell ⟨Bp, 0, none⟩ (.slice u0 u1 u2)) w.heap.size 9 (.string s)) := hq9.same _ _ HS7.out (fun _ _ => cells_ne (by decide)) (by have := HLT.out; omega)
    have HE9 : Hid (Boxed (w9.setCell ⟨Bp, 0, none⟩ (.slice u0 u1 u2)) (Bp + 1) 3 (.int .i64 (lastE 0 pre : Int))) := hq9.same _ _ HE7.out (fun _ _ => cells_ne (by decide)) (by omega)
    have S10 : (w9.setCell ⟨Bp, 0, none⟩ (.slice u0 u1 u2)).cell? ⟨w.heap.size, 0, none⟩ = some (.string s) ∧ (w9.setCell ⟨Bp, 0, none⟩ (.slice u0 u1 u2)).cell? ⟨Bx, 0, none⟩ = some (.int .i64 (xf : Int)) ∧ (w9.setCell ⟨Bp, 0, none⟩ (.slice u0 u1 u2)).cell? ⟨Bx, 1, none⟩ = some (.int .i64 (xe : Int)) := ⟨HS9.out.cell, k3_0 HX9.out, k3_1 HX9.out⟩
    have S9 : w9.cell? ⟨w.heap.size, 0, none⟩ = some (.string s) ∧ w9.cell? ⟨Bx, 0, none⟩ = some (.int .i64 (xf : Int)) ∧ w9.cell? ⟨Bx, 1, none⟩ = some (.int .i64 (xe : Int)) := by
      have e : ∀ (j q : Nat), j ≠ Bp → w9.cell? ⟨j, q, none⟩ = (w9.setCell ⟨Bp, 0, none⟩ (.slice u0 u1 u2)).cell? ⟨j, q, none⟩ := fun j q hj => by
        unfold World.cell?
        rw [Below.heap_setCell _ _ _ _ (fun e => hj e)]
      have l1 := HLT.out
      have l2 := HSZ.out
      have l3 := HBX.out
      rw [e _ _ (by omega), e _ _ (by omega), e _ _ (by omega)]
      exact S10
    have HV9 : Hid (Boxed (w9.setCell ⟨Bp, 0, none⟩ (.slice u0 u1 u2)) Bp 56 (.slice u0 u1 u2)) := hv9
    have HR9 : Hid ((w9.setCell ⟨Bp, 0, none⟩ (.slice u0 u1 u2)).ownsRow w.heap.size 55 2 (.slice u0 u1 u2) (pcs s pre ++ List.replicate xm e0 ++ [(s.extract xf xe, false)]).length (cellsC (pcs s pre ++ List.replicate xm e0 ++ [(s.extract xf xe, false)]))) := hrow9
    have HQ9 : Hid (Kq Bp W7.drew (w9.setCell ⟨Bp, 0, none⟩ (.slice u0 u1 u2))) := hq9
    have HL9 : Hid (Below w.heap.size W7.drew (w9.setCell ⟨Bp, 0, none⟩ (.slice u0 u1 u2))) := hbl9
    clear hv9 hrow9 hq9 hbl9 hv9a
    have hS0 : W7.drew.cell? ⟨w.heap.size, 0, none⟩ = some (.string s) ∧ W7.drew.cell? ⟨Bx, 0, none⟩ = some (.int .i64 (xf : Int)) ∧ W7.drew.cell? ⟨Bx, 1, none⟩ = some (.int .i64 (xe : Int)) := ⟨y3, y0, y1⟩
    have e9 := HE9.out.cell
    have g9 := HE9.out.frozen
    have d9 : (w9.setCell ⟨Bp, 0, none⟩ (.slice u0 u1 u2)).cell? ⟨Bx, 1, none⟩ = some (.int .i64 (xe : Int)) := S10.2.2
    have y4' : W7.drew.cell? ⟨Bp, 0, none⟩ = some (.slice a7 n7 c7) := y4
    have HEND : Hid (KeepsOthers W ((w9.setCell ⟨Bp, 0, none⟩ (.slice u0 u1 u2)).setCell ⟨Bp + 1, 0, none⟩ (.int .i64 (xe : Int))) ∧ KpB (Bp + 2) W ((w9.setCell ⟨Bp, 0, none⟩ (.slice u0 u1 u2)).setCell ⟨Bp + 1, 0, none⟩ (.int .i64 (xe : Int))) ∧ InvP w w3 s Bp (pcs s (pre ++ [(xf, xe, xm)])) (lastE 0 (pre ++ [(xf, xe, xm)])) ((w9.setCell ⟨Bp, 0, none⟩ (.slice u0 u1 u2)).setCell ⟨Bp + 1, 0, none⟩ (.int .i64 (xe : Int)))) := by
      rw [pcs_app, lastE_app]
      have e : pcs s pre ++ pcs s [(xf, xe, xm)] = pcs s pre ++ List.replicate xm e0 ++ [(s.extract xf xe, false)] := by
        show pcs s pre ++ (List.replicate xm e0 ++ [(s.extract xf xe, false)] ++ []) = _
        rw [List.append_nil, List.append_assoc]
      rw [e]
      exact round_end HI.out HLT.out HTYP.out HQ7.out HL7.out HQ9.out HL9.out HV9.out ⟨_, _, _, rfl⟩ HR9.out
    clear HX9 HS9 HE9 HV9 HR9 HQ9 HL9 HI HQ7 HL7 HX7 HS7 HE7 HR7 HV7
    refine region_round_held (S := fun V => V.cell? ⟨w.heap.size, 0, none⟩ = some (.string s) ∧ V.cell? ⟨Bx, 0, none⟩ = some (.int .i64 (xf : Int)) ∧ V.cell? ⟨Bx, 1, none⟩ = some (.int .i64 (xe : Int))) (by kernel_rfl) ?hL (by kernel_rfl) ?_
    case hL => rintro ⟨_, _, h⟩; exact h
    change wpAnyH _ _ _ _ _ _ _ _ (World.drew _)
    refine wpAnyH_take (i := 1) (v := ?_) rfl (by kernel_rfl) (by kernel_rfl) (by kernel_rfl) (fun _ _ _ h => h) (Or.inl ⟨by rfl, ?_⟩) hS0 ?_
    rotate_left
    · rintro V ⟨k0, k1, k2⟩
      go_simp
      try with_reducible rfl
    refine wpAnyH_take (i := 2) (v := ?_) rfl (by kernel_rfl) (by kernel_rfl) (by kernel_rfl) (fun _ _ _ h => h) (Or.inl ⟨by rfl, ?_⟩) hS0 ?_
    rotate_left
    · rintro V ⟨k0, k1, k2⟩
      go_simp
      try with_reducible rfl
    refine wpAnyH_take (i := 3) (v := ?_) rfl (by kernel_rfl) (by kernel_rfl) (by kernel_rfl) (fun _ _ _ h => h) (Or.inl ⟨by rfl, ?_⟩) hS0 ?_
    rotate_left
    · rintro V ⟨k0, k1, k2⟩
      go_simp
      try with_reducible rfl
    refine wpAnyH_take (i := 4) (v := ?_) rfl (by kernel_rfl) (by kernel_rfl) (by kernel_rfl) (fun _ _ _ h => h) (Or.inl ⟨by rfl, ?_⟩) hS0 ?_
    rotate_left
    · rintro V ⟨k0, k1, k2⟩
      go_simp
      try with_reducible rfl
    refine wpAnyH_take (i := 5) (v := ?_) rfl (by kernel_rfl) (by kernel_rfl) (by kernel_rfl) (fun _ _ _ h => h) (Or.inl ⟨by rfl, ?_⟩) hS0 ?_
    rotate_left
    · rintro V ⟨k0, k1, k2⟩
      go_simp
      try with_reducible rfl
    refine wpAnyH_take (i := 6) (v := ?_) rfl (by kernel_rfl) (by kernel_rfl) (by kernel_rfl) (fun _ _ _ h => h) (Or.inl ⟨by rfl, ?_⟩) hS0 ?_
    rotate_left
    · rintro V ⟨k0, k1, k2⟩
      go_simp
      try with_reducible rfl
    refine wpAnyH_take (i := 7) (v := ?_) rfl (by kernel_rfl) (by kernel_rfl) (by kernel_rfl) (fun _ _ _ h => h) (Or.inl ⟨by rfl, ?_⟩) hS0 ?_
    rotate_left
    · rintro V ⟨k0, k1, k2⟩
      go_simp
      try with_reducible rfl
    refine wpAnyH_ready (rs := [0, 8]) (by kernel_rfl) (by simp) ?_
    refine AllReadyH.cons (o := { dst := some 31, op := Op.load 56 (Operand.tmp 11), type := 56, pos := _, after := #[], guard := none }) rfl (fun K hK => ?_) (AllReadyH.cons (o := { dst := some 39, op := Op.buildSlice 56 1 #[(0, Operand.tmp 38)], type := 56, pos := _, after := #[{ on := 7, ground := Ground.data }], guard := none }) rfl (fun K hK => ?_) AllReadyH.nil)
    · go_simp
      refine hK.out _ _ hS0 (fun _ => ?_)
      clear hK K
      refine wpAnyH_ready (rs := [8]) (by kernel_rfl) (by simp) ?_
      refine AllReadyH.cons (o := { dst := some 39, op := Op.buildSlice 56 1 #[(0, Operand.tmp 38)], type := 56, pos := _, after := #[{ on := 7, ground := Ground.data }], guard := none }) rfl (fun K hK => ?_) AllReadyH.nil
      go_simp
      refine hK.out _ _ ⟨cell_stays (alB _ _) y3, cell_stays (alB _ _) y0, cell_stays (alB _ _) y1⟩ (fun _ => ?_)
      clear hK K
      refine wpAnyH_ready (rs := [9]) (by kernel_rfl) (by simp) ?_
      refine AllReadyH.cons (o := { dst := some 40, op := Op.call { callee := Callee.builtin Builtin.append, args := #[Operand.tmp 31, Operand.tmp 39], argTypes := #[56, 56] }, type := 56, pos := _, after := #[{ on := 0, ground := Ground.data }, { on := 8, ground := Ground.data }], guard := none }) rfl (fun K hK => ?_) AllReadyH.nil
      refine step_append_runR (by rfl) (Operand.tmp 31) (Operand.tmp 39) 56 (by rfl) (.slice a7 n7 c7) (.slice (some ⟨W7.heap.size, 0, none⟩) 1 1) (by go_simp) (by go_simp) (.slice u0 u1 u2) w9 (by exact hrun9) ?_
      refine hK.out _ _ S9 (fun _ => ?_)
      clear hK K
      refine wpAnyH_ready (rs := [10]) (by kernel_rfl) (by simp) ?_
      refine AllReadyH.cons (o := { dst := none, op := Op.store 56 (Operand.tmp 11) (Operand.tmp 40), type := 0, pos := _, after := #[{ on := 9, ground := Ground.data }, { on := 9, ground := Ground.chain }, { on := 0, ground := Ground.phase }, { on := 1, ground := Ground.phase }, { on := 2, ground := Ground.phase }, { on := 3, ground := Ground.phase }, { on := 4, ground := Ground.phase }, { on := 5, ground := Ground.phase }, { on := 6, ground := Ground.phase }, { on := 7, ground := Ground.phase }, { on := 8, ground := Ground.phase }, { on := 9, ground := Ground.phase }], guard := none }) rfl (fun K hK => ?_) AllReadyH.nil
      go_simp
      refine hK.out _ _ S10 (fun _ => ?_)
      clear hK K
      refine wpAnyH_done (by kernel_rfl) ?_ _
      gi_wp2
      exact HEND.out
    · go_simp
      refine hK.out _ _ ⟨cell_stays (alB _ _) y3, cell_stays (alB _ _) y0, cell_stays (alB _ _) y1⟩ (fun _ => ?_)
      clear hK K
      have y5 : (W7.alloc (.cells #[.string (s.extract xf xe), .bool false] 55)).cell? ⟨Bp, 0, none⟩ = some (.slice a7 n7 c7) := cell_stays (alB _ _) y4
      refine wpAnyH_ready (rs := [0]) (by kernel_rfl) (by simp) ?_
      refine AllReadyH.cons (o := { dst := some 31, op := Op.load 56 (Operand.tmp 11), type := 56, pos := _, after := #[], guard := none }) rfl (fun K hK => ?_) AllReadyH.nil
      go_simp
      refine hK.out _ _ ⟨cell_stays (alB _ _) y3, cell_stays (alB _ _) y0, cell_stays (alB _ _) y1⟩ (fun _ => ?_)
      clear hK K
      refine wpAnyH_ready (rs := [9]) (by kernel_rfl) (by simp) ?_
      refine AllReadyH.cons (o := { dst := some 40, op := Op.call { callee := Callee.builtin Builtin.append, args := #[Operand.tmp 31, Operand.tmp 39], argTypes := #[56, 56] }, type := 56, pos := _, after := #[{ on := 0, ground := Ground.data }, { on := 8, ground := Ground.data }], guard := none }) rfl (fun K hK => ?_) AllReadyH.nil
      refine step_append_runR (by rfl) (Operand.tmp 31) (Operand.tmp 39) 56 (by rfl) (.slice a7 n7 c7) (.slice (some ⟨W7.heap.size, 0, none⟩) 1 1) (by go_simp) (by go_simp) (.slice u0 u1 u2) w9 (by exact hrun9) ?_
      refine hK.out _ _ S9 (fun _ => ?_)
      clear hK K
      refine wpAnyH_ready (rs := [10]) (by kernel_rfl) (by simp) ?_
      refine AllReadyH.cons (o := { dst := none, op := Op.store 56 (Operand.tmp 11) (Operand.tmp 40), type := 0, pos := _, after := #[{ on := 9, ground := Ground.data }, { on := 9, ground := Ground.chain }, { on := 0, ground := Ground.phase }, { on := 1, ground := Ground.phase }, { on := 2, ground := Ground.phase }, { on := 3, ground := Ground.phase }, { on := 4, ground := Ground.phase }, { on := 5, ground := Ground.phase }, { on := 6, ground := Ground.phase }, { on := 7, ground := Ground.phase }, { on := 8, ground := Ground.phase }, { on := 9, ground := Ground.phase }], guard := none }) rfl (fun K hK => ?_) AllReadyH.nil
      go_simp
      refine hK.out _ _ S10 (fun _ => ?_)
      clear hK K
      refine wpAnyH_done (by kernel_rfl) ?_ _
      gi_wp2
      exact HEND.out
  case hdone =>
    intro D xs W hD hxs hi hK
    subst hxs
    rw [HALL.out] at hi
    obtain ⟨v, hv, hrow, a0, n0, c0, rfl⟩ := hi.pcs
    have hsl := slc_row hrow
    have htot := allS_tot (n := n) (fl := fl) HK.out
    have cF : Hid (∀ V, Below W.heap.size W V → Calls Try.prog 45 #[.slice a0 n0 c0] V fun e w' => e = .returned (.string T) ∧ Below V.heap.size V w') := fun V hV => by
      have := HFF.out V _ _ (hsl.stays hV) (by have := HS.out; omega)
      rw [HT.out] at this
      exact this
    have y1 := hv.cell
    have y2 : W.cell? ⟨Bp + 1, 0, none⟩ = some (.int .i64 (E : Int)) := by rw [hi.ende.cell, HE.out]
    have HD : Hid (w3.heap.size ≤ D) := hD
    have HBL : Hid (Below w.heap.size w W) := hi.below
    have HSZ : Hid (w3.heap.size = Bp + 6) := hsz
    have HLT : Hid (w.heap.size < Bp) := hltB
    have HKD : Hid (W.heap[D]? = some (.deferred (some []))) := hK
    clear hD hK hi hv hrow hsl htot hseq hsz hltB
    go_wp2_with fail
    go_region_held3 (fun V => V.cell? ⟨Bp, 0, none⟩ = some (.slice a0 n0 c0) ∧ V.cell? ⟨Bp + 1, 0, none⟩ = some (.int .i64 (E : Int)))
      (first | exact ⟨y1, y2⟩ | exact ⟨cell_stays hb4 y1, cell_stays hb4 y2⟩ | go_keep)
      ((go_at_call 45; refine (cF.out _ ((Below.refl _ W).drew)).mono ?_; rintro e w4 ⟨rfl, hb4⟩))
    all_goals
      have hd4 : w4.heap[D]? = some (.deferred (some [])) := (hb4.block D (Array.getElem?_eq_some_iff.1 HKD.out).1).trans HKD.out
      have HB4 : Hid (Below w.heap.size w w4) := HBL.out.drew.trans (hb4.mono HBL.out.size)
      clear hb4 y1 y2
      go_wp2_with fail
      have hsz := HSZ.out
      have hlt := HLT.out
      have hD := HD.out
      refine ⟨by simp, .inl ⟨_, _, rfl, run_takeDeferred hd4, ?_⟩⟩
      exact ⟨_, results_tmp3 rfl _ _ _, rfl, HB4.out.trans (belowK_b (w := w) (Nat.le_refl _) w4 D _ _ (by omega) hd4 rfl rfl)⟩
end Go.Proofs.Ythlainjkpeioeaj

/- The contract of impl.stretches: the iterator hands the stretches on, one after the other. -/
import Derived.Test.YthlainjkpeioeajIsb
import Derived.Test.YthlainjkpeioeajPch
import Derived.Test.YthlainjkpeioeajRfb
import Derived.WalkLawsBesides
import Derived.WalkSpells
import Derived.WalkMore
import Derived.Deep.RegionHeld3
import Derived.Deep.Light
import Derived.Lib.Builder
namespace Go.Proofs.Ythlainjkpeioeaj
open Go.ChangeShapes Go.WideShapes Go.ChangeAt Go.RowKit Go.Shelf
attribute [local go_sem] Oper.semAt_some
abbrev encS (x : Stx) : Array Value := #[.agg #[.int .i64 (x.1 : Int), .int .i64 (x.2.1 : Int), .int .i64 (x.2.2 : Int)]]
/-- What a round keeps: the iterator's boxes, and what is of the type of its variable. -/
structure KpB (b : Nat) (A A' : World) : Prop where
  box : ∀ k, b ≤ k → k < b + 4 → A'.heap[k]? = A.heap[k]?
  own : ∀ (k : Nat) (c : Array Value) (fz : Nat × Nat), A.heap[k]? = some (Obj.cells c 62 fz) → A'.heap[k]? = some (Obj.cells c 62 fz)
def PeC (s : ByteArray) (k : Nat) (fl : Bool) : Prop := ∀ w, Calls Try.prog 18 #[.string s, .int .i64 (k : Int), .bool fl] w fun e w' => e = .returned (.int .i64 (plE s k fl : Nat)) ∧ Below w.heap.size w w'
def FuC (s : ByteArray) (n : Int) (fl : Bool) : Prop := ∀ e w, e ≤ s.size → ∀ x b, furV s n fl e = (x, b) → Calls Try.prog 59 #[.string s, .int .i64 (e : Int), .int .i64 n, .bool fl] w fun r w' => r = .returned (.tuple #[.agg #[.int .i64 (x.1 : Int), .int .i64 (x.2.1 : Int), .int .i64 (x.2.2 : Int)], .bool b]) ∧ Below w.heap.size w w'
theorem cell_stays {V V' : World} (hb : Below V.heap.size V V') {p : Addr} {v : Value} (h : V.cell? p = some v) : V'.cell? p = some v := (hb.cell (World.block_lt_of_cell? _ _ h)).trans h
theorem cell_same {V V' : World} {p : Addr} {v : Value} (hb : V'.heap[p.block]? = V.heap[p.block]?) (h : V.cell? p = some v) : V'.cell? p = some v := by
  rw [← h]; unfold World.cell?; rw [hb]
def itMu (S Bq : Nat) (okv : Value) (wr : World) : Nat := match okv with | .bool true => S + 2 - ((wr.cell? ⟨Bq, 1, none⟩).map (fun v => (intOf v).toNat)).getD 0 | _ => 0
theorem itMu_true {S Bq e : Nat} {wr : World} (h : wr.cell? ⟨Bq, 1, none⟩ = some (.int .i64 (e : Int))) : itMu S Bq (.bool true) wr = S + 2 - e := by
  simp [itMu, h, intOf]
theorem alB (V : World) (o : Obj) : Below V.heap.size V (V.alloc o) := (Below.refl _ V).alloc (Nat.le_refl _) _
theorem newH {V w1 : World} {a b c : Value} (hb : Below (V.alloc (.cells #[a, b, c] 62)).drew.heap.size (V.alloc (.cells #[a, b, c] 62)).drew w1) : w1.heap[V.heap.size]? = some (.cells #[a, b, c] 62 (0, 0)) :=
  (hb.block _ (by show V.heap.size < (V.alloc _).heap.size; simp)).trans (heap_alloc_new V _)
theorem newS {V w1 : World} {a b c : Value} (hb : Below (V.alloc (.cells #[a, b, c] 62)).drew.heap.size (V.alloc (.cells #[a, b, c] 62)).drew w1) :
    w1.cell? ⟨V.heap.size, 0, none⟩ = some a ∧ w1.cell? ⟨V.heap.size, 1, none⟩ = some b ∧ w1.cell? ⟨V.heap.size, 2, none⟩ = some c ∧ w1.frozen? ⟨V.heap.size, 0, none⟩ = false ∧ w1.frozen? ⟨V.heap.size, 1, none⟩ = false ∧ w1.frozen? ⟨V.heap.size, 2, none⟩ = false := by
  have h := newH hb
  simp [World.cell?, World.frozen?, h]
theorem Turns.set3 {T : TypeId} {B b : Nat} {A : World} {x0 x1 x2 : Value} (hb : A.heap[b]? = some (.cells #[x0, x1, x2] T (0, 0))) (hB : B ≤ b) (a0 a1 a2 : Value) :
    Turns T B A (((A.setCell ⟨b, 0, none⟩ a0).setCell ⟨b, 1, none⟩ a1).setCell ⟨b, 2, none⟩ a2) := by
  have h1 : (A.setCell ⟨b, 0, none⟩ a0).heap[b]? = some (.cells #[a0, x1, x2] T (0, 0)) := by simp [World.setCell, Array.getElem?_modify, hb]
  have h2 : ((A.setCell ⟨b, 0, none⟩ a0).setCell ⟨b, 1, none⟩ a1).heap[b]? = some (.cells #[a0, a1, x2] T (0, 0)) := by simp [World.setCell, Array.getElem?_modify, hb]
  exact ((Turns.set hb hB _ rfl a0).trans (Turns.set h1 hB _ rfl a1)).trans (Turns.set h2 hB _ rfl a2)
/-- The boxes are as they were. -/
def BoxAs (b : Nat) (A A' : World) : Prop := ∀ k, b ≤ k → k < b + 4 → A'.heap[k]? = A.heap[k]?
theorem BoxAs.below {b : Nat} {A A' A'' : World} (h : BoxAs b A A') (hlt : b + 3 < A'.heap.size) (hb : Below A'.heap.size A' A'') : BoxAs b A A'' := fun k h1 h2 => (hb.block k (by omega)).trans (h k h1 h2)
theorem BoxAs.set3 {b q : Nat} {A A' : World} (h : BoxAs b A A') (hq : b + 4 ≤ q) (a0 a1 a2 : Value) : BoxAs b A (((A'.setCell ⟨q, 0, none⟩ a0).setCell ⟨q, 1, none⟩ a1).setCell ⟨q, 2, none⟩ a2) := fun k h1 h2 => by
  have hne : k ≠ q := by omega
  rw [Below.heap_setCell _ _ _ _ hne, Below.heap_setCell _ _ _ _ hne, Below.heap_setCell _ _ _ _ hne]
  exact h k h1 h2
set_option maxRecDepth 100000 in
set_option maxHeartbeats 8000000 in
theorem it_own (s : ByteArray) (k : Nat) (n : Int) (fl : Bool) (hk : k ≤ s.size) (HPe : PeC s k fl) (HFu : FuC s n fl) (w0 : World) (b m : Nat)
    (c0 : w0.cell? ⟨b, 0, none⟩ = some (.string s)) (c1 : w0.cell? ⟨b + 1, 0, none⟩ = some (.int .i64 (k : Int))) (c2 : w0.cell? ⟨b + 2, 0, none⟩ = some (.int .i64 n)) (c3 : w0.cell? ⟨b + 3, 0, none⟩ = some (.bool fl))
    (all : List Stx) (hall : all = allS s k n fl) :
    SeqOwn Fence.wide m Try.prog 58 #[.pointer (some ⟨b + 1, 0, none⟩), .pointer (some ⟨b, 0, none⟩), .pointer (some ⟨b + 3, 0, none⟩), .pointer (some ⟨b + 2, 0, none⟩)] encS (KpB b) (Turns 62 w0.heap.size) (fun pre x => ∃ rest, all = pre ++ x :: rest) (fun xs => xs = all) (fun _ => True) w0 := by
  intro l J Jx W hW hJ hJx hY h0
  have d0 := cell_stays hW c0
  have d1 := cell_stays hW c1
  have d2 := cell_stays hW c2
  have d3 := cell_stays hW c3
  have hb3 : b + 3 < w0.heap.size := World.block_lt_of_cell? _ _ c3
  refine callsIn_wide.2 ?_
  show Calls Try.prog 58 #[.func (.yield l) #[] #[], .pointer (some ⟨b + 1, 0, none⟩), .pointer (some ⟨b, 0, none⟩), .pointer (some ⟨b + 3, 0, none⟩), .pointer (some ⟨b + 2, 0, none⟩)] W _
  have HPE : Hid (PeC s k fl) := HPe
  have HFU : Hid (FuC s n fl) := HFu
  have HY : Hid (∀ pre x W1, J pre W1 → (∃ rest, all = pre ++ x :: rest) → YieldAt Fence.wide (m - 1) Try.prog l (encS x) W1 fun e W' =>
      (e = .returned (.bool true) ∧ J (pre ++ [x]) W' ∧ KpB b W1 W') ∨ (e = .returned (.bool false) ∧ Jx (pre ++ [x]) W')) := hY
  have HJ : Hid (∀ s A A', J s A → Turns 62 w0.heap.size A A' → J s A') := hJ
  have HJX : Hid (∀ s A A', Jx s A → Turns 62 w0.heap.size A A' → Jx s A') := hJx
  have H0 : Hid (J [] W) := h0
  obtain ⟨E, hE⟩ : ∃ E, plE s k fl = E := ⟨_, rfl⟩
  have HALL : Hid (all = (k, E, 0) :: strs s n fl (s.size + 1 - E) E) := by rw [← hE]; exact hall
  have HEs : Hid (E ≤ s.size) := by rw [← hE]; exact plE_le s k fl hk
  have HW : Hid (Below w0.heap.size w0 W) := hW
  have C0 : Hid (w0.cell? ⟨b, 0, none⟩ = some (.string s)) := c0
  have C2 : Hid (w0.cell? ⟨b + 2, 0, none⟩ = some (.int .i64 n)) := c2
  have C3 : Hid (w0.cell? ⟨b + 3, 0, none⟩ = some (.bool fl)) := c3
  have HB3 : Hid (b + 3 < w0.heap.size) := hb3
  have cP : Hid (∀ w, Calls Try.prog 18 #[.string s, .int .i64 (k : Int), .bool fl] w fun e w' => e = .returned (.int .i64 (E : Nat)) ∧ Below w.heap.size w w') := by rw [← hE]; exact HPE.out
  clear hY hJ hJx h0 HPe HFu hall hW c0 c1 c2 c3 hE hb3 HPE
  go_enter Try.func58, Try.ntmps58
  go_wp2_with fail
  have ne0 : W.heap.size ≠ b := World.new_ne W _ d0
  have ne1 : W.heap.size ≠ b + 1 := World.new_ne W _ d1
  have ne2 : W.heap.size ≠ b + 2 := World.new_ne W _ d2
  have ne3 : W.heap.size ≠ b + 3 := World.new_ne W _ d3
  go_region_held3 (fun V => V.cell? ⟨b, 0, none⟩ = some (.string s) ∧ V.cell? ⟨b + 1, 0, none⟩ = some (.int .i64 (k : Int)) ∧ V.cell? ⟨b + 2, 0, none⟩ = some (.int .i64 n) ∧ V.cell? ⟨b + 3, 0, none⟩ = some (.bool fl))
    (first | exact ⟨d0, d1, d2, d3⟩ | exact ⟨cell_stays hb1 (by assumption), cell_stays hb1 (by assumption), cell_stays hb1 (by assumption), cell_stays hb1 (by assumption)⟩ | exact ⟨cell_stays (alB _ _) (cell_stays hb1 d0), cell_stays (alB _ _) (cell_stays hb1 d1), cell_stays (alB _ _) (cell_stays hb1 d2), cell_stays (alB _ _) (cell_stays hb1 d3)⟩ | exact ⟨cell_stays hb1 (cell_stays (alB _ _) d0), cell_stays hb1 (cell_stays (alB _ _) d1), cell_stays hb1 (cell_stays (alB _ _) d2), cell_stays hb1 (cell_stays (alB _ _) d3)⟩ | go_keep)
    ((go_at_call 18; refine (cP.out _).mono ?_; rintro e w1 ⟨rfl, hb1⟩; first | (have hN := newS hb1; have q0 : w1.cell? ⟨W.heap.size, 0, none⟩ = _ := hN.1; have q1 : w1.cell? ⟨W.heap.size, 1, none⟩ = _ := hN.2.1; have q2 : w1.cell? ⟨W.heap.size, 2, none⟩ = _ := hN.2.2.1; have g0 : w1.frozen? ⟨W.heap.size, 0, none⟩ = _ := hN.2.2.2.1; have g1 : w1.frozen? ⟨W.heap.size, 1, none⟩ = _ := hN.2.2.2.2.1; have g2 : w1.frozen? ⟨W.heap.size, 2, none⟩ = _ := hN.2.2.2.2.2; clear hN) | skip))
  · have hBV : Below W.heap.size W w1 := ((Below.refl _ W).drew).trans (hb1.mono (Nat.le_refl _))
    obtain ⟨Bq, hBq⟩ : ∃ Bq, w1.heap.size = Bq := ⟨_, rfl⟩
    obtain ⟨V, hV⟩ : ∃ V, w1.alloc (.cells #[.int .i64 (k : Int), .int .i64 (E : Int), .int .i64 0] 62) = V := ⟨_, rfl⟩
    have v1 : V.heap[Bq]? = some (.cells #[.int .i64 (k : Int), .int .i64 (E : Int), .int .i64 0] 62 (0, 0)) := by rw [← hV, ← hBq]; exact heap_alloc_new w1 _
    have v2 : Below W.heap.size W V := by rw [← hV]; exact hBV.alloc hBV.size _
    have v4 : w0.heap.size ≤ Bq := by rw [← hBq]; exact Nat.le_trans HW.out.size hBV.size
    rw [hBq, hV]
    clear hBV hb1 hV hBq
    have v3 : J [] V := HJ.out [] W V H0.out (Turns.of_below v2)
    have v5 : BoxAs b w0 V := fun j h1 h2 => by
      have hlt := HB3.out
      have hsz := HW.out.size
      rw [v2.block j (by omega), HW.out.block j (by omega)]
    have HV1 : Hid (V.heap[Bq]? = some (.cells #[.int .i64 (k : Int), .int .i64 (E : Int), .int .i64 0] 62 (0, 0))) := v1
    have HV3 : Hid (J [] V) := v3
    have HV4 : Hid (w0.heap.size ≤ Bq) := v4
    have HV5 : Hid (BoxAs b w0 V) := v5
    have HV6 : Hid (w0.heap.size ≤ V.heap.size) := Nat.le_trans HW.out.size v2.size
    clear v1 v2 v3 v4 v5 d0 d1 d2 d3 ne0 ne1 ne2 ne3
    go_wp2_with fail
    go_loopw [7] (fun okv wr => ∃ (pre : List Stx) (x : Stx) (ok : Bool) (f : Nat), okv = .bool ok ∧ Hid (wr.heap[Bq]? = some (.cells #[.int .i64 (x.1 : Int), .int .i64 (x.2.1 : Int), .int .i64 (x.2.2 : Int)] 62 (0, 0))) ∧ x.2.1 ≤ s.size ∧ Hid (s.size < f + x.2.1) ∧ Hid (if ok = true then all = pre ++ x :: strs s n fl f x.2.1 else all = pre) ∧ Hid (J pre wr) ∧ Hid (BoxAs b w0 wr)) (fun okv wr => itMu s.size Bq okv wr)
    case atStart =>
      exact ⟨[], (k, E, 0), true, s.size + 1 - E, rfl, HV1, HEs.out, by have := HEs.out; show s.size < s.size + 1 - E + E; omega, HALL, HV3, HV5⟩
    case round =>
      clear HV1 HV3 HV5 HV6 H0 HALL HEs cP
      obtain ⟨pre, ⟨xf, xe, xm⟩, ok, f, rfl, HX, hxe, HF, HA, HJS, HB⟩ := hrel
      cases ok with
      | false =>
        go_wp2_with fail
        go_end0
        have hA : all = pre := HA.out
        exact ⟨⟨_, rfl⟩, .inl (by rw [hA]; exact HJS.out)⟩
      | true =>
        have hA : all = pre ++ (xf, xe, xm) :: strs s n fl f xe := HA.out
        obtain ⟨fn, tmps, assign, body, hy, hR⟩ := HY.out pre (xf, xe, xm) wr HJS.out ⟨_, hA⟩
        have hy' : (Instr.yield l #[.agg #[.int .i64 (xf : Int), .int .i64 (xe : Int), .int .i64 (xm : Int)]]).run Try.prog wr = .ok (.round l fn tmps assign body) wr := hy
        have x0 : wr.cell? ⟨Bq, 0, none⟩ = some (.int .i64 (xf : Int)) := k3_0 HX.out
        have x1 : wr.cell? ⟨Bq, 1, none⟩ = some (.int .i64 (xe : Int)) := k3_1 HX.out
        have x2 : wr.cell? ⟨Bq, 2, none⟩ = some (.int .i64 (xm : Int)) := k3_2 HX.out
        have HA' : Hid (all = pre ++ (xf, xe, xm) :: strs s n fl f xe) := hA
        clear hy hA HA
        refine (wpIn_wide (n := m)).1 ?_
        gi_wp2
        refine ⟨(fun h => by cases h), hR.mono ?_⟩
        rintro e W3 (⟨rfl, hJ3, hk3⟩ | ⟨rfl, hx3⟩)
        · have hB3 : BoxAs b w0 W3 := fun j h1 h2 => (hk3.box j h1 h2).trans (HB.out j h1 h2)
          have y0 := cell_same (p := ⟨b, 0, none⟩) (hB3 b (by omega) (by omega)) C0.out
          have y2 := cell_same (p := ⟨b + 2, 0, none⟩) (hB3 (b + 2) (by omega) (by omega)) C2.out
          have y3 := cell_same (p := ⟨b + 3, 0, none⟩) (hB3 (b + 3) (by omega) (by omega)) C3.out
          have hX3 := hk3.own _ _ _ HX.out
          have z1 : W3.cell? ⟨Bq, 1, none⟩ = some (.int .i64 (xe : Int)) := k3_1 hX3
          obtain ⟨⟨x', b'⟩, hfv⟩ : ∃ p, furV s n fl xe = p := ⟨_, rfl⟩
          obtain ⟨xf', xe', xm'⟩ := x'
          have cF := HFU.out xe W3 hxe (xf', xe', xm') b' hfv
          have HFV : Hid (furV s n fl xe = ((xf', xe', xm'), b')) := hfv
          have HB3' : Hid (BoxAs b w0 W3) := hB3
          have HX3 : Hid (W3.heap[Bq]? = some (.cells #[.int .i64 (xf : Int), .int .i64 (xe : Int), .int .i64 (xm : Int)] 62 (0, 0))) := hX3
          have HJ3 : Hid (J (pre ++ [(xf, xe, xm)]) W3) := hJ3
          have HX1 : Hid (wr.cell? ⟨Bq, 1, none⟩ = some (.int .i64 (xe : Int))) := x1
          clear hfv hB3 hX3 hJ3 hk3 hR hy' x0 x1 x2
          gi_wp2
          refine ⟨trivial, (fun h => by cases h), (callsIn_wide.2 cF).mono ?_⟩
          rintro e W4 ⟨rfl, hb4⟩
          have hX4 : W4.heap[Bq]? = some (.cells #[.int .i64 (xf : Int), .int .i64 (xe : Int), .int .i64 (xm : Int)] 62 (0, 0)) := (hb4.block _ (Array.getElem?_eq_some_iff.1 HX3.out).1).trans HX3.out
          have e0 : W4.cell? ⟨Bq, 0, none⟩ = some (.int .i64 (xf : Int)) := k3_0 hX4
          have e1 : W4.cell? ⟨Bq, 1, none⟩ = some (.int .i64 (xe : Int)) := k3_1 hX4
          have e2 : W4.cell? ⟨Bq, 2, none⟩ = some (.int .i64 (xm : Int)) := k3_2 hX4
          have f0 := k3_f hX4 0
          have f1 := k3_f hX4 1
          have f2 := k3_f hX4 2
          have HX4 : Hid (W4.heap[Bq]? = some (.cells #[.int .i64 (xf : Int), .int .i64 (xe : Int), .int .i64 (xm : Int)] 62 (0, 0))) := hX4
          have HB4 : Hid (Below W3.heap.size W3 W4) := hb4
          clear y0 y2 y3 z1 cF hX4 hb4
          gi_wp2
          go_roundw
          case rel =>
            go_light
            have hT : Turns 62 w0.heap.size W3 (((W4.setCell ⟨Bq, 0, none⟩ (.int .i64 (xf' : Int))).setCell ⟨Bq, 1, none⟩ (.int .i64 (xe' : Int))).setCell ⟨Bq, 2, none⟩ (.int .i64 (xm' : Int))) := (Turns.of_below HB4.out).trans (Turns.set3 HX4.out HV4.out _ _ _)
            have hJ5 := HJ.out _ _ _ HJ3.out hT
            have hlt := HB3.out
            have hv4 := HV4.out
            have hsz3 : w0.heap.size ≤ W3.heap.size := by
              have := (Array.getElem?_eq_some_iff.1 HX3.out).1
              omega
            have hBx := (HB3'.out.below (by omega) HB4.out).set3 (q := Bq) (by omega) (.int .i64 (xf' : Int)) (.int .i64 (xe' : Int)) (.int .i64 (xm' : Int))
            have hHp := k3_setAll HX4.out (.int .i64 (xf' : Int)) (.int .i64 (xe' : Int)) (.int .i64 (xm' : Int))
            have hf := HF.out
            cases b' with
            | true =>
              have hft := furV_true HFV.out
              have hfs := furt_some hft
              cases f with
              | zero => simp at hf; omega
              | succ f =>
                refine ⟨pre ++ [(xf, xe, xm)], (xf', xe', xm'), true, f, rfl, hHp, hfs.2.2, ?_, ?_, hJ5, hBx⟩
                · show s.size < f + xe'
                  have h1 : xe + xm' < xf' := hfs.1
                  have h2 : xf' ≤ xe' := hfs.2.1
                  have h3 : s.size < f + 1 + xe := hf
                  omega
                · show all = pre ++ [(xf, xe, xm)] ++ (xf', xe', xm') :: strs s n fl f xe'
                  rw [HA'.out, strs_some hft]
                  simp
            | false =>
              obtain ⟨hft, hx0⟩ := furV_false HFV.out
              injection hx0 with h1 h2
              injection h2 with h2 h3
              subst h1 h2 h3
              refine ⟨pre ++ [(xf, xe, xm)], (0, 0, 0), false, s.size + 1, rfl, hHp, Nat.zero_le _, by show s.size < s.size + 1 + 0; omega, ?_, hJ5, hBx⟩
              show all = pre ++ [(xf, xe, xm)]
              rw [HA'.out, strs_none hft]
          case measure =>
            go_light
            rw [itMu_true HX1.out]
            have hHp := k3_setAll HX4.out (.int .i64 (xf' : Int)) (.int .i64 (xe' : Int)) (.int .i64 (xm' : Int))
            cases b' with
            | true =>
              rw [itMu_true (k3_1 hHp)]
              have hfs := furt_some (furV_true HFV.out)
              have h1 : xe + xm' < xf' := hfs.1
              have h2 : xf' ≤ xe' := hfs.2.1
              omega
            | false => show 0 < _; omega
        · gi_wp2
          go_end0
          exact ⟨⟨_, rfl⟩, .inr ⟨_, trivial, hx3⟩⟩
  · have hN := newH hb1
    have hBV : Below W.heap.size W w1 := ((alB W _).drew).trans (hb1.mono (by show W.heap.size ≤ (W.alloc _).heap.size; simp))
    obtain ⟨Bq, hBq⟩ : ∃ Bq, W.heap.size = Bq := ⟨_, rfl⟩
    obtain ⟨V, hV⟩ : ∃ V, (((w1.setCell ⟨W.heap.size, 0, none⟩ (.int .i64 (k : Int))).setCell ⟨W.heap.size, 1, none⟩ (.int .i64 (E : Int))).setCell ⟨W.heap.size, 2, none⟩ (.int .i64 0)) = V := ⟨_, rfl⟩
    have v1 : V.heap[Bq]? = some (.cells #[.int .i64 (k : Int), .int .i64 (E : Int), .int .i64 0] 62 (0, 0)) := by rw [← hV, ← hBq]; exact k3_setAll hN _ _ _
    have v2 : Below W.heap.size W V := by rw [← hV]; exact ((hBV.setCell (Nat.le_refl _) _).setCell (Nat.le_refl _) _).setCell (Nat.le_refl _) _
    have v4 : w0.heap.size ≤ Bq := by rw [← hBq]; exact HW.out.size
    rw [hV, hBq]
    clear hBV hb1 hV hN q0 q1 q2 g0 g1 g2
    clear hBq
    have v3 : J [] V := HJ.out [] W V H0.out (Turns.of_below v2)
    have v5 : BoxAs b w0 V := fun j h1 h2 => by
      have hlt := HB3.out
      have hsz := HW.out.size
      rw [v2.block j (by omega), HW.out.block j (by omega)]
    have HV1 : Hid (V.heap[Bq]? = some (.cells #[.int .i64 (k : Int), .int .i64 (E : Int), .int .i64 0] 62 (0, 0))) := v1
    have HV3 : Hid (J [] V) := v3
    have HV4 : Hid (w0.heap.size ≤ Bq) := v4
    have HV5 : Hid (BoxAs b w0 V) := v5
    have HV6 : Hid (w0.heap.size ≤ V.heap.size) := Nat.le_trans HW.out.size v2.size
    clear v1 v2 v3 v4 v5 d0 d1 d2 d3 ne0 ne1 ne2 ne3
    go_wp2_with fail
    go_loopw [7] (fun okv wr => ∃ (pre : List Stx) (x : Stx) (ok : Bool) (f : Nat), okv = .bool ok ∧ Hid (wr.heap[Bq]? = some (.cells #[.int .i64 (x.1 : Int), .int .i64 (x.2.1 : Int), .int .i64 (x.2.2 : Int)] 62 (0, 0))) ∧ x.2.1 ≤ s.size ∧ Hid (s.size < f + x.2.1) ∧ Hid (if ok = true then all = pre ++ x :: strs s n fl f x.2.1 else all = pre) ∧ Hid (J pre wr) ∧ Hid (BoxAs b w0 wr)) (fun okv wr => itMu s.size Bq okv wr)
    case atStart =>
      exact ⟨[], (k, E, 0), true, s.size + 1 - E, rfl, HV1, HEs.out, by have := HEs.out; show s.size < s.size + 1 - E + E; omega, HALL, HV3, HV5⟩
    case round =>
      clear HV1 HV3 HV5 HV6 H0 HALL HEs cP
      obtain ⟨pre, ⟨xf, xe, xm⟩, ok, f, rfl, HX, hxe, HF, HA, HJS, HB⟩ := hrel
      cases ok with
      | false =>
        go_wp2_with fail
        go_end0
        have hA : all = pre := HA.out
        exact ⟨⟨_, rfl⟩, .inl (by rw [hA]; exact HJS.out)⟩
      | true =>
        have hA : all = pre ++ (xf, xe, xm) :: strs s n fl f xe := HA.out
        obtain ⟨fn, tmps, assign, body, hy, hR⟩ := HY.out pre (xf, xe, xm) wr HJS.out ⟨_, hA⟩
        have hy' : (Instr.yield l #[.agg #[.int .i64 (xf : Int), .int .i64 (xe : Int), .int .i64 (xm : Int)]]).run Try.prog wr = .ok (.round l fn tmps assign body) wr := hy
        have x0 : wr.cell? ⟨Bq, 0, none⟩ = some (.int .i64 (xf : Int)) := k3_0 HX.out
        have x1 : wr.cell? ⟨Bq, 1, none⟩ = some (.int .i64 (xe : Int)) := k3_1 HX.out
        have x2 : wr.cell? ⟨Bq, 2, none⟩ = some (.int .i64 (xm : Int)) := k3_2 HX.out
        have HA' : Hid (all = pre ++ (xf, xe, xm) :: strs s n fl f xe) := hA
        clear hy hA HA
        refine (wpIn_wide (n := m)).1 ?_
        gi_wp2
        refine ⟨(fun h => by cases h), hR.mono ?_⟩
        rintro e W3 (⟨rfl, hJ3, hk3⟩ | ⟨rfl, hx3⟩)
        · have hB3 : BoxAs b w0 W3 := fun j h1 h2 => (hk3.box j h1 h2).trans (HB.out j h1 h2)
          have y0 := cell_same (p := ⟨b, 0, none⟩) (hB3 b (by omega) (by omega)) C0.out
          have y2 := cell_same (p := ⟨b + 2, 0, none⟩) (hB3 (b + 2) (by omega) (by omega)) C2.out
          have y3 := cell_same (p := ⟨b + 3, 0, none⟩) (hB3 (b + 3) (by omega) (by omega)) C3.out
          have hX3 := hk3.own _ _ _ HX.out
          have z1 : W3.cell? ⟨Bq, 1, none⟩ = some (.int .i64 (xe : Int)) := k3_1 hX3
          obtain ⟨⟨x', b'⟩, hfv⟩ : ∃ p, furV s n fl xe = p := ⟨_, rfl⟩
          obtain ⟨xf', xe', xm'⟩ := x'
          have cF := HFU.out xe W3 hxe (xf', xe', xm') b' hfv
          have HFV : Hid (furV s n fl xe = ((xf', xe', xm'), b')) := hfv
          have HB3' : Hid (BoxAs b w0 W3) := hB3
          have HX3 : Hid (W3.heap[Bq]? = some (.cells #[.int .i64 (xf : Int), .int .i64 (xe : Int), .int .i64 (xm : Int)] 62 (0, 0))) := hX3
          have HJ3 : Hid (J (pre ++ [(xf, xe, xm)]) W3) := hJ3
          have HX1 : Hid (wr.cell? ⟨Bq, 1, none⟩ = some (.int .i64 (xe : Int))) := x1
          clear hfv hB3 hX3 hJ3 hk3 hR hy' x0 x1 x2
          gi_wp2
          refine ⟨trivial, (fun h => by cases h), (callsIn_wide.2 cF).mono ?_⟩
          rintro e W4 ⟨rfl, hb4⟩
          have hX4 : W4.heap[Bq]? = some (.cells #[.int .i64 (xf : Int), .int .i64 (xe : Int), .int .i64 (xm : Int)] 62 (0, 0)) := (hb4.block _ (Array.getElem?_eq_some_iff.1 HX3.out).1).trans HX3.out
          have e0 : W4.cell? ⟨Bq, 0, none⟩ = some (.int .i64 (xf : Int)) := k3_0 hX4
          have e1 : W4.cell? ⟨Bq, 1, none⟩ = some (.int .i64 (xe : Int)) := k3_1 hX4
          have e2 : W4.cell? ⟨Bq, 2, none⟩ = some (.int .i64 (xm : Int)) := k3_2 hX4
          have f0 := k3_f hX4 0
          have f1 := k3_f hX4 1
          have f2 := k3_f hX4 2
          have HX4 : Hid (W4.heap[Bq]? = some (.cells #[.int .i64 (xf : Int), .int .i64 (xe : Int), .int .i64 (xm : Int)] 62 (0, 0))) := hX4
          have HB4 : Hid (Below W3.heap.size W3 W4) := hb4
          clear y0 y2 y3 z1 cF hX4 hb4
          gi_wp2
          go_roundw
          case rel =>
            go_light
            have hT : Turns 62 w0.heap.size W3 (((W4.setCell ⟨Bq, 0, none⟩ (.int .i64 (xf' : Int))).setCell ⟨Bq, 1, none⟩ (.int .i64 (xe' : Int))).setCell ⟨Bq, 2, none⟩ (.int .i64 (xm' : Int))) := (Turns.of_below HB4.out).trans (Turns.set3 HX4.out HV4.out _ _ _)
            have hJ5 := HJ.out _ _ _ HJ3.out hT
            have hlt := HB3.out
            have hv4 := HV4.out
            have hsz3 : w0.heap.size ≤ W3.heap.size := by
              have := (Array.getElem?_eq_some_iff.1 HX3.out).1
              omega
            have hBx := (HB3'.out.below (by omega) HB4.out).set3 (q := Bq) (by omega) (.int .i64 (xf' : Int)) (.int .i64 (xe' : Int)) (.int .i64 (xm' : Int))
            have hHp := k3_setAll HX4.out (.int .i64 (xf' : Int)) (.int .i64 (xe' : Int)) (.int .i64 (xm' : Int))
            have hf := HF.out
            cases b' with
            | true =>
              have hft := furV_true HFV.out
              have hfs := furt_some hft
              cases f with
              | zero => simp at hf; omega
              | succ f =>
                refine ⟨pre ++ [(xf, xe, xm)], (xf', xe', xm'), true, f, rfl, hHp, hfs.2.2, ?_, ?_, hJ5, hBx⟩
                · show s.size < f + xe'
                  have h1 : xe + xm' < xf' := hfs.1
                  have h2 : xf' ≤ xe' := hfs.2.1
                  have h3 : s.size < f + 1 + xe := hf
                  omega
                · show all = pre ++ [(xf, xe, xm)] ++ (xf', xe', xm') :: strs s n fl f xe'
                  rw [HA'.out, strs_some hft]
                  simp
            | false =>
              obtain ⟨hft, hx0⟩ := furV_false HFV.out
              injection hx0 with h1 h2
              injection h2 with h2 h3
              subst h1 h2 h3
              refine ⟨pre ++ [(xf, xe, xm)], (0, 0, 0), false, s.size + 1, rfl, hHp, Nat.zero_le _, by show s.size < s.size + 1 + 0; omega, ?_, hJ5, hBx⟩
              show all = pre ++ [(xf, xe, xm)]
              rw [HA'.out, strs_none hft]
          case measure =>
            go_light
            rw [itMu_true HX1.out]
            have hHp := k3_setAll HX4.out (.int .i64 (xf' : Int)) (.int .i64 (xe' : Int)) (.int .i64 (xm' : Int))
            cases b' with
            | true =>
              rw [itMu_true (k3_1 hHp)]
              have hfs := furt_some (furV_true HFV.out)
              have h1 : xe + xm' < xf' := hfs.1
              have h2 : xf' ≤ xe' := hfs.2.1
              omega
            | false => show 0 < _; omega
        · gi_wp2
          go_end0
          exact ⟨⟨_, rfl⟩, .inr ⟨_, trivial, hx3⟩⟩
end Go.Proofs.Ythlainjkpeioeaj

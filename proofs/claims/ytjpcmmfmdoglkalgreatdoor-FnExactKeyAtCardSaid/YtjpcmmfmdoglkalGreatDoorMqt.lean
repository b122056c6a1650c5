/- The face of both kinds of quotes, and its step within single quotes. -/
import Derived.Tactics
import Derived.Tactics2
import Derived.Defers
import Derived.Recover
import Derived.Laws.Pointers
import Derived.WalkKit
import Derived.ProofKit
import Derived.Test.YtjpcmmfmdoglkalGreatDoorProg
import Derived.WalkLawsBesides
import Derived.WalkSpells
import Derived.WalkMore
import Derived.Below
import Derived.Deep.RegionHeld3
import Derived.Laws.EntriesVeiled
import Derived.Lib.BufferOwn
import Derived.Shelf.Strings.BuilderK
import Derived.Shelf.Strings.OnBuilder
import Derived.Shelf.Strings.Repeat
import Derived.Test.YtjpcmmfmdoglkalGreatDoorSls
import Derived.Test.YtjpcmmfmdoglkalGreatDoorOvr
import Derived.Deep.QuietTactic
import Derived.BigQuiet
import Derived.Deep.Light
import Derived.Test.YtjpcmmfmdoglkalGreatDoorMfo
import Derived.Test.YtjpcmmfmdoglkalGreatDoorRd4
/- In a deferred call that recovers: the operations behind the recover are walked as elsewhere; an assertion to a struct type. -/
namespace Go.Proofs.YtjpcmmfmdoglkalGreatDoor
open Go.RowKit
theorem assert_struct {P : Program} {t xT : TypeId} {fs : Array Field} (h : P.underlying t = some (.struct fs)) (v : Value) (w : World) : (Instr.typeAssert (.iface t v) xT t true).run P w = .ok (.tuple #[v, .bool true]) w := by
  simp [Instr.typeAssert, run_underlying h]
theorem assert_nil {P : Program} {t xT : TypeId} {fs : Array Field} {i : TypeInfo} {z : Value} (h : P.underlying t = some (.struct fs)) (hi : P.info? t = some i) (hz : i.zero = some z) (w : World) : (Instr.typeAssert .nilIface xT t true).run P w = .ok (.tuple #[z, .bool false]) w := by
  simp [Instr.typeAssert, run_underlying h, zeroValue, typeInfo, hi, hz]
theorem opsS_of_list {P : Program} {ops : Array Oper} {Q : Exit → Act → List Frame → World → Prop} {cs : List Frame} (hL : ¬ LetsOut (fun e a w => Q e a cs w)) : ∀ (os : List Oper) (k : Nat), (∀ j, j < os.length → os[j]? = ops[k + j]?) →
    ∀ (a : Act) (w : World), wpList P ops (fun e a w => Q e a cs w) os a w → wpOpsS P ops Q (List.range' k os.length) a cs w
  | [], _, _, _, _, h => h
  | o :: os, k, ho, a, w, h => by
    have h0 : ops[k]? = some o := by simpa using (ho 0 (by simp)).symm
    have hr : ∀ j, j < os.length → os[j]? = ops[k + 1 + j]? := fun j hj => by
      have := ho (j + 1) (by simp; omega)
      simpa [Nat.add_assoc, Nat.add_comm 1 j] using this
    have ih := opsS_of_list (P := P) hL os (k + 1) hr
    show wpOpsS P ops Q (k :: List.range' (k + 1) os.length) a cs w
    rw [wpOpsS, h0]
    rw [wpList] at h
    dsimp only
    split
    · rename_i hw
      rw [if_pos hw] at h
      rcases h with h | h
      · unfold Oper.wp at h
        cases hx : (execOp a.eval o).run P w with
        | ok x w' =>
          rw [hx] at h
          cases x with
          | value v => exact ih _ _ h
          | skip => exact ih _ _ h
          | defer d => exact ih _ _ h
          | enter f args =>
            refine (show Calls P f args w' _ from h).mono ?_
            intro e w'' he
            cases e with
            | returned v => exact ih _ _ he
            | panicked c => exact he
            | outgrown => exact he
          | row row args =>
            intro c cs'
            obtain ⟨v, w'', r, s⟩ := (show Rows P row args w' _ from h) c cs'
            exact ⟨v, w'', ih _ _ r, s⟩
          | _ => exact (h : False).elim
        | halt x w' =>
          rw [hx] at h
          cases x with
          | panic v => exact h
          | _ => exact (h : False).elim
      · exact absurd h.2 hL
    · rename_i hw
      rw [if_neg hw] at h
      exact ih _ _ h
/-- A region that opens with a recover: of a frame that panics. -/
theorem region_recovers {P : Program} {o : Oper} {os : List Oper} {Q : Exit → Act → List Frame → World → Prop} {id : Nat} {a : Act} {c : Frame} {cs : List Frame} {w : World} {v : Value} {older : List PanicEntry}
    (hop : o.op = Op.call { callee := Callee.builtin Builtin.recover, args := #[], argTypes := #[] }) (hg : o.guard = none) (hm : c.mode = .panicking ({ v := v, recovered := false } :: older))
    (hL : ¬ LetsOut (fun e a w => Q e a ({ c with mode := .panicking ({ v := v, recovered := true } :: older) } :: cs) w))
    (h : wpList P (o :: os).toArray (fun e a w => Q e a ({ c with mode := .panicking ({ v := v, recovered := true } :: older) } :: cs) w) os (a.put o.dst v) w) :
    (Code.region id (o :: os).toArray false).wpS P Q a (c :: cs) w := by
  refine wpS_region ?_
  have e : List.range (o :: os).toArray.size = 0 :: List.range' 1 os.length := by
    rw [List.range_eq_range']
    simp [List.range'_succ]
  rw [e, wpOpsS]
  have hw : Region.wanted o (yielded (o :: os).toArray a.tmps) = true := by simp [Region.wanted, hg]
  have hx : (execOp a.eval o).run P w = .ok .recover w := by
    unfold execOp
    simp [hop, resolve, invoke, builtin]
  simp only [List.getElem?_toArray, List.getElem?_cons_zero, hw, if_true, hx]
  simp only [recoverD, hm]
  exact opsS_of_list hL os 1 (fun j hj => by simp [Nat.add_comm 1 j]) _ _ h
/-- Of a frame that returns: there is nothing to recover. -/
theorem region_idle {P : Program} {o : Oper} {os : List Oper} {Q : Exit → Act → List Frame → World → Prop} {id : Nat} {a : Act} {c : Frame} {cs : List Frame} {w : World}
    (hop : o.op = Op.call { callee := Callee.builtin Builtin.recover, args := #[], argTypes := #[] }) (hg : o.guard = none) (hm : c.mode = .returning)
    (hL : ¬ LetsOut (fun e a w => Q e a (c :: cs) w))
    (h : wpList P (o :: os).toArray (fun e a w => Q e a (c :: cs) w) os (a.put o.dst .nilIface) w) :
    (Code.region id (o :: os).toArray false).wpS P Q a (c :: cs) w := by
  refine wpS_region ?_
  have e : List.range (o :: os).toArray.size = 0 :: List.range' 1 os.length := by
    rw [List.range_eq_range']
    simp [List.range'_succ]
  rw [e, wpOpsS]
  have hw : Region.wanted o (yielded (o :: os).toArray a.tmps) = true := by simp [Region.wanted, hg]
  have hx : (execOp a.eval o).run P w = .ok .recover w := by
    unfold execOp
    simp [hop, resolve, invoke, builtin]
  simp only [List.getElem?_toArray, List.getElem?_cons_zero, hw, if_true, hx]
  simp only [recoverD, hm]
  exact opsS_of_list hL os 1 (fun j hj => by simp [Nat.add_comm 1 j]) _ _ h
end Go.Proofs.YtjpcmmfmdoglkalGreatDoor
/- impl.caught: it lets a reader read, and tells the fault that it met; the deferred closure; the box of the answer. -/
namespace Go.Proofs.YtjpcmmfmdoglkalGreatDoor
open Go.RowKit
/-- The ending of a call that a fault ended. -/
def faultX (code at_ : Int) : Ending := .panicked [{ v := .iface 77 (.agg #[.int .i64 code, .int .i64 at_]), recovered := false }]
set_option maxHeartbeats 4000000 in
theorem catch_fault1 (a : Nat) (x0 x1 : Value) (code at_ : Int) (older : List PanicEntry) (w : World)
    (h0 : w.heap[a]? = some (.cells #[x0, x1] 77 (0, 0))) :
    CallsD Tryz.prog 109 #[.pointer (some ⟨a, 0, none⟩)] (.panicking ({ v := .iface 77 (.agg #[.int .i64 code, .int .i64 at_]), recovered := false } :: older)) w fun e u' w' =>
      e = .returned (.tuple #[]) ∧ u' = .panicking ({ v := .iface 77 (.agg #[.int .i64 code, .int .i64 at_]), recovered := true } :: older) ∧
      ∃ W, Below w.heap.size w W ∧ w' = ((W.setCell ⟨a, 0, none⟩ (.int .i64 code)).setCell ⟨a, 1, none⟩ (.int .i64 at_)) := by
  have hta := fun (w : World) (v : Value) => assert_struct (P := Tryz.prog) (xT := 20) Tryz.underlying77 v w
  refine callsD_of_wpS Tryz.func109 rfl fun c₀ cs hu => ?_
  apply wpS_seq
  simp only [Tryz.ntmps109, List.size_toArray, List.length_cons, List.length_nil, Nat.reduceAdd, Nat.reduceSub, Array.replicate_succ, Array.replicate_zero, List.push_toArray, List.append_toArray, List.nil_append, List.cons_append]
  refine region_recovers rfl rfl hu ?hL ?_
  case hL =>
    rintro ⟨_, _, h⟩
    obtain ⟨_, h, _⟩ := h
    cases h
  go_wp2_with fail
  refine wpS_of_wp ?_
  have e0 : w.heap.size ≠ a := fun h => by
    have h2 := (Array.getElem?_eq_some_iff.1 h0).1
    omega
  have e1 := e0.symm
  have hlt : a < w.heap.size := (Array.getElem?_eq_some_iff.1 h0).1
  have h0' : (w.alloc (.cells #[.int .i64 code, .int .i64 at_] 77)).heap[a]? = some (.cells #[x0, x1] 77 (0, 0)) := (Below.heap_alloc _ _ _ hlt).trans h0
  have k0 := Lib.cell_of_heap h0' 0
  have k1 := Lib.cell_of_heap h0' 1
  have z0 := Lib.frozen_of_heap h0' 0
  have z1 := Lib.frozen_of_heap h0' 1
  have HB : Hid (Below w.heap.size w (w.alloc (.cells #[.int .i64 code, .int .i64 at_] 77))) := (Below.refl _ w).alloc (Nat.le_refl _) _
  clear h0 h0' hlt
  go_wp2_with fail
  exact ⟨rfl, _, rfl, _, results_none rfl _ _ _, rfl, rfl, _, HB.out, rfl⟩
theorem catch_idle1 (a : Nat) (w : World) :
    CallsD Tryz.prog 109 #[.pointer (some ⟨a, 0, none⟩)] .returning w fun e u' w' => e = .returned (.tuple #[]) ∧ u' = .returning ∧ w' = w := by
  refine callsD_of_wpS Tryz.func109 rfl fun c₀ cs hu => ?_
  apply wpS_seq
  simp only [Tryz.ntmps109, List.size_toArray, List.length_cons, List.length_nil, Nat.reduceAdd, Nat.reduceSub, Array.replicate_succ, Array.replicate_zero, List.push_toArray, List.append_toArray, List.nil_append, List.cons_append]
  refine region_idle rfl rfl hu ?hL ?_
  case hL =>
    rintro ⟨_, _, h⟩
    obtain ⟨_, h, _⟩ := h
    cases h
  go_wp2_with fail
  refine wpS_of_wp ?_
  go_wp2_with fail
  exact ⟨rfl, _, rfl, _, results_none rfl _ _ _, rfl, hu, rfl⟩
/-- What caught leaves of the world W that the reading left: its own box alone is changed, and there may be more. -/
structure Beside (a : Nat) (W w' : World) : Prop where
  os : w'.os = W.os
  tape : w'.tape = W.tape
  output : w'.output = W.output
  size : W.heap.size ≤ w'.heap.size
  block : ∀ k, k < W.heap.size → k ≠ a → w'.heap[k]? = W.heap[k]?
theorem Beside.below {a B : Nat} {w W w' : World} (h : Beside a W w') (hb : Below B w W) (ha : B ≤ a) (hB : B ≤ W.heap.size) : Below B w w' :=
  ⟨h.os.trans hb.os, h.tape.trans hb.tape, h.output.trans hb.output, Nat.le_trans hb.size h.size, fun k hk => (h.block k (by omega) (by omega)).trans (hb.block k hk)⟩
theorem beside_set {a : Nat} {W V : World} (h : Below W.heap.size W V) (u v : Value) : Beside a W ((V.setCell ⟨a, 0, none⟩ u).setCell ⟨a, 1, none⟩ v) := by
  refine ⟨h.os, h.tape, h.output, ?_, fun k hk hka => ?_⟩
  · have e : ((V.setCell ⟨a, 0, none⟩ u).setCell ⟨a, 1, none⟩ v).heap.size = V.heap.size := by simp [World.setCell]
    rw [e]
    exact h.size
  · rw [Below.heap_setCell _ _ _ _ hka, Below.heap_setCell _ _ _ _ hka]
    exact h.block k hk
/-- The contract of caught, over what its reading g does from the world in which the box of the answer is made. -/
theorem caught_any (g : Nat) (eg : ∀ args w, (callFunc g args).run Tryz.prog w = .ok (.enter g args) w) (caps : Array Value) (w : World) (Q : World → Prop) (F : Int → Int → World → Prop)
    (hg : Calls Tryz.prog g caps (w.alloc (.cells #[.int .i64 0, .int .i64 0] 77)) fun e W => W.heap[w.heap.size]? = some (.cells #[.int .i64 0, .int .i64 0] 77 (0, 0)) ∧ ((e = .returned (.tuple #[]) ∧ Q W) ∨ (∃ c p, e = faultX c p ∧ F c p W))) :
    Calls Tryz.prog 55 #[.func (.func g) #[] caps] w fun e w' => ∃ W, Beside w.heap.size W w' ∧ ((e = .returned (.agg #[.int .i64 0, .int .i64 0]) ∧ Q W) ∨ (∃ c p, e = .returned (.agg #[.int .i64 c, .int .i64 p]) ∧ F c p W)) := by
  have hmf : ∀ (fn : Fn) (first cap : Array Value) (w : World), (Instr.makeFunc fn first cap).run Tryz.prog w = .ok (.func fn first cap) w := fun _ _ _ _ => rfl
  go_enter_defers Tryz.func55, Tryz.ntmps55
  go_wp2_with fail
  refine hg.mono ?_
  rintro e W ⟨hW, ⟨rfl, hQ⟩ | ⟨c, p, rfl, hF⟩⟩
  · have k0 := Lib.cell_of_heap hW 0
    have k1 := Lib.cell_of_heap hW 1
    have z0 := Lib.frozen_of_heap hW 0
    have z1 := Lib.frozen_of_heap hW 1
    have HQ : Hid (Q W) := hQ
    have HS := beside_set (a := w.heap.size) (Below.refl W.heap.size W) (.int .i64 0) (.int .i64 0)
    have HB : Hid (Beside w.heap.size W ((W.setCell ⟨w.heap.size, 0, none⟩ (.int .i64 0)).setCell ⟨w.heap.size, 1, none⟩ (.int .i64 0))) := HS
    have HC : Hid (((W.setCell ⟨w.heap.size, 0, none⟩ (.int .i64 0)).setCell ⟨w.heap.size, 1, none⟩ (.int .i64 0)).heap[w.heap.size]? = some (.cells #[.int .i64 0, .int .i64 0] 77 (0, 0))) := by
      show _ = _
      simp [World.setCell, Array.getElem?_modify, hW]
    clear hQ hW hg HS
    go_wp2_with fail
    refine leaves_cons (f := 109) (args := #[.pointer (some ⟨w.heap.size, 0, none⟩)]) (by simp) (by simp [go_sem]) ?_
    refine (catch_idle1 _ _).mono ?_
    rintro e u' F' ⟨rfl, rfl, rfl⟩
    simp only [settle]
    refine ⟨.agg #[.int .i64 0, .int .i64 0], ?_, W, HB.out, .inl ⟨rfl, HQ.out⟩⟩
    have q0 := Lib.cell_of_heap HC.out 0
    have q1 := Lib.cell_of_heap HC.out 1
    simp [results, Tryz.results55, asAddr, loadVar, isAgg, run_underlying Tryz.underlying77, go_sem, q0, q1]
  · have HF : Hid (F c p W) := hF
    have HW : Hid (W.heap[w.heap.size]? = some (.cells #[.int .i64 0, .int .i64 0] 77 (0, 0))) := hW
    clear hF hW hg
    unfold faultX
    refine leaves_cons (f := 109) (args := #[.pointer (some ⟨w.heap.size, 0, none⟩)]) (by simp) (by simp [go_sem]) ?_
    refine (catch_fault1 w.heap.size _ _ c p [] W HW.out).mono ?_
    rintro e u' F' ⟨rfl, rfl, V, hV, rfl⟩
    simp only [settle]
    have hV2 : V.heap[w.heap.size]? = some (.cells #[.int .i64 0, .int .i64 0] 77 (0, 0)) := (hV.block _ (Array.getElem?_eq_some_iff.1 HW.out).1).trans HW.out
    have hc : ((V.setCell ⟨w.heap.size, 0, none⟩ (.int .i64 c)).setCell ⟨w.heap.size, 1, none⟩ (.int .i64 p)).heap[w.heap.size]? = some (.cells #[.int .i64 c, .int .i64 p] 77 (0, 0)) := by
      simp [World.setCell, Array.getElem?_modify, hV2]
    refine ⟨.agg #[.int .i64 c, .int .i64 p], ?_, W, beside_set hV _ _, .inr ⟨c, p, rfl, HF.out⟩⟩
    have q0 := Lib.cell_of_heap hc 0
    have q1 := Lib.cell_of_heap hc 1
    simp [results, Tryz.results55, asAddr, loadVar, isAgg, run_underlying Tryz.underlying77, go_sem, q0, q1]
end Go.Proofs.YtjpcmmfmdoglkalGreatDoor
/- The contracts of strings.Repeat, strings.Join and strings.Builder that the library holds, laid at this program. -/
namespace Go.Proofs
open Go.Shelf
def Tryz.laysJ_ren : Go.Shelf.Ren := ⟨fun | 99 => 177 | 105 => 215 | 165 => 232 | 166 => 193 | 169 => 195 | 170 => 233 | 206 => 201 | 212 => 231 | 240 => 214 | 241 => 243 | 263 => 241 | 264 => 242 | 276 => 230 | 277 => 253 | 156 => 248 | n => n, fun | 0 => 0 | 3 => 3 | 4 => 4 | 5 => 5 | 9 => 9 | 20 => 20 | 37 => 89 | 46 => 211 | 51 => 223 | 53 => 217 | 70 => 184 | 72 => 186 | 75 => 128 | 76 => 187 | 109 => 212 | 127 => 197 | 146 => 224 | 148 => 226 | 164 => 209 | 80 => 123 | 31 => 172 | n => n, fun | n => n⟩
theorem Tryz.lays105 : Go.Proofs.Lays.n105 Tryz.prog Tryz.laysJ_ren := {
  mixed := by kernel_rfl
  f99 := Tryz.func177.trans (congrArg some (by kernel_rfl))
  f105 := Tryz.func215.trans (congrArg some (by kernel_rfl))
  f165 := Tryz.func232.trans (congrArg some (by kernel_rfl))
  f166 := Tryz.func193.trans (congrArg some (by kernel_rfl))
  f169 := Tryz.func195.trans (congrArg some (by kernel_rfl))
  f170 := Tryz.func233.trans (congrArg some (by kernel_rfl))
  f206 := Tryz.func201.trans (congrArg some (by kernel_rfl))
  f212 := Tryz.func231.trans (congrArg some (by kernel_rfl))
  f240 := Tryz.func214.trans (congrArg some (by kernel_rfl))
  f241 := Tryz.func243.trans (congrArg some (by kernel_rfl))
  f263 := Tryz.func241.trans (congrArg some (by kernel_rfl))
  f264 := Tryz.func242.trans (congrArg some (by kernel_rfl))
  f276 := Tryz.func230.trans (congrArg some (by kernel_rfl))
  f277 := Tryz.func253.trans (congrArg some (by kernel_rfl))
  t0 := Tryz.underlying0
  a0 := Tryz.isAgg0
  z0 := Tryz.sizeOf0
  v0 := Tryz.zeroValue0
  t3 := Tryz.underlying3
  a3 := Tryz.isAgg3
  z3 := Tryz.sizeOf3
  v3 := Tryz.zeroValue3
  t4 := Tryz.underlying4
  a4 := Tryz.isAgg4
  z4 := Tryz.sizeOf4
  v4 := Tryz.zeroValue4
  t5 := Tryz.underlying5
  a5 := Tryz.isAgg5
  z5 := Tryz.sizeOf5
  v5 := Tryz.zeroValue5
  t9 := Tryz.underlying9
  a9 := Tryz.isAgg9
  z9 := Tryz.sizeOf9
  v9 := Tryz.zeroValue9
  t20 := Tryz.underlying20
  a20 := Tryz.isAgg20
  z20 := Tryz.sizeOf20
  v20 := Tryz.zeroValue20
  t37 := Tryz.underlying89
  a37 := Tryz.isAgg89
  z37 := Tryz.sizeOf89
  v37 := Tryz.zeroValue89
  t46 := Tryz.underlying211
  a46 := Tryz.isAgg211
  z46 := Tryz.sizeOf211
  v46 := Tryz.zeroValue211
  t51 := Tryz.underlying223
  a51 := Tryz.isAgg223
  z51 := Tryz.sizeOf223
  v51 := Tryz.zeroValue223
  t53 := Tryz.underlying217
  a53 := Tryz.isAgg217
  z53 := Tryz.sizeOf217
  v53 := Tryz.zeroValue217
  t70 := Tryz.underlying184
  a70 := Tryz.isAgg184
  z70 := Tryz.sizeOf184
  v70 := Tryz.zeroValue184
  t72 := Tryz.underlying186
  a72 := Tryz.isAgg186
  z72 := Tryz.sizeOf186
  v72 := Tryz.zeroValue186
  t75 := Tryz.underlying128
  a75 := Tryz.isAgg128
  z75 := Tryz.sizeOf128
  v75 := Tryz.zeroValue128
  t76 := Tryz.underlying187
  a76 := Tryz.isAgg187
  z76 := Tryz.sizeOf187
  v76 := Tryz.zeroValue187
  t109 := Tryz.underlying212
  a109 := Tryz.isAgg212
  z109 := Tryz.sizeOf212
  v109 := Tryz.zeroValue212
  t127 := Tryz.underlying197
  a127 := Tryz.isAgg197
  z127 := Tryz.sizeOf197
  v127 := Tryz.zeroValue197
  t146 := Tryz.underlying224
  a146 := Tryz.isAgg224
  z146 := Tryz.sizeOf224
  v146 := Tryz.zeroValue224
  t148 := Tryz.underlying226
  a148 := Tryz.isAgg226
  z148 := Tryz.sizeOf226
  v148 := Tryz.zeroValue226
  t164 := Tryz.underlying209
  a164 := Tryz.isAgg209
  z164 := Tryz.sizeOf209
  v164 := Tryz.zeroValue209 }
theorem Tryz.lays156 : Go.Proofs.Lays.n156 Tryz.prog Tryz.laysJ_ren := {
  mixed := by kernel_rfl
  f156 := Tryz.func248.trans (congrArg some (by kernel_rfl))
  f165 := Tryz.func232.trans (congrArg some (by kernel_rfl))
  f166 := Tryz.func193.trans (congrArg some (by kernel_rfl))
  f169 := Tryz.func195.trans (congrArg some (by kernel_rfl))
  f240 := Tryz.func214.trans (congrArg some (by kernel_rfl))
  f241 := Tryz.func243.trans (congrArg some (by kernel_rfl))
  f276 := Tryz.func230.trans (congrArg some (by kernel_rfl))
  f277 := Tryz.func253.trans (congrArg some (by kernel_rfl))
  t0 := Tryz.underlying0
  a0 := Tryz.isAgg0
  z0 := Tryz.sizeOf0
  v0 := Tryz.zeroValue0
  t3 := Tryz.underlying3
  a3 := Tryz.isAgg3
  z3 := Tryz.sizeOf3
  v3 := Tryz.zeroValue3
  t4 := Tryz.underlying4
  a4 := Tryz.isAgg4
  z4 := Tryz.sizeOf4
  v4 := Tryz.zeroValue4
  t9 := Tryz.underlying9
  a9 := Tryz.isAgg9
  z9 := Tryz.sizeOf9
  v9 := Tryz.zeroValue9
  t20 := Tryz.underlying20
  a20 := Tryz.isAgg20
  z20 := Tryz.sizeOf20
  v20 := Tryz.zeroValue20
  t31 := Tryz.underlying172
  a31 := Tryz.isAgg172
  z31 := Tryz.sizeOf172
  v31 := Tryz.zeroValue172
  t37 := Tryz.underlying89
  a37 := Tryz.isAgg89
  z37 := Tryz.sizeOf89
  v37 := Tryz.zeroValue89
  t70 := Tryz.underlying184
  a70 := Tryz.isAgg184
  z70 := Tryz.sizeOf184
  v70 := Tryz.zeroValue184
  t72 := Tryz.underlying186
  a72 := Tryz.isAgg186
  z72 := Tryz.sizeOf186
  v72 := Tryz.zeroValue186
  t75 := Tryz.underlying128
  a75 := Tryz.isAgg128
  z75 := Tryz.sizeOf128
  v75 := Tryz.zeroValue128
  t76 := Tryz.underlying187
  a76 := Tryz.isAgg187
  z76 := Tryz.sizeOf187
  v76 := Tryz.zeroValue187
  t127 := Tryz.underlying197
  a127 := Tryz.isAgg197
  z127 := Tryz.sizeOf197
  v127 := Tryz.zeroValue197
  t164 := Tryz.underlying209
  a164 := Tryz.isAgg209
  z164 := Tryz.sizeOf209
  v164 := Tryz.zeroValue209 }
theorem Tryz.Builder_Extra : Builder.Extra Tryz.prog Tryz.laysJ_ren := {
  sizeBuilder := by kernel_rfl
  liesBuilder := by kernel_rfl
  t5 := Tryz.underlying5
  a5 := Tryz.isAgg5
  z5 := Tryz.sizeOf5
  v5 := Tryz.zeroValue5
  infoByte := by kernel_rfl
  cellsByte := by kernel_rfl
  sizeByte := by kernel_rfl
  neB5 := by decide }

end Go.Proofs
namespace Go.Proofs.YtjpcmmfmdoglkalGreatDoor
open Go.RowKit Go.Lib
/-- The bytes of a repeated break. -/
theorem brks_rep : ∀ n : Nat, (⟨(Lib.repeatL [10] n).toArray⟩ : ByteArray) = brks n
  | 0 => rfl
  | n + 1 => by
    rw [brks, ← brks_rep n, Lib.repeatL]
    apply ba_ext'
    apply Array.ext'
    rw [ByteArray.data_append]
    simp [b10]
theorem rep_any (n : Nat) (w : World) (hn : n ≤ 33554432) :
    Calls Tryz.prog 215 #[.string b10, .int .i64 (n : Int)] w fun e w' => e = .returned (.string (brks n)) ∧ Below w.heap.size w w' := by
  rw [← brks_rep n]
  exact Any.strings_Repeat Tryz.lays105 Tryz.Builder_Extra b10 n w (by omega) (by show 1 * n ≤ _; omega)
/-- The lines with a break between each two. -/
theorem join_brk : ∀ ss : List ByteArray, (⟨(Lib.join (ss.map (·.data.toList)) [10]).toArray⟩ : ByteArray) = joinB ss
  | [] => rfl
  | [x] => by
    rw [List.map_cons, List.map_nil, Lib.join_one]
    rfl
  | x :: y :: t => by
    have ih := join_brk (y :: t)
    show _ = x ++ b10 ++ joinB (y :: t)
    rw [← ih, List.map_cons, Lib.join_cons, List.map_cons, Lib.join_cons]
    apply ba_ext'
    apply Array.ext'
    rw [ByteArray.data_append, ByteArray.data_append]
    simp [b10, Lib.joinTail]
theorem joinB_sz : ∀ l : List ByteArray, (joinB l).size ≤ totS l + l.length
  | [] => Nat.le_refl _
  | [x] => by show x.size ≤ x.size + 0 + 1; omega
  | x :: y :: t => by
    have ih := joinB_sz (y :: t)
    show (x ++ b10 ++ joinB (y :: t)).size ≤ x.size + totS (y :: t) + (y :: t).length + 1
    rw [ByteArray.size_append, ByteArray.size_append, show b10.size = 1 from rfl]
    omega
theorem join_any (w : World) (v : Value) (ss : List ByteArray) (hV : SlS w v ss) (hl : totS ss + ss.length ≤ 33554432) :
    Calls Tryz.prog 248 #[v, .string b10] w fun e w' => e = .returned (.string (joinB ss)) ∧ Below w.heap.size w w' := by
  rcases hV with ⟨rfl, a, c, rfl⟩ | ⟨h0, b, off, c, rfl, hlt, hlc, hc⟩
  · refine (Any.strings_Join_none Tryz.lays156 Tryz.Builder_Extra a c b10 w).mono ?_
    rintro e w' ⟨rfl, rfl⟩
    exact ⟨rfl, Below.refl _ _⟩
  · rw [← join_brk ss]
    refine Any.strings_Join Tryz.lays156 Tryz.Builder_Extra b off c ss b10 w hc hlt (by omega) hlc ?_
    have h1 := joinB_sz ss
    rw [← join_brk ss] at h1
    have h2 : (Lib.join (ss.map (·.data.toList)) b10.data.toList).length ≤ totS ss + ss.length := h1
    omega
/-- A builder of the call's own, in block b, with the bytes o. -/
def Bd (B b : Nat) (o : ByteArray) (w : World) : Prop := Lib.IsBuilderF 186 5 B b (Lib.byteCells o.data.toList) w
theorem Bd.stays {B b : Nat} {o : ByteArray} {w w' : World} (h : Bd B b o w) (hb : Below w.heap.size w w') : Bd B b o w' := by
  have one : ∀ p, Lib.BuilderAtF 186 5 B b p (Lib.byteCells o.data.toList) w → Lib.BuilderAtF 186 5 B b p (Lib.byteCells o.data.toList) w' := by
    intro p hp
    have hlt := hp.lt
    obtain ⟨hB, v, hk, hown, hne⟩ := hp
    exact ⟨hB, v, (hb.block _ hlt).trans hk, hown.kept (row := none) ⟨hb.os, hb.tape, hb.output, hb.size, fun k hk' _ => hb.block k hk'⟩ (by cases hv : v.ownBlock <;> simp), hne⟩
  exact h.elim (fun x => .inl (one _ x)) (fun x => .inr (one _ x))
theorem Bd.fresh (w : World) : Bd w.heap.size w.heap.size ByteArray.empty (w.alloc (.cells #[.pointer none, .slice none 0 0] 186)) :=
  Lib.IsBuilderF.of (Lib.fresh_isBuilder 186 5 w)
theorem Bd.lt {B b : Nat} {o : ByteArray} {w : World} (h : Bd B b o w) : b < w.heap.size := h.elim (·.lt) (·.lt)
theorem write_any (B b : Nat) (o s : ByteArray) (w : World) (h : Bd B b o w) (hl : o.size + s.size ≤ 140737488355328) (hB : B ≤ w.heap.size) :
    Calls Tryz.prog 193 #[.pointer (some ⟨b, 0, none⟩), .string s] w fun e w' => e = .returned (.tuple #[.int .i64 s.size, .nilIface]) ∧ Bd B b (o ++ s) w' ∧ Below B w w' ∧ Lib.OthersKept 5 (some b) w w' := by
  refine (Any.Builder_WriteString_k { Tryz.lays105 with } Tryz.Builder_Extra B b (Lib.byteCells o.data.toList) s w h (by rw [Lib.byteCells_length]; exact hl) hB).mono ?_
  rintro e w' ⟨rfl, h1, h2, h3⟩
  refine ⟨rfl, ?_, h2, h3⟩
  unfold Bd
  rw [ByteArray.data_append, Array.toList_append, Lib.byteCells_append]
  exact .inr h1
theorem string_any (B b : Nat) (o : ByteArray) (w : World) (h : Bd B b o w) (hB : B ≤ w.heap.size) :
    Calls Tryz.prog 195 #[.pointer (some ⟨b, 0, none⟩)] w fun e w' => e = .returned (.string o) ∧ Below B w w' := by
  refine (Any.Builder_String_any_k { Tryz.lays105 with } Tryz.Builder_Extra B b o.data.toList w h hB).mono ?_
  rintro e w' ⟨rfl, _, h2, _⟩
  exact ⟨rfl, h2⟩
end Go.Proofs.YtjpcmmfmdoglkalGreatDoor
/- What stands between two pieces or lines (pieceJoint, lineJoint), and the endings of a text. -/
namespace Go.Proofs.YtjpcmmfmdoglkalGreatDoor
open Go.ChangeShapes Go.WideShapes Go.ChangeAt Go.RowKit
theorem ret_str {a b : ByteArray} (h : a = b) : Ending.returned (.string a) = .returned (.string b) := by rw [h]
/-- What stands between two pieces. -/
def pj (n : Nat) (g : Bool) : ByteArray := if 0 < n then brks n else if g then ByteArray.empty else b32
theorem pj_size (n : Nat) (g : Bool) : (pj n g).size ≤ n + 1 := by
  unfold pj
  split
  · rw [brks_size]; omega
  · split
    · exact Nat.zero_le _
    · show 1 ≤ n + 1; omega
theorem pieceJoint_any (n : ByteArray) (g : Bool) (k : Nat) (w : World) (hk : k ≤ 33554432) (o : ByteArray) (ho : pj k g = o) :
    Calls Tryz.prog 194 #[.agg #[.string n, .bool g], .int .i64 (k : Int)] w fun e w' => e = .returned (.string o) ∧ Below w.heap.size w w' := by
  by_cases h0 : 0 < k
  · have h0' : (0 : Int) < (k : Int) := by omega
    have HO : Hid (brks k = o) := by show brks k = o; rw [← ho]; unfold pj; rw [if_pos h0]
    clear ho h0
    go_enter Tryz.func194, Tryz.ntmps194
    go_wp2_with fail
    refine (rep_any k _ hk).mono ?_
    rintro e w1 ⟨rfl, hb1⟩
    go_wp2_with fail
    go_ret
    exact ⟨ret_str HO.out, ((Below.refl _ w).alloc (Nat.le_refl _) _).trans (hb1.mono (by simp))⟩
  · have h0' : ¬ (0 : Int) < (k : Int) := by omega
    cases g with
    | true =>
      have HO : Hid (ByteArray.empty = o) := by show _ = o; rw [← ho]; unfold pj; rw [if_neg h0, if_pos rfl]
      clear ho h0
      go_enter Tryz.func194, Tryz.ntmps194
      go_wp2_with fail
      go_ret
      exact ⟨ret_str HO.out, (Below.refl _ w).alloc (Nat.le_refl _) _⟩
    | false =>
      have HO : Hid (b32 = o) := by show _ = o; rw [← ho]; unfold pj; rw [if_neg h0]; rfl
      clear ho h0
      go_enter Tryz.func194, Tryz.ntmps194
      go_wp2_with fail
      go_ret
      exact ⟨ret_str HO.out, (Below.refl _ w).alloc (Nat.le_refl _) _⟩

set_option maxHeartbeats 2000000 in
theorem signW (s : ByteArray) (w : World) (b : Bool) (hb : b = farS s) :
    Calls Tryz.prog 37 #[.string s, .int .i64 0, .string ⟨#[32, 9]⟩] w fun e w' => e = .returned (.bool b) ∧ Below w.heap.size w w' := by
  by_cases hlt : 0 < s.size
  · have HG : Hid (pW (bt s 0) = b) := by
      show pW (bt s 0) = b
      rw [hb]; unfold farS; rw [decide_eq_true hlt, Bool.true_and]
      rw [Bool.eq_iff_iff]; simp [pW, bt]
    have ask : ∀ (A : Nat) (w1 : World), w1.heap[A]? = some (.cells #[.string ⟨#[32, 9]⟩] 9 (0, 0)) → Calls Tryz.prog 127 #[.int .u8 ((s[0]'hlt).toNat : Int), .pointer (some ⟨A, 0, none⟩)] w1 fun e w' => e = .returned (.bool b) ∧ Below w1.heap.size w1 w' := by
      intro A w1 hA
      have h := amongC_any ⟨#[32, 9]⟩ pW A w1 hA pW_signs w1 (bt s 0) (bt_lt s 0) (Below.refl _ _)
      rw [HG.out] at h
      rw [← bt_get s 0 hlt] at h
      exact h
    have ASK : Hid (∀ (A : Nat) (w1 : World), w1.heap[A]? = some (.cells #[.string ⟨#[32, 9]⟩] 9 (0, 0)) → Calls Tryz.prog 127 #[.int .u8 ((s[0]'hlt).toNat : Int), .pointer (some ⟨A, 0, none⟩)] w1 fun e w' => e = .returned (.bool b) ∧ Below w1.heap.size w1 w') := ask
    clear hb ask
    go_enter Tryz.func37, Tryz.ntmps37
    go_wp2_with fail
    go_region_with (first
      | (go_at_call 80; refine (among_any _ _).mono ?_; rintro e w1 ⟨A, rfl, hA, hb1⟩)
      | (go_at_call 127; refine (ASK.out A _ hA).mono ?_; rintro e w2 ⟨rfl, hb2⟩))
    all_goals
      go_wp2_with fail
      go_ret
      have hb3 : Below w.heap.size w w1 := ((Below.refl _ w).drew).trans (hb1.mono (by simp))
      exact ⟨ret_bool rfl, hb3.trans (hb2.mono hb3.size)⟩
  · have HB : Hid (b = false) := by show b = false; rw [hb]; unfold farS; rw [decide_eq_false hlt]; rfl
    have hd : decide (0 < s.size) = false := decide_eq_false hlt
    clear hb
    go_enter Tryz.func37, Tryz.ntmps37
    go_wp2_with fail
    go_quiet (fail)
    go_wp2
    go_ret
    exact ⟨ret_bool HB.out.symm, below_dq _ _⟩
theorem far_any (s : ByteArray) (w : World) (b : Bool) (hb : b = farS s) :
    Calls Tryz.prog 261 #[.string s] w fun e w' => e = .returned (.bool b) ∧ Below w.heap.size w w' := by
  have c := signW s w b hb
  clear hb
  go_enter Tryz.func261, Tryz.ntmps261
  go_wp2_with fail
  refine c.mono ?_
  rintro e w1 ⟨rfl, hb1⟩
  go_wp2_with fail
  go_ret
  exact ⟨rfl, hb1⟩
/-- What stands ahead of a line. -/
def lj (last : ByteArray) (x : ByteArray) (n : Nat) : ByteArray :=
  if last = ByteArray.empty then brks n else if (farS x || farS last) = true then brks (n + 1) else if n = 0 then b32 else brks n
theorem lj_size (last x : ByteArray) (n : Nat) : (lj last x n).size ≤ n + 1 := by
  unfold lj
  split
  · rw [brks_size]; omega
  · split
    · rw [brks_size]; omega
    · split
      · show 1 ≤ n + 1; omega
      · rw [brks_size]; omega
theorem brks_snoc : ∀ n, brks n ++ b10 = brks (n + 1)
  | 0 => by rw [brks, brks, brks, empty_app, app_empty]
  | n + 1 => by rw [brks, app_assoc, brks_snoc n]; rfl
theorem e_list : (ByteArray.empty.toList == ([] : List UInt8)) = true := by rw [ByteArray.toList_eq]; rfl
theorem ne_list {t : ByteArray} (h : t ≠ ByteArray.empty) : (t.toList == []) = false := by
  rw [beq_eq_false_iff_ne]
  intro e
  apply h
  rw [ByteArray.toList_eq] at e
  apply ba_ext'
  apply Array.ext'
  rw [e]; rfl
theorem lineJoint_any (y x : ByteArray) (k : Nat) (w : World) (hk : k ≤ 33554432) (o : ByteArray) (ho : lj y x k = o) :
    Calls Tryz.prog 249 #[.string y, .string x, .int .i64 (k : Int)] w fun e w' => e = .returned (.string o) ∧ Below w.heap.size w w' := by
  have hz : (brks k).size ≤ 33554432 := by rw [brks_size]; exact hk
  obtain ⟨T, hT⟩ : ∃ T, brks k = T := ⟨_, rfl⟩
  have cR := rep_any k w hk
  rw [hT] at cR hz
  have HT : Hid (brks k = T) := hT
  clear hT
  by_cases h0 : y = ByteArray.empty
  · subst h0
    have hE := e_list
    have HO : Hid (T = o) := by show T = o; rw [← ho, ← HT.out]; unfold lj; rw [if_pos rfl]
    clear ho
    go_enter Tryz.func249, Tryz.ntmps249
    go_wp2_with fail
    refine cR.mono ?_
    rintro e w1 ⟨rfl, hb1⟩
    clear cR
    go_wp2_with fail
    go_ret
    exact ⟨ret_str HO.out, hb1⟩
  · have hN := ne_list h0
    have HL : Hid ((if (farS x || farS y) = true then brks (k + 1) else if k = 0 then b32 else brks k) = o) := by
      show _ = o
      rw [← ho]; unfold lj; rw [if_neg h0]
    clear ho h0
    cases hf : farS y with
    | true =>
      have HO : Hid (T ++ ⟨#[10]⟩ = o) := by show T ++ b10 = o; rw [← HL.out, hf, Bool.or_true, if_pos rfl, ← HT.out]; exact brks_snoc k
      clear HL
      go_enter Tryz.func249, Tryz.ntmps249
      go_wp2_with fail
      refine cR.mono ?_
      rintro e w1 ⟨rfl, hb1⟩
      clear cR
      have cF := far_any y w1 true hf.symm
      clear hf
      go_wp2_with fail
      refine cF.mono ?_
      rintro e w2 ⟨rfl, hb2⟩
      clear cF
      go_wp2_with fail
      go_ret
      exact ⟨ret_str HO.out, hb1.trans (hb2.mono hb1.size)⟩
    | false =>
      cases hx : farS x with
      | true =>
        have HO : Hid (T ++ ⟨#[10]⟩ = o) := by show T ++ b10 = o; rw [← HL.out, hx, Bool.true_or, if_pos rfl, ← HT.out]; exact brks_snoc k
        clear HL
        go_enter Tryz.func249, Tryz.ntmps249
        go_wp2_with fail
        refine cR.mono ?_
        rintro e w1 ⟨rfl, hb1⟩
        clear cR
        have cF := far_any y w1 false hf.symm
        clear hf
        go_wp2_with fail
        refine cF.mono ?_
        rintro e w2 ⟨rfl, hb2⟩
        clear cF
        have cF := far_any x w2 true hx.symm
        clear hx
        go_wp2_with fail
        refine cF.mono ?_
        rintro e w3 ⟨rfl, hb3⟩
        clear cF
        go_wp2_with fail
        go_ret
        have hB2 : Below w.heap.size w w2 := hb1.trans (hb2.mono hb1.size)
        exact ⟨ret_str HO.out, hB2.trans (hb3.mono hB2.size)⟩
      | false =>
        have HL2 : Hid ((if k = 0 then b32 else T) = o) := by show _ = o; rw [← HL.out, hx, hf, ← HT.out]; rfl
        clear HL
        by_cases hk0 : k = 0
        · have hk' : ((k : Int) == 0) = true := by rw [hk0]; rfl
          have HO : Hid (⟨#[32]⟩ = o) := by show b32 = o; rw [← HL2.out, if_pos hk0]
          clear HL2 hk0
          go_enter Tryz.func249, Tryz.ntmps249
          go_wp2_with fail
          refine cR.mono ?_
          rintro e w1 ⟨rfl, hb1⟩
          clear cR
          have cF := far_any y w1 false hf.symm
          clear hf
          go_wp2_with fail
          refine cF.mono ?_
          rintro e w2 ⟨rfl, hb2⟩
          clear cF
          have cF := far_any x w2 false hx.symm
          clear hx
          go_wp2_with fail
          refine cF.mono ?_
          rintro e w3 ⟨rfl, hb3⟩
          clear cF
          go_wp2_with fail
          go_ret
          have hB2 : Below w.heap.size w w2 := hb1.trans (hb2.mono hb1.size)
          exact ⟨ret_str HO.out, hB2.trans (hb3.mono hB2.size)⟩
        · have hk' : ((k : Int) == 0) = false := by rw [beq_eq_false_iff_ne]; omega
          have HO : Hid (T = o) := by show T = o; rw [← HL2.out, if_neg hk0]
          clear HL2 hk0
          go_enter Tryz.func249, Tryz.ntmps249
          go_wp2_with fail
          refine cR.mono ?_
          rintro e w1 ⟨rfl, hb1⟩
          clear cR
          have cF := far_any y w1 false hf.symm
          clear hf
          go_wp2_with fail
          refine cF.mono ?_
          rintro e w2 ⟨rfl, hb2⟩
          clear cF
          have cF := far_any x w2 false hx.symm
          clear hx
          go_wp2_with fail
          refine cF.mono ?_
          rintro e w3 ⟨rfl, hb3⟩
          clear cF
          go_wp2_with fail
          go_ret
          have hB2 : Below w.heap.size w w2 := hb1.trans (hb2.mono hb1.size)
          exact ⟨ret_str HO.out, hB2.trans (hb3.mono hB2.size)⟩
end Go.Proofs.YtjpcmmfmdoglkalGreatDoor
/- impl.FoldFlow answers foldFlow. -/
namespace Go.Proofs.YtjpcmmfmdoglkalGreatDoor
open Go.ChangeShapes Go.WideShapes Go.ChangeAt Go.RowKit
theorem ff_joint {L k n : Nat} {x : ByteArray} {gx : Bool} {t : List Pc} {out : ByteArray} {g : Bool} (h0 : 0 < k) (h : ¬ (k + 1 < L ∧ x = ByteArray.empty ∧ gx = false)) :
    ffGo L k ((x, gx) :: t) out n g = ffGo L (k + 1) t (out ++ pj n g ++ x) 0 gx := by
  rw [ff_take (fun hh => h hh.2)]
  congr 2
  unfold pj
  by_cases hn : n = 0
  · subst hn
    cases g with
    | true => rw [if_neg (by simp), if_neg (by omega), if_pos rfl]; rfl
    | false => rw [if_pos ⟨h0, rfl, rfl⟩, if_neg (by omega), if_neg (by simp)]; exact app_empty _
  · rw [if_neg (by simp [hn]), if_pos (by omega)]
/-- A piece of the call's own. -/
def PcAt (b : Nat) (t : ByteArray) (g : Bool) (w : World) : Prop := w.heap[b]? = some (.cells #[.string t, .bool g] 92 (0, 0))
theorem PcAt.c0 {b : Nat} {t : ByteArray} {g : Bool} {w : World} (h : PcAt b t g w) : w.cell? ⟨b, 0, none⟩ = some (.string t) := by rw [Lib.cell_of_heap h]; rfl
theorem PcAt.c1 {b : Nat} {t : ByteArray} {g : Bool} {w : World} (h : PcAt b t g w) : w.cell? ⟨b, 1, none⟩ = some (.bool g) := by rw [Lib.cell_of_heap h]; rfl
theorem PcAt.kept {b B : Nat} {t : ByteArray} {g : Bool} {w w' : World} (h : PcAt b t g w) (hk : Lib.OthersKept 5 (some B) w w') (hne : b ≠ B) : PcAt b t g w' :=
  hk b _ h (fun e => hne (by injection e)) (fun c fz e => by injection e with _ e _; exact absurd e (by decide))
theorem PcAt.stays {b : Nat} {t : ByteArray} {g : Bool} {w w' : World} (h : PcAt b t g w) (hb : Below w.heap.size w w') : PcAt b t g w' :=
  (hb.block b (Array.getElem?_eq_some_iff.1 h).1).trans h
theorem PcAt.fz {b : Nat} {t : ByteArray} {g : Bool} {w : World} (h : PcAt b t g w) (j : Nat) : w.frozen? ⟨b, j, none⟩ = false := Lib.frozen_of_heap h j
theorem PcAt.put {b : Nat} {t t' : ByteArray} {g g' : Bool} {w : World} (h : PcAt b t g w) : PcAt b t' g' ((w.setCell ⟨b, 0, none⟩ (.string t')).setCell ⟨b, 1, none⟩ (.bool g')) := by
  unfold PcAt at h ⊢
  simp [World.setCell, Array.getElem?_modify, h]
theorem Bd.put {B b c : Nat} {o : ByteArray} {t : ByteArray} {g : Bool} {w : World} {x y : Value} (h : Bd B b o w) (hp : PcAt c t g w) (hcb : c ≠ b) : Bd B b o ((w.setCell ⟨c, 0, none⟩ x).setCell ⟨c, 1, none⟩ y) := by
  have one : ∀ p, Lib.BuilderAtF 186 5 B b p (Lib.byteCells o.data.toList) w → Lib.BuilderAtF 186 5 B b p (Lib.byteCells o.data.toList) ((w.setCell ⟨c, 0, none⟩ x).setCell ⟨c, 1, none⟩ y) := by
    intro p hb
    obtain ⟨hB, v, hk, hown, hne⟩ := hb
    have hv : v.ownBlock ≠ some c := Lib.ownBlock_neF hown hp (by decide)
    have hg : ∀ k, k ≠ c → ((w.setCell ⟨c, 0, none⟩ x).setCell ⟨c, 1, none⟩ y).heap[k]? = w.heap[k]? := fun k hk => by
      rw [Below.heap_setCell _ _ _ _ (fun e => hk (by simp [e])), Below.heap_setCell _ _ _ _ (fun e => hk (by simp [e]))]
    exact ⟨hB, v, (hg b (fun e => hcb e.symm)).trans hk, hown.kept (row := some c) ⟨rfl, rfl, rfl, by simp [World.setCell], fun k _ hk => hg k (fun e => hk (by rw [e]))⟩ (Or.inr hv), hne⟩
  exact h.elim (fun x => .inl (one _ x)) (fun x => .inr (one _ x))
set_option maxHeartbeats 8000000 in
theorem implFf : ImplFf := by
  intro w v ps hV hl
  obtain ⟨a, c, rfl⟩ := hV.sl
  by_cases hz : ps = []
  · subst hz
    have HO : Hid (ByteArray.empty = foldFlow []) := rfl
    clear hV hl
    go_enter Tryz.func161, Tryz.ntmps161
    go_wp2_with fail
    go_ret
    exact ⟨ret_str HO.out, Below.refl _ _⟩
  have HV : Hid (SlC w (.slice a ps.length c) ps) := hV
  have hL : ps.length ≤ 8388608 := by omega
  have HT : Hid (totC ps ≤ 8388608) := by show totC ps ≤ 8388608; omega
  have hpos : 0 < ps.length := List.length_pos_iff.2 hz
  obtain ⟨R, hR⟩ : ∃ R, foldFlow ps = R := ⟨_, rfl⟩
  rw [hR]
  obtain ⟨⟨t0, g0⟩, hx0⟩ : ∃ h, ps[0]? = some h := ⟨_, List.getElem?_eq_getElem hpos⟩
  have HR : Hid (ffGo ps.length 1 (ps.drop 1) t0 0 g0 = R) := by
    show ffGo ps.length 1 (ps.drop 1) t0 0 g0 = R
    rw [← hR]
    unfold foldFlow
    have hd : ps = (t0, g0) :: ps.drop 1 := by
      have := drop_pc hx0
      rwa [List.drop_zero] at this
    have : ∀ q : List Pc, q = (t0, g0) :: ps.drop 1 → ffGo ps.length 0 q ByteArray.empty 0 false = ffGo ps.length 1 (ps.drop 1) t0 0 g0 := by
      intro q hq
      rw [hq, ff_take (by omega), if_neg (by omega)]
      show ffGo ps.length (0 + 1) _ (ByteArray.empty ++ ByteArray.empty ++ t0) 0 g0 = _
      rw [empty_app, empty_app]
    exact (this ps hd).symm
  have ht0 : t0.size ≤ totC (ps.take 1) := by
    rw [totC_take hx0]; show t0.size ≤ _ + t0.size; omega
  have HT0 : Hid (t0.size + 0 ≤ totC (ps.take 1) + 2 * 1) := by show t0.size + 0 ≤ totC (ps.take 1) + 2 * 1; omega
  have ht0s : t0.size ≤ 8388608 := by have := totC_mem (List.mem_of_getElem? hx0); have := HT.out; simp at *; omega
  have hB1 : Below w.heap.size w (w.alloc (.cells #[.pointer none, .slice none 0 0] 186)) := (Below.refl _ w).alloc (Nat.le_refl _) _
  obtain ⟨b, off, rfl, c1, c2⟩ := HV.out.cells hB1 hx0
  rw [Nat.zero_mul, Nat.add_zero] at c1
  rw [Nat.zero_mul, Nat.add_zero] at c2
  have hne : ((ps.length : Int) == 0) = false := by rw [beq_eq_false_iff_ne]; omega
  have hpos' : (0 : Int) < (ps.length : Int) := by omega
  have HBF : Hid (Bd w.heap.size w.heap.size ByteArray.empty (w.alloc (.cells #[.pointer none, .slice none 0 0] 186))) := Bd.fresh w
  have HB1 : Hid (Below w.heap.size w (w.alloc (.cells #[.pointer none, .slice none 0 0] 186))) := hB1
  clear hV hl hR hx0 ht0 hB1
  go_enter Tryz.func161, Tryz.ntmps161
  go_wp2_with fail
  have hBa : Below w.heap.size w ((w.alloc (.cells #[.pointer none, .slice none 0 0] 186)).alloc (.cells #[.string t0, .bool g0] 92)) := HB1.out.alloc HB1.out.size _
  refine (write_any w.heap.size w.heap.size ByteArray.empty t0 _ (HBF.out.stays ((Below.refl _ _).alloc (Nat.le_refl _) _)) (by show 0 + t0.size ≤ _; omega) hBa.size).mono ?_
  rintro e w1 ⟨rfl, hD1, hb1, hk1⟩
  have hP1 : PcAt (w.heap.size + 1) t0 g0 w1 := by
    refine PcAt.kept ?_ hk1 (by omega)
    have h := heap_alloc_new (w.alloc (.cells #[.pointer none, .slice none 0 0] 186)) (.cells #[.string t0, .bool g0] 92)
    rw [show (w.alloc (.cells #[.pointer none, .slice none 0 0] 186)).heap.size = w.heap.size + 1 by simp] at h
    exact h
  rw [empty_app] at hD1
  have HD1 : Hid (Bd w.heap.size w.heap.size t0 w1) := hD1
  have HP1 : Hid (PcAt (w.heap.size + 1) t0 g0 w1) := hP1
  have HBb1 : Hid (Below w.heap.size w w1) := hBa.trans hb1
  clear hD1 hP1 hb1 hk1 hBa HBF HB1 c1 c2 hne
  go_wp2_with fail
  go_loopw [5, 6] (fun nv iv wr => ∃ (k n : Nat) (g : Bool) (t out : ByteArray), 1 ≤ k ∧ k ≤ ps.length ∧ iv = .int .i64 k ∧ nv = .int .i64 n ∧ Hid (Bd w.heap.size w.heap.size out wr) ∧ Hid (PcAt (w.heap.size + 1) t g wr) ∧ Hid (ffGo ps.length k (ps.drop k) out n g = R) ∧ Hid (out.size + n ≤ totC (ps.take k) + 2 * k) ∧ Hid (Below w.heap.size w wr)) (fun _ iv _ => ps.length - (intOf iv).toNat)
  case atStart => exact ⟨1, 0, g0, t0, t0, Nat.le_refl _, hpos, by go_num, by go_num, HD1, HP1, HR, HT0, HBb1⟩
  case round =>
    obtain ⟨k, n, g, t, out, h1k, hk, rfl, rfl, HD, HP, HG, HS, HB⟩ := hrel
    by_cases hlt : k < ps.length
    · obtain ⟨⟨x, gx⟩, hx⟩ : ∃ h, ps[k]? = some h := ⟨_, List.getElem?_eq_getElem hlt⟩
      obtain ⟨b', off', hbo, c1, c2⟩ := HV.out.cells HB.out hx
      injection hbo with hbo
      injection hbo with e1 e2 e3
      subst e1
      subst e2
      have hlt' : (k : Int) < (ps.length : Int) := by omega
      have HX : Hid (ps[k]? = some (x, gx)) := hx
      have HTT : Hid (totC (ps.take (k + 1)) = totC (ps.take k) + x.size) := totC_take hx
      have hxs : x.size ≤ 8388608 := by have := totC_mem (List.mem_of_getElem? hx); have := HT.out; simp at *; omega
      have hos : out.size + n ≤ 33554432 := by have h1 := HS.out; have h2 := totC_le ps k; have h3 := HT.out; omega
      have HDr : Hid (ps.drop k = (x, gx) :: ps.drop (k + 1)) := drop_pc hx
      clear hx
      by_cases hc : k + 1 < ps.length ∧ x = ByteArray.empty ∧ gx = false
      · obtain ⟨h1, rfl, rfl⟩ := hc
        have h1' : (k : Int) < (ps.length : Int) - 1 := by omega
        have hE := e_list
        have HG2 : Hid (ffGo ps.length (k + 1) (ps.drop (k + 1)) out (n + 1) g = R) := by
          show ffGo ps.length (k + 1) (ps.drop (k + 1)) out (n + 1) g = R
          rw [← HG.out, HDr.out, ff_skip h1k h1]
        have HS2 : Hid (out.size + (n + 1) ≤ totC (ps.take (k + 1)) + 2 * (k + 1)) := by
          have := HS.out; have := HTT.out
          show out.size + (n + 1) ≤ _
          omega
        clear HG HS HTT HDr
        go_wp2_with fail
        go_roundw
        case rel => exact ⟨k + 1, n + 1, g, t, out, by omega, hlt, by go_num, by go_num, HD, HP, HG2, HS2, HB⟩
        case measure => simp [intOf]; omega
      · have HG2 : Hid (ffGo ps.length (k + 1) (ps.drop (k + 1)) (out ++ pj n g ++ x) 0 gx = R) := by
          show ffGo ps.length (k + 1) (ps.drop (k + 1)) (out ++ pj n g ++ x) 0 gx = R
          rw [← HG.out, HDr.out, ff_joint h1k hc]
        have hway : x ≠ ByteArray.empty ∨ (x = ByteArray.empty ∧ gx = true) ∨ (x = ByteArray.empty ∧ gx = false ∧ ¬ (k : Int) < (ps.length : Int) - 1) := by
          by_cases h2 : x = ByteArray.empty
          · cases gx with
            | true => exact .inr (.inl ⟨h2, rfl⟩)
            | false => exact .inr (.inr ⟨h2, rfl, fun h => hc ⟨by omega, h2, rfl⟩⟩)
          · exact .inl h2
        have hjs := pj_size n g
        obtain ⟨J, hJ⟩ : ∃ J, pj n g = J := ⟨_, rfl⟩
        have HJ : Hid (pj n g = J) := hJ
        rw [hJ] at HG2 hjs
        have HS2 : Hid ((out ++ J ++ x).size + 0 ≤ totC (ps.take (k + 1)) + 2 * (k + 1)) := by
          have := HS.out; have := HTT.out
          show (out ++ J ++ x).size + 0 ≤ _
          rw [ByteArray.size_append, ByteArray.size_append]
          omega
        have HJS : Hid (out.size + J.size ≤ 33554433) := by show out.size + J.size ≤ 33554433; omega
        have c3 := HP.out.c0
        have c4 := HP.out.c1
        have hn : n ≤ 33554432 := by omega
        clear hJ hjs hc HG HS HTT HDr
        have tail : True := trivial
        rcases hway with hx0 | ⟨rfl, rfl⟩ | ⟨rfl, rfl, hx0⟩
        · have hE := ne_list hx0
          clear hx0
          go_wp2_with fail
          refine (pieceJoint_any t g n _ hn J HJ.out).mono ?_
          rintro e w2 ⟨rfl, hb2⟩
          have HD2 : Hid (Bd w.heap.size w.heap.size out w2) := HD.out.stays hb2
          have HP2 : Hid (PcAt (w.heap.size + 1) t g w2) := HP.out.stays hb2
          have HB2 : Hid (Below w.heap.size w w2) := HB.out.trans (hb2.mono HB.out.size)
          clear hb2 HD HP HB c1 c2 c3 c4
          go_wp2_with fail
          refine (write_any w.heap.size w.heap.size out J _ HD2.out (by have := HJS.out; omega) HB2.out.size).mono ?_
          rintro e w3 ⟨rfl, hD3, hb3, hk3⟩
          have HD3 : Hid (Bd w.heap.size w.heap.size (out ++ J) w3) := hD3
          have HP3 : Hid (PcAt (w.heap.size + 1) t g w3) := HP2.out.kept hk3 (by omega)
          have HB3 : Hid (Below w.heap.size w w3) := HB2.out.trans hb3
          obtain ⟨b', off', hbo, c1, c2⟩ := HV.out.cells HB3.out HX.out
          injection hbo with hbo
          injection hbo with e1 e2 e3
          subst e1
          subst e2
          clear hD3 hb3 hk3 HD2 HP2 HB2
          go_wp2_with fail
          refine (write_any w.heap.size w.heap.size (out ++ J) _ _ HD3.out (by rw [ByteArray.size_append]; have := HJS.out; omega) HB3.out.size).mono ?_
          rintro e w4 ⟨rfl, hD4, hb4, hk4⟩
          have HP4 : Hid (PcAt (w.heap.size + 1) t g w4) := HP3.out.kept hk4 (by omega)
          have HB4 : Hid (Below w.heap.size w w4) := HB3.out.trans hb4
          have HD4 : Hid (Bd w.heap.size w.heap.size (out ++ J ++ _) w4) := hD4
          clear c1 c2
          obtain ⟨b', off', hbo, c1, c2⟩ := HV.out.cells HB4.out HX.out
          injection hbo with hbo
          injection hbo with e1 e2 e3
          subst e1
          subst e2
          have c3 := HP4.out.c0
          have c4 := HP4.out.c1
          have f3 := HP4.out.fz 0
          have f4 := HP4.out.fz 1
          clear hD4 hb4 hk4 HD3 HP3 HB3
          go_wp2_with fail
          have HDn := HD4.out.put (x := .string x) (y := .bool gx) HP4.out (by omega)
          have HPn : PcAt (w.heap.size + 1) x gx _ := HP4.out.put
          have hBn : Below w.heap.size w ((w4.setCell ⟨w.heap.size + 1, 0, none⟩ (.string x)).setCell ⟨w.heap.size + 1, 1, none⟩ (.bool gx)) := (HB4.out.setCell (p := ⟨w.heap.size + 1, 0, none⟩) (by show w.heap.size ≤ w.heap.size + 1; omega) _).setCell (p := ⟨w.heap.size + 1, 1, none⟩) (by show w.heap.size ≤ w.heap.size + 1; omega) _
          go_roundw
          case rel =>
            go_light
            exact ⟨k + 1, 0, gx, x, _, by omega, hlt, by go_num, by go_num, HDn, HPn, HG2, HS2, hBn⟩
          case measure => go_light; simp [intOf]; omega
        · have hE := e_list
          go_wp2_with fail
          refine (pieceJoint_any t g n _ hn J HJ.out).mono ?_
          rintro e w2 ⟨rfl, hb2⟩
          have HD2 : Hid (Bd w.heap.size w.heap.size out w2) := HD.out.stays hb2
          have HP2 : Hid (PcAt (w.heap.size + 1) t g w2) := HP.out.stays hb2
          have HB2 : Hid (Below w.heap.size w w2) := HB.out.trans (hb2.mono HB.out.size)
          clear hb2 HD HP HB c1 c2 c3 c4
          go_wp2_with fail
          refine (write_any w.heap.size w.heap.size out J _ HD2.out (by have := HJS.out; omega) HB2.out.size).mono ?_
          rintro e w3 ⟨rfl, hD3, hb3, hk3⟩
          have HD3 : Hid (Bd w.heap.size w.heap.size (out ++ J) w3) := hD3
          have HP3 : Hid (PcAt (w.heap.size + 1) t g w3) := HP2.out.kept hk3 (by omega)
          have HB3 : Hid (Below w.heap.size w w3) := HB2.out.trans hb3
          obtain ⟨b', off', hbo, c1, c2⟩ := HV.out.cells HB3.out HX.out
          injection hbo with hbo
          injection hbo with e1 e2 e3
          subst e1
          subst e2
          clear hD3 hb3 hk3 HD2 HP2 HB2
          go_wp2_with fail
          refine (write_any w.heap.size w.heap.size (out ++ J) _ _ HD3.out (by rw [ByteArray.size_append]; have := HJS.out; omega) HB3.out.size).mono ?_
          rintro e w4 ⟨rfl, hD4, hb4, hk4⟩
          have HP4 : Hid (PcAt (w.heap.size + 1) t g w4) := HP3.out.kept hk4 (by omega)
          have HB4 : Hid (Below w.heap.size w w4) := HB3.out.trans hb4
          have HD4 : Hid (Bd w.heap.size w.heap.size (out ++ J ++ _) w4) := hD4
          clear c1 c2
          obtain ⟨b', off', hbo, c1, c2⟩ := HV.out.cells HB4.out HX.out
          injection hbo with hbo
          injection hbo with e1 e2 e3
          subst e1
          subst e2
          have c3 := HP4.out.c0
          have c4 := HP4.out.c1
          have f3 := HP4.out.fz 0
          have f4 := HP4.out.fz 1
          clear hD4 hb4 hk4 HD3 HP3 HB3
          go_wp2_with fail
          have HDn := HD4.out.put (x := .string ByteArray.empty) (y := .bool true) HP4.out (by omega)
          have HPn : PcAt (w.heap.size + 1) ByteArray.empty true _ := HP4.out.put
          have hBn : Below w.heap.size w ((w4.setCell ⟨w.heap.size + 1, 0, none⟩ (.string ByteArray.empty)).setCell ⟨w.heap.size + 1, 1, none⟩ (.bool true)) := (HB4.out.setCell (p := ⟨w.heap.size + 1, 0, none⟩) (by show w.heap.size ≤ w.heap.size + 1; omega) _).setCell (p := ⟨w.heap.size + 1, 1, none⟩) (by show w.heap.size ≤ w.heap.size + 1; omega) _
          go_roundw
          case rel =>
            go_light
            exact ⟨k + 1, 0, true, ByteArray.empty, _, by omega, hlt, by go_num, by go_num, HDn, HPn, HG2, HS2, hBn⟩
          case measure => go_light; simp [intOf]; omega
        · have hE := e_list
          go_wp2_with fail
          refine (pieceJoint_any t g n _ hn J HJ.out).mono ?_
          rintro e w2 ⟨rfl, hb2⟩
          have HD2 : Hid (Bd w.heap.size w.heap.size out w2) := HD.out.stays hb2
          have HP2 : Hid (PcAt (w.heap.size + 1) t g w2) := HP.out.stays hb2
          have HB2 : Hid (Below w.heap.size w w2) := HB.out.trans (hb2.mono HB.out.size)
          clear hb2 HD HP HB c1 c2 c3 c4
          go_wp2_with fail
          refine (write_any w.heap.size w.heap.size out J _ HD2.out (by have := HJS.out; omega) HB2.out.size).mono ?_
          rintro e w3 ⟨rfl, hD3, hb3, hk3⟩
          have HD3 : Hid (Bd w.heap.size w.heap.size (out ++ J) w3) := hD3
          have HP3 : Hid (PcAt (w.heap.size + 1) t g w3) := HP2.out.kept hk3 (by omega)
          have HB3 : Hid (Below w.heap.size w w3) := HB2.out.trans hb3
          obtain ⟨b', off', hbo, c1, c2⟩ := HV.out.cells HB3.out HX.out
          injection hbo with hbo
          injection hbo with e1 e2 e3
          subst e1
          subst e2
          clear hD3 hb3 hk3 HD2 HP2 HB2
          go_wp2_with fail
          refine (write_any w.heap.size w.heap.size (out ++ J) _ _ HD3.out (by rw [ByteArray.size_append]; have := HJS.out; omega) HB3.out.size).mono ?_
          rintro e w4 ⟨rfl, hD4, hb4, hk4⟩
          have HP4 : Hid (PcAt (w.heap.size + 1) t g w4) := HP3.out.kept hk4 (by omega)
          have HB4 : Hid (Below w.heap.size w w4) := HB3.out.trans hb4
          have HD4 : Hid (Bd w.heap.size w.heap.size (out ++ J ++ _) w4) := hD4
          clear c1 c2
          obtain ⟨b', off', hbo, c1, c2⟩ := HV.out.cells HB4.out HX.out
          injection hbo with hbo
          injection hbo with e1 e2 e3
          subst e1
          subst e2
          have c3 := HP4.out.c0
          have c4 := HP4.out.c1
          have f3 := HP4.out.fz 0
          have f4 := HP4.out.fz 1
          clear hD4 hb4 hk4 HD3 HP3 HB3
          go_wp2_with fail
          have HDn := HD4.out.put (x := .string ByteArray.empty) (y := .bool false) HP4.out (by omega)
          have HPn : PcAt (w.heap.size + 1) ByteArray.empty false _ := HP4.out.put
          have hBn : Below w.heap.size w ((w4.setCell ⟨w.heap.size + 1, 0, none⟩ (.string ByteArray.empty)).setCell ⟨w.heap.size + 1, 1, none⟩ (.bool false)) := (HB4.out.setCell (p := ⟨w.heap.size + 1, 0, none⟩) (by show w.heap.size ≤ w.heap.size + 1; omega) _).setCell (p := ⟨w.heap.size + 1, 1, none⟩) (by show w.heap.size ≤ w.heap.size + 1; omega) _
          go_roundw
          case rel =>
            go_light
            exact ⟨k + 1, 0, false, ByteArray.empty, _, by omega, hlt, by go_num, by go_num, HDn, HPn, HG2, HS2, hBn⟩
          case measure => go_light; simp [intOf]; omega
    · have hlt' : ¬ (k : Int) < (ps.length : Int) := by omega
      have HO : Hid (out = R) := by
        show out = R
        rw [← HG.out, show ps.drop k = [] from List.drop_eq_nil_of_le (by omega)]
        rfl
      clear HG HS
      go_wp2_with fail
      refine (string_any w.heap.size w.heap.size out _ HD.out HB.out.size).mono ?_
      rintro e w2 ⟨rfl, hb2⟩
      go_wp2_with fail
      go_ret
      exact ⟨ret_str HO.out, HB.out.trans hb2⟩
end Go.Proofs.YtjpcmmfmdoglkalGreatDoor
/- A step of the reader within single quotes. -/
namespace Go.Proofs.YtjpcmmfmdoglkalGreatDoor
open Go.ChangeShapes Go.WideShapes Go.ChangeAt Go.RowKit Go.Deep
def Rd (b : Nat) (s : ByteArray) (i : Nat) (l : List Pc) (cur : ByteArray) (fm : Nat) (w : World) : Prop :=
  RdM b s i l cur fm w ∧ s.size ≤ 1048576 ∧ i ≤ s.size ∧ fm ≤ cur.size ∧ totC l + l.length + cur.size ≤ 2 * i
/-- What a step leaves: it goes on, it was the closing quote, or there is a fault. -/
def SPost (G : Nat → List Pc → ByteArray → Nat → ByteArray × Nat × Nat) (J : Nat → Prop) (b : Nat) (s : ByteArray) (i : Nat) (l : List Pc) (cur : ByteArray) (fm : Nat) (w : World) (e : Ending) (w' : World) : Prop :=
  Fq b w w' ∧ ((e = .returned (.bool true) ∧ ∃ i' l' cur' fm', Rd b s i' l' cur' fm' w' ∧ i < i' ∧ J fm' ∧ G i' l' cur' fm' = G i l cur fm) ∨
    (e = .returned (.bool false) ∧ ∃ i', Rd b s i' l cur fm w' ∧ G i l cur fm = (foldFlow (l ++ [(cur, false)]), i', 0)) ∨
    (∃ c p, e = faultE c p ∧ c ≠ 0 ∧ G i l cur fm = (ByteArray.empty, p, c)))
def StepC (g : Nat) (V : World → Prop) (G : Nat → List Pc → ByteArray → Nat → ByteArray × Nat × Nat) (J : Nat → Prop) (s : ByteArray) : Prop :=
  ∀ (b i : Nat) (l : List Pc) (cur : ByteArray) (fm : Nat) (w : World), Rd b s i l cur fm w → J fm → V w →
    Calls Tryz.prog g #[.pointer (some ⟨b, 0, none⟩)] w fun e w' => SPost G J b s i l cur fm w e w'
def b2 (c d : Nat) : ByteArray := ⟨#[c.toUInt8, d.toUInt8]⟩
theorem b2_app (c d : Nat) : b1 c ++ b1 d = b2 c d := by
  apply ba_ext
  rw [ByteArray.data_append, Array.toList_append]
  rfl
theorem take2 (s : ByteArray) (p : Nat) (h : p + 1 < s.size) : (s.extract p s.size).extract 0 2 = b2 (bt s p) (bt s (p + 1)) := by
  have e : (s.extract p s.size).extract 0 2 = s.extract p (p + 1 + 1) := by
    apply ba_ext
    simp only [ByteArray.data_extract, Array.toList_extract, List.extract_eq_take_drop, List.drop_zero]
    rw [List.take_take]
    congr 1
    omega
  rw [e, extract_snoc s p (p + 1) (by omega) h, extract_snoc s p p (Nat.le_refl _) (by omega), extract_same]
  have h0 : ByteArray.empty ++ b1 (bt s p) = b1 (bt s p) := by
    apply ba_ext
    rw [ByteArray.data_append, Array.toList_append]
    rfl
  rw [h0, b2_app]
theorem b2_inj {x y c d : Nat} (hx : x < 256) (hy : y < 256) (hc : c < 256) (hd : d < 256) (h : b2 x y = b2 c d) : x = c ∧ y = d := by
  unfold b2 at h
  injection h with h
  have h2 : x.toUInt8 = c.toUInt8 ∧ y.toUInt8 = d.toUInt8 := by simpa using h
  have e : ∀ z, z < 256 → (z.toUInt8).toNat = z := fun z hz => by show (UInt8.ofNat z).toNat = z; rw [UInt8.toNat_ofNat']; omega
  have h3 := congrArg UInt8.toNat h2.1
  have h4 := congrArg UInt8.toNat h2.2
  rw [e _ hx, e _ hc] at h3
  rw [e _ hy, e _ hd] at h4
  exact ⟨h3, h4⟩
theorem pre2 (s : ByteArray) (p c d : Nat) (hp : p ≤ s.size) (hc : c < 256) (hd : d < 256) : pre (s.extract p s.size) (b2 c d) = decide (p + 1 < s.size ∧ bt s p = c ∧ bt s (p + 1) = d) := by
  have hz : (s.extract p s.size).size = s.size - p := by rw [ByteArray.size_extract]; omega
  have h2 : (b2 c d).size = 2 := rfl
  unfold pre
  rw [hz, h2, Bool.eq_iff_iff, decide_eq_true_eq, decide_eq_true_eq]
  constructor
  · intro h
    have hl : p + 1 < s.size := by omega
    rw [take2 s p hl] at h
    exact ⟨hl, b2_inj (bt_lt _ _) (bt_lt _ _) hc hd h.2⟩
  · intro h
    exact ⟨by omega, by rw [take2 s p h.1, h.2.1, h.2.2]⟩
theorem pre1_yes {s : ByteArray} {p c : Nat} (h : p < s.size) (hc : c < 256) (e : bt s p = c) : pre (s.extract p s.size) (b1 c) = true := by
  rw [pre1 s p c (Nat.le_of_lt h) hc, decide_eq_true h, e]
  simp
theorem pre1_no {s : ByteArray} {p c : Nat} (hp : p ≤ s.size) (hc : c < 256) (h : ¬ (p < s.size ∧ bt s p = c)) : pre (s.extract p s.size) (b1 c) = false := by
  rw [pre1 s p c hp hc]
  by_cases h' : p < s.size
  · rw [decide_eq_true h', Bool.true_and, beq_eq_false_iff_ne]
    exact fun e => h ⟨h', e⟩
  · rw [decide_eq_false h', Bool.false_and]
theorem pre2_yes {s : ByteArray} {p c d : Nat} (h : p + 1 < s.size) (hc : c < 256) (hd : d < 256) (e : bt s p = c) (e2 : bt s (p + 1) = d) : pre (s.extract p s.size) (b2 c d) = true := by
  rw [pre2 s p c d (by omega) hc hd, decide_eq_true_eq]
  exact ⟨h, e, e2⟩
theorem pre2_no {s : ByteArray} {p c d : Nat} (hp : p ≤ s.size) (hc : c < 256) (hd : d < 256) (h : ¬ (p + 1 < s.size ∧ bt s p = c ∧ bt s (p + 1) = d)) : pre (s.extract p s.size) (b2 c d) = false := by
  rw [pre2 s p c d hp hc hd, decide_eq_false_iff_not]
  exact h
/-- The place goes one on. -/
theorem rd_step {b : Nat} {s : ByteArray} {i j : Nat} {l : List Pc} {cur : ByteArray} {fm : Nat} {w : World} (h : RdM b s i l cur fm w) (v : Int) (hv : v = (j : Int)) : RdM b s j l cur fm (w.setCell ⟨b, 1, none⟩ (.int .i64 v)) := by
  subst hv
  obtain ⟨la, ln, lc, ca, cn, cc, h1, h2, h3⟩ := h
  exact ⟨la, ln, lc, ca, cn, cc, h1.set1 j, row_past h2, row_past h3⟩
theorem rd_c1 {b : Nat} {s : ByteArray} {i : Nat} {l : List Pc} {cur : ByteArray} {fm : Nat} {w : World} (h : RdM b s i l cur fm w) : w.cell? ⟨b, 1, none⟩ = some (.int .i64 (i : Int)) ∧ w.frozen? ⟨b, 1, none⟩ = false := by
  obtain ⟨la, ln, lc, ca, cn, cc, h1, _, _⟩ := h
  exact ⟨h1.c1, h1.fz 1⟩
def p39 (c : Nat) : Bool := c == 39 || c == 10
theorem p39_signs : SignsQ p39 ((⟨#[39]⟩ : ByteArray) ++ ByteArray.mk #[10]) := by
  intro x hx
  show p39 x = [39, 10].contains x.toUInt8
  rw [List.contains_cons, List.contains_cons, List.contains_nil, u8_eq hx, u8_eq hx, Bool.or_false]
  rfl
def q39 (c : Nat) : Bool := !p39 c
def Gs (s : ByteArray) (i : Nat) (l : List Pc) (cur : ByteArray) (_ : Nat) : ByteArray × Nat × Nat := sgR s i l cur
set_option maxHeartbeats 4000000 in
theorem singleStep_any (s : ByteArray) : StepC 123 (fun _ => True) (Gs s) (fun fm => fm = 0) s := by
  intro b i l cur fm w hR hJ _
  obtain ⟨hR, hs, hi, hf, ht⟩ := hR
  subst hJ
  have hlt := hR.lt
  have HLT : Hid (b < w.heap.size) := hlt
  have HR : Hid (RdM b s i l cur 0 w) := hR
  have HH : Hid (s.size ≤ 1048576 ∧ i ≤ s.size ∧ totC l + l.length + cur.size ≤ 2 * i) := ⟨hs, hi, ht⟩
  have hi' : (i : Int) ≤ (s.size : Int) := by omega
  have hs' : (s.size : Int) ≤ 1048576 := by omega
  by_cases h39 : i < s.size ∧ bt s i = 39
  · have HP1 : Hid (pre (s.extract i s.size) ⟨#[39]⟩ = true) := pre1_yes (c := 39) h39.1 (by decide) h39.2
    by_cases hnx : i + 1 < s.size ∧ bt s (i + 1) = 39
    · have HP2 : Hid (pre (s.extract i s.size) ⟨#[39, 39]⟩ = true) := pre2_yes (c := 39) (d := 39) hnx.1 (by decide) (by decide) h39.2 hnx.2
      have HG : Hid (Gs s (i + 2) l (cur ++ b1 39) 0 = Gs s i l cur 0) := (sgR_two h39.1 h39.2 hnx.1 hnx.2).symm
      have HNX : Hid (i + 1 < s.size) := hnx.1
      clear h39 hnx hR hf ht hlt hs hi
      go_enter Tryz.func123, Tryz.ntmps123
      go_wp2_with fail
      refine (sees_any b s ⟨#[39, 39]⟩ i l cur 0 w HR.out HH.out.2.1 true HP2.out.symm).mono ?_
      rintro e w1 ⟨rfl, hb1⟩
      have HR1 : Hid (RdM b s i l cur 0 w1) := HR.out.stays hb1
      have HB1 : Hid (Fq b w w1) := Fq.of hb1 HLT.out
      obtain ⟨c1, g1⟩ := rd_c1 HR1.out
      clear hb1
      go_wp2_with fail
      have cP := put_any b s ⟨#[39]⟩ i (i + 2) l cur 0 w1 HR1.out (by have := HH.out; show cur.size + 1 ≤ _; omega)
      refine Calls.mono cP ?_
      rintro e w2 ⟨rfl, hR2, hb2⟩
      have HO : Hid (SPost (Gs s) (fun fm => fm = 0) b s i l cur 0 w (.returned (.bool true)) w2) := by
        refine ⟨HB1.out.trans hb2, .inl ⟨rfl, i + 2, l, cur ++ b1 39, 0, ⟨hR2, HH.out.1, HNX.out, Nat.zero_le _, ?_⟩, by omega, rfl, HG.out⟩⟩
        rw [ByteArray.size_append, b1_size]
        have := HH.out
        omega
      clear cP hR2 hb2 c1 g1
      go_wp2_with fail
      go_ret
      exact HO.out
    · have HP2 : Hid (pre (s.extract i s.size) ⟨#[39, 39]⟩ = false) := pre2_no (c := 39) (d := 39) hi (by decide) (by decide) (fun h => hnx ⟨h.1, h.2.2⟩)
      have HG : Hid (Gs s i l cur 0 = (foldFlow (l ++ [(cur, false)]), i + 1, 0)) := sgR_close h39.1 h39.2 hnx
      have HI : Hid (i < s.size) := h39.1
      clear h39 hnx hR hf ht hlt hs hi
      go_enter Tryz.func123, Tryz.ntmps123
      go_wp2_with fail
      refine (sees_any b s ⟨#[39, 39]⟩ i l cur 0 w HR.out HH.out.2.1 false HP2.out.symm).mono ?_
      rintro e w1 ⟨rfl, hb1⟩
      have HR1 : Hid (RdM b s i l cur 0 w1) := HR.out.stays hb1
      have HB1 : Hid (Fq b w w1) := Fq.of hb1 HLT.out
      have HLT1 : Hid (b < w1.heap.size) := HR1.out.lt
      clear hb1
      go_wp2_with fail
      refine (sees_any b s ⟨#[39]⟩ i l cur 0 w1 HR1.out HH.out.2.1 true HP1.out.symm).mono ?_
      rintro e w2 ⟨rfl, hb2⟩
      have HR2 : Hid (RdM b s i l cur 0 w2) := HR1.out.stays hb2
      have HB2 : Hid (Fq b w w2) := HB1.out.trans (Fq.of hb2 HLT1.out)
      obtain ⟨c1, g1⟩ := rd_c1 HR2.out
      have HO : Hid (SPost (Gs s) (fun fm => fm = 0) b s i l cur 0 w (.returned (.bool false)) (w2.setCell ⟨b, 1, none⟩ (.int .i64 ((i : Int) + 1)))) := by
        refine ⟨HB2.out.setB _ _, .inr (.inl ⟨rfl, i + 1, ⟨rd_step HR2.out _ (by omega), HH.out.1, HI.out, Nat.zero_le _, ?_⟩, HG.out⟩)⟩
        have := HH.out
        omega
      clear hb2
      go_wp2_with fail
      go_ret
      exact HO.out
  · have HP1 : Hid (pre (s.extract i s.size) ⟨#[39]⟩ = false) := pre1_no (c := 39) hi (by decide) h39
    have HP2 : Hid (pre (s.extract i s.size) ⟨#[39, 39]⟩ = false) := pre2_no (c := 39) (d := 39) hi (by decide) (by decide) (fun h => h39 ⟨by omega, h.2.1⟩)
    have H39 : Hid (¬ (i < s.size ∧ bt s i = 39)) := h39
    clear hR hf ht hlt hs hi h39
    go_enter Tryz.func123, Tryz.ntmps123
    go_wp2_with fail
    refine (sees_any b s ⟨#[39, 39]⟩ i l cur 0 w HR.out HH.out.2.1 false HP2.out.symm).mono ?_
    rintro e w1 ⟨rfl, hb1⟩
    have HR1 : Hid (RdM b s i l cur 0 w1) := HR.out.stays hb1
    have HB1 : Hid (Fq b w w1) := Fq.of hb1 HLT.out
    have HLT1 : Hid (b < w1.heap.size) := HR1.out.lt
    clear hb1
    go_wp2_with fail
    refine (sees_any b s ⟨#[39]⟩ i l cur 0 w1 HR1.out HH.out.2.1 false HP1.out.symm).mono ?_
    rintro e w2 ⟨rfl, hb2⟩
    have HR2 : Hid (RdM b s i l cur 0 w2) := HR1.out.stays hb2
    have HB2 : Hid (Fq b w w2) := HB1.out.trans (Fq.of hb2 HLT1.out)
    clear hb2
    go_wp2_with fail
    have hfacts := HH.out
    by_cases hend : i = s.size
    · subst hend
      refine (common_end b s ⟨#[39]⟩ l cur 0 w2 HR2.out).mono ?_
      rintro e w3 ⟨rfl, hb3⟩
      have HO : Hid (SPost (Gs s) (fun fm => fm = 0) b s s.size l cur 0 w (faultE 3 s.size) w3) := ⟨HB2.out.trans hb3, .inr (.inr ⟨3, s.size, rfl, by decide, sgR_end (Nat.le_refl _)⟩)⟩
      unfold faultE
      exact ⟨rfl, HO.out⟩
    · have hil : i < s.size := by omega
      by_cases h10 : bt s i = 10
      · refine (common_turn b s ⟨#[39]⟩ i l cur 0 w2 HR2.out hfacts.1 hil h10 (by omega) (Nat.zero_le _) (by omega)).mono ?_
        intro e w3 hT
        unfold TurnPost at hT
        by_cases hm : 0 < markN s (i + 1)
        · rw [if_pos hm] at hT
          obtain ⟨rfl, hb3⟩ := hT
          have HO : Hid (SPost (Gs s) (fun fm => fm = 0) b s i l cur 0 w (faultE 4 (i + 1)) w3) := ⟨HB2.out.trans hb3, .inr (.inr ⟨4, i + 1, rfl, by decide, sgR_mark hil h10 hm⟩)⟩
          unfold faultE
          exact ⟨rfl, HO.out⟩
        · rw [if_neg hm] at hT
          obtain ⟨rfl, hR3, hb3⟩ := hT
          have hw1 := wh_ge s (i + 1)
          have hw2 := wh_le s (i + 1) (by omega)
          have hcz := cutB_size cur 0
          have HO : Hid (SPost (Gs s) (fun fm => fm = 0) b s i l cur 0 w (.returned (.bool true)) w3) := by
            refine ⟨HB2.out.trans hb3, .inl ⟨rfl, _, _, _, 0, ⟨hR3, hfacts.1, hw2, Nat.zero_le _, ?_⟩, by omega, rfl, (sgR_line hil h10 hm).symm⟩⟩
            rw [totC_snoc, List.length_append]
            show totC l + (cutB cur 0).size + (l.length + 1) + 0 ≤ _
            omega
          clear hR3 hb3 hw1 hw2 hcz hm h10 hil hend hfacts
          go_wp2_with fail
          go_ret
          exact HO.out
      · obtain ⟨j, hj⟩ : ∃ j, fwd q39 s i = j := ⟨_, rfl⟩
        have hge : i ≤ j := by rw [← hj]; exact fwd_ge _ _ _
        have hle : j ≤ s.size := by rw [← hj]; exact fwd_le _ _ _ (Nat.le_of_lt hil)
        have hin := fwd_in q39 s i
        have hne : i < j := by
          rcases Nat.lt_or_ge i j with h | h
          · exact h
          · have hq : q39 (bt s i) = true := by
              unfold q39 p39
              have : bt s i ≠ 39 := fun e => H39.out ⟨hil, e⟩
              simp [this, h10]
            have h2 := fwd_step hil hq
            have h3 := fwd_ge q39 s (i + 1)
            omega
        refine (common_put b s ⟨#[39]⟩ i j l cur 0 w2 p39 q39 p39_signs (fun _ => rfl) hj HR2.out hfacts.1 hil h10 (by omega) (by decide)).mono ?_
        rintro e w3 ⟨rfl, hR3, hb3⟩
        have hchunk := sgR_chunk (s := s) (i := i) (l := l) (cur := cur) (j - i) (by omega) (fun k h1 h2 => by
          have h3 := hin k h1 (by rw [hj]; omega)
          unfold q39 p39 at h3
          simp at h3
          exact h3)
        rw [show i + (j - i) = j by omega] at hchunk
        have HO : Hid (SPost (Gs s) (fun fm => fm = 0) b s i l cur 0 w (.returned (.bool true)) w3) := by
          refine ⟨HB2.out.trans hb3, .inl ⟨rfl, j, l, _, 0, ⟨hR3, hfacts.1, hle, Nat.zero_le _, ?_⟩, hne, rfl, hchunk.symm⟩⟩
          rw [ByteArray.size_append, ByteArray.size_extract]
          omega
        clear hR3 hb3 hge hle hin hne hchunk hj h10 hil hend hfacts
        go_wp2_with fail
        go_ret
        exact HO.out
end Go.Proofs.YtjpcmmfmdoglkalGreatDoor
/- The contract of impl.quotedAt, over that of its step: the closure that reads, caught around it, and the face. -/
namespace Go.Proofs.YtjpcmmfmdoglkalGreatDoor
open Go.ChangeShapes Go.WideShapes Go.ChangeAt Go.RowKit Go.Deep
/-- The reader as it is made. -/
theorem rd_new (W : World) (s : ByteArray) (k : Nat) : RdM W.heap.size s k [] ByteArray.empty 0 (W.alloc (.cells #[.string s, .int .i64 (k : Int), .slice none 0 0, .slice none 0 0, .int .i64 0] 166)) :=
  ⟨none, 0, 0, none, 0, 0, heap_alloc_new W _, World.ownsRow_nil _ _ _ _, World.ownsRow_nil _ _ _ _⟩
def atOf (b : Nat) (w : World) : Nat := match w.cell? ⟨b, 1, none⟩ with
  | some (.int _ i) => i.toNat
  | _ => 0
theorem atOf_is {b : Nat} {s : ByteArray} {i : Nat} {l : List Pc} {cur : ByteArray} {fm : Nat} {w : World} (h : RdM b s i l cur fm w) : atOf b w = i := by
  unfold atOf
  rw [(rd_c1 h).1]
  simp
/-- A row stays where its own block stays. -/
theorem row_keep {w w' : World} {lo e sz : Nat} {v : Value} {n : Nat} {xs : List Value} (h : w.ownsRow lo e sz v n xs) (hk : ∀ k, v.ownBlock = some k → k < w.heap.size → w'.heap[k]? = w.heap[k]?) : w'.ownsRow lo e sz v n xs := by
  refine ⟨h.1, ?_⟩
  rcases h.2 with hn | ⟨g, cap, cur, rfl, hlo, hg, rest⟩
  · exact .inl hn
  · exact .inr ⟨g, cap, cur, rfl, hlo, by rw [hk g rfl (Array.getElem?_eq_some_iff.1 hg).1]; exact hg, rest⟩
theorem RdM.beside {a b : Nat} {s : ByteArray} {i : Nat} {l : List Pc} {cur : ByteArray} {fm : Nat} {W w' : World} (h : RdM b s i l cur fm W) (hs : Beside a W w') (hab : b ≠ a) {cs : Array Value} {r : Nat × Nat} (ha : W.heap[a]? = some (.cells cs 77 r)) : RdM b s i l cur fm w' := by
  obtain ⟨la, ln, lc, ca, cn, cc, h1, h2, h3⟩ := h
  refine ⟨la, ln, lc, ca, cn, cc, (hs.block b h1.lt hab).trans h1, row_keep h2 (fun k hk hlt => hs.block k hlt (fun e => ?_)), row_keep h3 (fun k hk hlt => hs.block k hlt (fun e => ?_))⟩
  · subst e
    exact row_not h2 ha (by decide) hk
  · subst e
    exact row_not h3 ha (by decide) hk
/-- The three variables that the closure reads: the reader's (behind it), the quote's and the step's (ahead of it). -/
structure Trio (g b q0 q1 : Nat) (qt : ByteArray) (w : World) : Prop where
  r : w.heap[b + 1]? = some (.cells #[.pointer (some ⟨b, 0, none⟩)] 164 (0, 0))
  q : w.heap[q0]? = some (.cells #[.string qt] 9 (0, 0))
  f : w.heap[q1]? = some (.cells #[.func (.func g) #[] #[]] 132 (0, 0))
  lq : q0 < b
  lf : q1 < b
theorem Trio.stays {g b q0 q1 : Nat} {qt : ByteArray} {w w' : World} (h : Trio g b q0 q1 qt w) (hf : Fq b w w') : Trio g b q0 q1 qt w' :=
  ⟨hf.keep _ _ _ _ (Nat.lt_succ_self b) h.r (by decide) (by decide), (hf.below.block _ h.lq).trans h.q, (hf.below.block _ h.lf).trans h.f, h.lq, h.lf⟩
/-- What the closure leaves. -/
def QPost (b : Nat) (s : ByteArray) (T : ByteArray) (E C : Nat) (w : World) (e : Ending) (W : World) : Prop :=
  Fq b w W ∧ ((e = .returned (.tuple #[]) ∧ ∃ i l cur fm, RdM b s i l cur fm W ∧ totC l + l.length + cur.size ≤ 4194304 ∧ (foldFlow (l ++ [(cur, false)]), i, 0) = (T, E, C)) ∨ (∃ c p : Nat, e = faultX c p ∧ c ≠ 0 ∧ (ByteArray.empty, p, c) = (T, E, C)))
set_option maxHeartbeats 8000000 in
theorem qclos_any (g : Nat) (eg : ∀ args w, (callFunc g args).run Tryz.prog w = .ok (.enter g args) w) (V : World → Prop) (G : Nat → List Pc → ByteArray → Nat → ByteArray × Nat × Nat) (J : Nat → Prop) (s qt : ByteArray) (b q0 q1 k : Nat) (w : World)
    (hstep : StepC g V G J s) (hJ : J 0) (hV : ∀ w', Below b w w' → V w') (hs : s.size ≤ 1048576) (hk : k ≤ s.size) (hR : RdM b s k [] ByteArray.empty 0 w) (hT : Trio g b q0 q1 qt w) (T : ByteArray) (E C : Nat)
    (hres : (if pre (s.extract k s.size) qt = true then G (k + 1) [] ByteArray.empty 0 else (ByteArray.empty, k, 10)) = (T, E, C)) (hq : pre (s.extract k s.size) qt = true → k < s.size) :
    Calls Tryz.prog 163 #[.pointer (some ⟨b + 1, 0, none⟩), .pointer (some ⟨q0, 0, none⟩), .pointer (some ⟨q1, 0, none⟩)] w fun e W => QPost b s T E C w e W := by
  have HST : Hid (StepC g V G J s) := hstep
  have HV : Hid (∀ w', Below b w w' → V w') := hV
  have HJ : Hid (J 0) := hJ
  have HRES : Hid ((if pre (s.extract k s.size) qt = true then G (k + 1) [] ByteArray.empty 0 else (ByteArray.empty, k, 10)) = (T, E, C)) := hres
  have HQ : Hid (pre (s.extract k s.size) qt = true → k < s.size) := hq
  have HT : Hid (Trio g b q0 q1 qt w) := hT
  have HR0 : Hid (RdM b s k [] ByteArray.empty 0 w) := hR
  have c1 := Lib.cell_of_heap hT.r 0
  have c2 := Lib.cell_of_heap hT.q 0
  clear hstep hV hJ hres hq hR hT
  go_enter Tryz.func163, Tryz.ntmps163
  go_wp2_with fail
  by_cases hp : pre (s.extract k s.size) qt = true
  · have hkl := HQ.out hp
    refine (open_yes b s qt k [] ByteArray.empty 0 w HR0.out hs hk hp).mono ?_
    rintro e w3 ⟨rfl, hR3, hb3⟩
    have HG : Hid (G (k + 1) [] ByteArray.empty 0 = (T, E, C)) := by show _ = _; have h := HRES.out; rw [if_pos hp] at h; exact h
    have HB3 : Hid (Fq b w w3) := hb3
    have HR3 : Hid (Rd b s (k + 1) [] ByteArray.empty 0 w3) := ⟨hR3, hs, hkl, Nat.zero_le _, Nat.zero_le _⟩
    clear hR3 hb3 hp HRES HQ HR0 hkl hk c1 c2
    go_wp2_with fail
    go_loopw [8] (fun _ wr => ∃ (i : Nat) (l : List Pc) (cur : ByteArray) (fm : Nat), Hid (Rd b s i l cur fm wr) ∧ Hid (J fm) ∧ Hid (G i l cur fm = (T, E, C)) ∧ Hid (Fq b w wr)) (fun _ wr => s.size + 1 - atOf b wr)
    case atStart => exact ⟨k + 1, [], ByteArray.empty, 0, HR3, HJ, HG, HB3⟩
    case round =>
      obtain ⟨i, l, cur, fm, HR, HJ1, HGi, HBr⟩ := hrel
      have hT := HT.out.stays HBr.out
      have c1 := Lib.cell_of_heap hT.r 0
      have c2 := Lib.cell_of_heap hT.f 0
      clear HR3 HJ HG HB3 hT
      go_wp2_with fail
      refine (HST.out b i l cur fm wr HR.out HJ1.out (HV.out _ HBr.out.below)).mono ?_
      rintro e w4 ⟨hb4, ⟨rfl, i', l', cur', fm', hR4, hii, hJ4, hG4⟩ | ⟨rfl, i', hR4, hG4⟩ | ⟨c, pl, rfl, hc0, hG4⟩⟩
      · have HN : Hid (Rd b s i' l' cur' fm' w4 ∧ J fm' ∧ G i' l' cur' fm' = (T, E, C) ∧ Fq b w w4) := ⟨hR4, hJ4, hG4.trans HGi.out, HBr.out.trans hb4⟩
        have HM : Hid (s.size + 1 - atOf b w4 < s.size + 1 - atOf b wr) := by
          show _ < _
          rw [atOf_is hR4.1, atOf_is HR.out.1]
          have := hR4.2.2.1
          omega
        clear hb4 hR4 hii hJ4 hG4 c1 c2
        go_wp2_with fail
        go_roundw
        case rel => exact ⟨i', l', cur', fm', HN.out.1, HN.out.2.1, HN.out.2.2.1, HN.out.2.2.2⟩
        case measure => exact HM.out
      · have HO : Hid (QPost b s T E C w (.returned (.tuple #[])) w4) := ⟨HBr.out.trans hb4, .inl ⟨rfl, i', l, cur, fm, hR4.1, by have h1 := hR4.2.1; have h2 := hR4.2.2.1; have h3 := hR4.2.2.2.2; omega, by rw [← hG4]; exact HGi.out⟩⟩
        clear hb4 hR4 hG4 c1 c2
        go_wp2_with fail
        go_end0
        exact HO.out
      · have HO : Hid (QPost b s T E C w (faultE c pl) w4) := ⟨HBr.out.trans hb4, .inr ⟨c, pl, rfl, hc0, by rw [← hG4]; exact HGi.out⟩⟩
        clear hb4 hG4 hc0 c1 c2
        unfold faultE
        exact ⟨rfl, HO.out⟩
  · have hp' : pre (s.extract k s.size) qt = false := by cases h : pre (s.extract k s.size) qt with
      | true => exact absurd h hp
      | false => rfl
    refine (open_no b s qt k [] ByteArray.empty 0 w HR0.out hk hp').mono ?_
    rintro e w3 ⟨rfl, hb3⟩
    have HO : Hid (QPost b s T E C w (faultE 10 k) w3) := ⟨Fq.of hb3 HR0.out.lt, .inr ⟨10, k, rfl, by decide, by have h := HRES.out; rw [if_neg hp] at h; exact h⟩⟩
    clear hb3 hp hp' HRES HQ HR0 hk c1 c2
    unfold faultE
    exact ⟨rfl, HO.out⟩
/-- What the closure leaves, in the words of caught's contract. -/
theorem qclos_caught (g : Nat) (eg : ∀ args w, (callFunc g args).run Tryz.prog w = .ok (.enter g args) w) (V : World → Prop) (G : Nat → List Pc → ByteArray → Nat → ByteArray × Nat × Nat) (J : Nat → Prop) (s qt : ByteArray) (q0 q1 k : Nat) (w1 : World)
    (hstep : StepC g V G J s) (hJ : J 0) (hV : ∀ w', Below w1.heap.size w1 w' → V w') (hs : s.size ≤ 1048576) (hk : k ≤ s.size) (T : ByteArray) (E C : Nat)
    (hres : (if pre (s.extract k s.size) qt = true then G (k + 1) [] ByteArray.empty 0 else (ByteArray.empty, k, 10)) = (T, E, C)) (hq : pre (s.extract k s.size) qt = true → k < s.size)
    (hq0 : w1.heap[q0]? = some (.cells #[.string qt] 9 (0, 0))) (hq1 : w1.heap[q1]? = some (.cells #[.func (.func g) #[] #[]] 132 (0, 0))) :
    Calls Tryz.prog 55 #[.func (.func 163) #[] #[.pointer (some ⟨w1.heap.size + 1, 0, none⟩), .pointer (some ⟨q0, 0, none⟩), .pointer (some ⟨q1, 0, none⟩)]]
      ((w1.alloc (.cells #[.string s, .int .i64 (k : Int), .slice none 0 0, .slice none 0 0, .int .i64 0] 166)).alloc (.cells #[.pointer (some ⟨w1.heap.size, 0, none⟩)] 164)) fun e w' =>
      Below w1.heap.size w1 w' ∧ w'.heap[w1.heap.size + 1]? = some (.cells #[.pointer (some ⟨w1.heap.size, 0, none⟩)] 164 (0, 0)) ∧
      ((e = .returned (.agg #[.int .i64 0, .int .i64 0]) ∧ ∃ i l cur fm, RdM w1.heap.size s i l cur fm w' ∧ totC l + l.length + cur.size ≤ 4194304 ∧ (foldFlow (l ++ [(cur, false)]), i, 0) = (T, E, C)) ∨
       (∃ c p : Nat, e = .returned (.agg #[.int .i64 (c : Int), .int .i64 (p : Int)]) ∧ c ≠ 0 ∧ (ByteArray.empty, p, c) = (T, E, C))) := by
  obtain ⟨b, hb⟩ : ∃ b, w1.heap.size = b := ⟨_, rfl⟩
  have l0 : q0 < b := by rw [← hb]; exact (Array.getElem?_eq_some_iff.1 hq0).1
  have l1 : q1 < b := by rw [← hb]; exact (Array.getElem?_eq_some_iff.1 hq1).1
  have hR0 := rd_new w1 s k
  rw [hb] at hR0
  obtain ⟨wA, hA⟩ : ∃ wA, w1.alloc (.cells #[.string s, .int .i64 (k : Int), .slice none 0 0, .slice none 0 0, .int .i64 0] 166) = wA := ⟨_, rfl⟩
  rw [hA] at hR0
  have hzA : wA.heap.size = b + 1 := by rw [← hA]; simp [hb]
  have bA : Below b w1 wA := by rw [← hA]; exact (Below.refl _ w1).alloc (by rw [hb]; exact Nat.le_refl _) _
  obtain ⟨wB, hB⟩ : ∃ wB, wA.alloc (.cells #[.pointer (some ⟨b, 0, none⟩)] 164) = wB := ⟨_, rfl⟩
  have hzB : wB.heap.size = b + 2 := by rw [← hB]; simp [hzA]
  have bB : Below wA.heap.size wA wB := by rw [← hB]; exact (Below.refl _ wA).alloc (Nat.le_refl _) _
  have hrB : wB.heap[b + 1]? = some (.cells #[.pointer (some ⟨b, 0, none⟩)] 164 (0, 0)) := by rw [← hB, ← hzA]; exact heap_alloc_new wA _
  obtain ⟨wC, hC⟩ : ∃ wC, wB.alloc (.cells #[.int .i64 0, .int .i64 0] 77) = wC := ⟨_, rfl⟩
  have bC : Below wB.heap.size wB wC := by rw [← hC]; exact (Below.refl _ wB).alloc (Nat.le_refl _) _
  have hfC : wC.heap[b + 2]? = some (.cells #[.int .i64 0, .int .i64 0] 77 (0, 0)) := by rw [← hC, ← hzB]; exact heap_alloc_new wB _
  have bAC : Below wA.heap.size wA wC := bB.trans (bC.mono (by omega))
  have b1C : Below b w1 wC := bA.trans (bAC.mono (by omega))
  have hrC : wC.heap[b + 1]? = some (.cells #[.pointer (some ⟨b, 0, none⟩)] 164 (0, 0)) := (bC.block _ (by omega)).trans hrB
  have hRC := hR0.stays bAC
  have hT : Trio g b q0 q1 qt wC := ⟨hrC, (b1C.block _ l0).trans hq0, (b1C.block _ l1).trans hq1, l0, l1⟩
  rw [hb] at hV ⊢
  rw [hA, hB]
  have cK := qclos_any g eg V G J s qt b q0 q1 k wC hstep hJ (fun w' h => hV w' (b1C.trans h)) hs hk hRC hT T E C hres hq
  have cC := caught_any 163 (enters_of Tryz.func163 (by kernel_rfl) rfl) #[.pointer (some ⟨b + 1, 0, none⟩), .pointer (some ⟨q0, 0, none⟩), .pointer (some ⟨q1, 0, none⟩)] wB
    (fun W => Fq b wC W ∧ ∃ i l cur fm, RdM b s i l cur fm W ∧ totC l + l.length + cur.size ≤ 4194304 ∧ (foldFlow (l ++ [(cur, false)]), i, 0) = (T, E, C))
    (fun c p W => Fq b wC W ∧ ∃ c' p' : Nat, c = (c' : Int) ∧ p = (p' : Int) ∧ c' ≠ 0 ∧ (ByteArray.empty, p', c') = (T, E, C)) (by
      rw [hC, hzB]
      refine cK.mono ?_
      rintro e W ⟨hF, ⟨rfl, hX⟩ | ⟨c, p, rfl, hc, hE⟩⟩
      · exact ⟨hF.keep _ _ _ _ (by omega) hfC (by decide) (by decide), .inl ⟨rfl, hF, hX⟩⟩
      · exact ⟨hF.keep _ _ _ _ (by omega) hfC (by decide) (by decide), .inr ⟨c, p, rfl, hF, c, p, rfl, rfl, hc, hE⟩⟩)
  refine cC.mono ?_
  rw [hzB]
  have fin : ∀ W w', Beside (b + 2) W w' → Fq b wC W → Below b w1 w' ∧ w'.heap[b + 1]? = some (.cells #[.pointer (some ⟨b, 0, none⟩)] 164 (0, 0)) := fun W w' hbs hF => by
    have hsz : b + 2 < W.heap.size := (Array.getElem?_eq_some_iff.1 (hF.keep _ _ _ _ (by omega) hfC (by decide) (by decide))).1
    exact ⟨hbs.below (b1C.trans hF.below) (by omega) (by omega), (hbs.block _ (by omega) (by omega)).trans (hF.keep _ _ _ _ (by omega) hrC (by decide) (by decide))⟩
  rintro e w' ⟨W, hbs, ⟨rfl, hF, i, l, cur, fm, hR, hl, hE⟩ | ⟨_, _, rfl, hF, c, p, rfl, rfl, hc, hE⟩⟩
  · exact ⟨(fin W w' hbs hF).1, (fin W w' hbs hF).2, .inl ⟨rfl, i, l, cur, fm, hR.beside hbs (by omega) (hF.keep _ _ _ _ (by omega) hfC (by decide) (by decide)), hl, hE⟩⟩
  · exact ⟨(fin W w' hbs hF).1, (fin W w' hbs hF).2, .inr ⟨c, p, rfl, hc, hE⟩⟩
set_option maxHeartbeats 8000000 in
theorem quoted_any (g : Nat) (eg : ∀ args w, (callFunc g args).run Tryz.prog w = .ok (.enter g args) w) (V : World → Prop) (G : Nat → List Pc → ByteArray → Nat → ByteArray × Nat × Nat) (J : Nat → Prop) (s qt : ByteArray) (p : Int) (w : World)
    (hstep : StepC g V G J s) (hJ : J 0) (hV : ∀ w', Below w.heap.size w w' → V w') (hs : s.size ≤ 1048576) (T : ByteArray) (E C : Nat)
    (hres : (if pre (s.extract (cl s.size p) s.size) qt = true then G (cl s.size p + 1) [] ByteArray.empty 0 else (ByteArray.empty, cl s.size p, 10)) = (T, E, C)) (hq : pre (s.extract (cl s.size p) s.size) qt = true → cl s.size p < s.size) :
    Calls Tryz.prog 122 #[.string s, .int .i64 p, .string qt, .func (.func g) #[] #[]] w fun e w' => e = .returned (.tuple #[.string T, .int .i64 (E : Int), .int .i64 (C : Int)]) ∧ Below w.heap.size w w' := by
  have hmf : ∀ (fn : Fn) (first cap : Array Value) (w : World), (Instr.makeFunc fn first cap).run Tryz.prog w = .ok (.func fn first cap) w := fun _ _ _ _ => rfl
  have hcl := cl_le s.size p
  have hmx : s.size ≤ mx := by unfold mx; omega
  have HST : Hid (StepC g V G J s) := hstep
  have HV : Hid (∀ w', Below w.heap.size w w' → V w') := hV
  have HJ : Hid (J 0) := hJ
  obtain ⟨k, hk⟩ : ∃ k, cl s.size p = k := ⟨_, rfl⟩
  have cB := bring_any s p ((w.alloc (.cells #[.string qt] 9)).alloc (.cells #[.func (.func g) #[] #[]] 132)) hmx
  rw [hk] at cB hres hq hcl
  have HRES : Hid ((if pre (s.extract k s.size) qt = true then G (k + 1) [] ByteArray.empty 0 else (ByteArray.empty, k, 10)) = (T, E, C)) := hres
  have HQ : Hid (pre (s.extract k s.size) qt = true → k < s.size) := hq
  have HEG : Hid (∀ args w, (callFunc g args).run Tryz.prog w = .ok (.enter g args) w) := eg
  clear hstep hV hJ hres hq hk eg
  go_enter Tryz.func122, Tryz.ntmps122
  go_wp2_with fail
  refine cB.mono ?_
  rintro e w1 ⟨rfl, hw1⟩
  clear cB
  have HX1 : Hid (w1.heap[w.heap.size]? = some (.cells #[.string qt] 9 (0, 0)) ∧ w1.heap[w.heap.size + 1]? = some (.cells #[.func (.func g) #[] #[]] 132 (0, 0))) := by
    rw [hw1]
    refine ⟨?_, ?_⟩
    · show ((w.heap.push _).push _)[_]? = _; rw [Array.getElem?_push, if_neg (by simp), Array.getElem?_push, if_pos rfl]
    · show ((w.heap.push _).push _)[_]? = _; rw [Array.getElem?_push, if_pos (by simp)]
  have HB1 : Hid (Below w.heap.size w w1) := by show Below _ _ _; rw [hw1]; exact ((Below.refl _ w).alloc (Nat.le_refl _) _).alloc (by simp) _
  have HZ1 : Hid (w1.heap.size = w.heap.size + 2) := by show _ = _; rw [hw1]; simp
  clear hw1
  go_wp2_with fail
  obtain ⟨b, hb⟩ : ∃ b, w1.heap.size = b := ⟨_, rfl⟩
  have cQ := qclos_caught g HEG.out V G J s qt w.heap.size (w.heap.size + 1) k w1 HST.out HJ.out (fun w' h => HV.out w' (HB1.out.trans (h.mono (by have := HZ1.out; omega)))) hs hcl T E C HRES.out HQ.out HX1.out.1 HX1.out.2
  refine cQ.mono ?_
  rw [hb]
  clear cQ HST HV HJ HRES HQ HEG HX1 hmx
  rintro e w4 ⟨hb4, hr4, ⟨rfl, i, l, cur, fm, hR, hl, hE⟩ | ⟨c, q, rfl, hc, hE⟩⟩
  · have HB4 : Hid (Below w.heap.size w w4) := HB1.out.trans (hb4.mono (by have := HZ1.out; omega))
    have HR : Hid (RdM b s i l cur fm w4) := hR
    have HL : Hid (totC l + l.length + cur.size ≤ 4194304) := hl
    have HE : Hid ((foldFlow (l ++ [(cur, false)]), i, 0) = (T, E, C)) := hE
    have HP : Hid (w4.heap[b + 1]? = some (.cells #[.pointer (some ⟨b, 0, none⟩)] 164 (0, 0))) := hr4
    have HBB : Hid (w.heap.size ≤ b) := by show _ ≤ _; have := HZ1.out; omega
    clear hR hl hE hr4 hb4 HB1 HZ1 hb
    obtain ⟨w5, h5⟩ : ∃ w5, w4.alloc (.cells #[.int .i64 0, .int .i64 0] 77) = w5 := ⟨_, rfl⟩
    have b5 : Below w4.heap.size w4 w5 := by rw [← h5]; exact (Below.refl _ w4).alloc (Nat.le_refl _) _
    have hf5 : w5.heap[w4.heap.size]? = some (.cells #[.int .i64 0, .int .i64 0] 77 (0, 0)) := by rw [← h5]; exact heap_alloc_new w4 _
    have HR5 : Hid (RdM b s i l cur fm w5) := HR.out.stays b5
    have HP5 : Hid (w5.heap[b + 1]? = some (.cells #[.pointer (some ⟨b, 0, none⟩)] 164 (0, 0))) := (b5.block _ (Array.getElem?_eq_some_iff.1 HP.out).1).trans HP.out
    have HB5 : Hid (Below w.heap.size w w5) := HB4.out.trans (b5.mono HB4.out.size)
    have H5 : Hid (w4.alloc (.cells #[.int .i64 0, .int .i64 0] 77) = w5) := h5
    clear h5 b5 hf5 HB4 HR HP
    go_wp2_with fail
    rw [H5.out]
    have p0 := Lib.cell_of_heap HP5.out 0
    obtain ⟨c1, _⟩ := rd_c1 HR5.out
    obtain ⟨t, ht⟩ : ∃ t, foldFlow (l ++ [(cur, false)]) = t := ⟨_, rfl⟩
    have cT := text_any implFf b s i l cur fm w5.drew HR5.out HL.out
    rw [ht] at cT HE
    clear ht HL H5
    go_region_held3 (fun W => W.cell? ⟨b + 1, 0, none⟩ = some (.pointer (some ⟨b, 0, none⟩)) ∧ W.cell? ⟨b, 1, none⟩ = some (.int .i64 (i : Int)))
      (first | exact ⟨p0, c1⟩ | exact ⟨d0, d1⟩ | go_keep)
      ((go_at_call 165; refine cT.mono ?_; rintro e w6 ⟨rfl, hR6, hF6⟩; have d1 := (rd_c1 hR6).1; have d0 : w6.cell? ⟨b + 1, 0, none⟩ = some (.pointer (some ⟨b, 0, none⟩)) := Lib.cell_of_heap (hF6.keep _ _ _ _ (Nat.lt_succ_self b) HP5.out (by decide) (by decide)) 0))
    have HB6 : Hid (Below w.heap.size w w6) := HB5.out.drew.trans (hF6.below.mono HBB.out)
    clear hR6 hF6 d0 d1 p0 c1 cT
    go_wp2_with fail
    have e0 := HE.out
    injection e0 with e1 e2
    injection e2 with e2 e3
    subst e1
    subst e2
    subst e3
    go_ret3
    exact ⟨rfl, HB6.out⟩
  · have HB4 : Hid (Below w.heap.size w w4) := HB1.out.trans (hb4.mono (by have := HZ1.out; omega))
    have HE : Hid ((ByteArray.empty, q, c) = (T, E, C)) := hE
    have hci : ((c : Int) != 0) = true := by simp; omega
    have hci2 : ¬ (c : Int) = 0 := by omega
    clear hc hE hr4 hb4 HB1 HZ1 hb
    go_wp2_with fail
    obtain ⟨w5, h5⟩ : ∃ w5, w4.alloc (.cells #[.int .i64 (c : Int), .int .i64 (q : Int)] 77) = w5 := ⟨_, rfl⟩
    have hf5 : w5.heap[w4.heap.size]? = some (.cells #[.int .i64 (c : Int), .int .i64 (q : Int)] 77 (0, 0)) := by rw [← h5]; exact heap_alloc_new w4 _
    have HB5 : Hid (Below w.heap.size w w5) := by show Below _ _ _; rw [← h5]; exact HB4.out.alloc HB4.out.size _
    rw [h5]
    have x0 : w5.cell? ⟨w4.heap.size, 0, none⟩ = some (.int .i64 (c : Int)) := Lib.cell_of_heap hf5 0
    have x1 : w5.cell? ⟨w4.heap.size, 1, none⟩ = some (.int .i64 (q : Int)) := Lib.cell_of_heap hf5 1
    clear h5 hf5 HB4 hci hci2
    go_quiet (fail)
    go_wp2_with fail
    have e0 := HE.out
    injection e0 with e1 e2
    injection e2 with e2 e3
    subst e1
    subst e2
    subst e3
    go_ret3
    exact ⟨rfl, HB5.out.trans ((below_drewN w5 _).mono HB5.out.size)⟩
end Go.Proofs.YtjpcmmfmdoglkalGreatDoor

/- The face of both kinds of quotes, and its step within single quotes. -/
import Derived.Tactics
import Derived.Tactics2
import Derived.Defers
import Derived.Recover
import Derived.Laws.Pointers
import Derived.WalkKit
import Derived.ProofKit
import Derived.Test.YtcajfnhbfciahakDoorProg
import Derived.WalkLawsBesides
import Derived.WalkSpells
import Derived.WalkMore
import Derived.Below
import Derived.Deep.RegionHeld3
import Derived.Shelf.Strings.BuilderK
import Derived.Shelf.Strings.OnBuilder
import Derived.Shelf.Strings.Repeat
import Derived.Test.YtcajfnhbfciahakDoorSls
import Derived.Test.YtcajfnhbfciahakDoorOvr
import Derived.Deep.QuietTactic
import Derived.BigQuiet
import Derived.Deep.Light
import Derived.Test.YtcajfnhbfciahakDoorLfo
import Derived.Test.YtcajfnhbfciahakDoorRd4
/- In a deferred call that recovers: the operations behind the recover are walked as elsewhere; an assertion to a struct type. -/
namespace Go.Proofs.YtcajfnhbfciahakDoor
open Go.RowKit
theorem assert_struct {P : Program} {t xT : TypeId} {fs : Array Field} (h : P.underlying t = some (.struct fs)) (v : Value) (w : World) : (Instr.typeAssert (.iface t v) xT t true).run P w = .ok (.tuple #[v, .bool true]) w := by
  simp [Instr.typeAssert, run_underlying h]
theorem assert_nil {P : Program} {t xT : TypeId} {fs : Array Field} {i : TypeInfo} {z : Value} (h : P.underlying t = some (.struct fs)) (hi : P.info? t = some i) (hz : i.zero = some z) (w : World) : (Instr.typeAssert .nilIface xT t true).run P w = .ok (.tuple #[z, .bool false]) w := by
  simp [Instr.typeAssert, run_underlying h, zeroValue, typeInfo, hi, hz]
theorem opsS_of_list {P : Program} {ops : Array Oper} {Q : Exit → Act → List Frame → World → Prop} {cs : List Frame} (hL : ¬ LetsOut (fun e a w => Q e a cs w)) : ∀ (os : List Oper) (k : Nat), (∀ j, j < os.length → os[j]? = ops[k + j]?) →
    ∀ (a : Act) (w : World), wpList P ops (fun e a w => Q e a cs w) os a w → wpOpsS P ops Q (List.range' k os.length) a cs w
  | [], _, _, _, _, h => h
  | o :: os, k, ho, a, w, h => by
    have h0 : ops[k]? = some o := by simpa using (ho 0 (by simp)).symm
    have hr : ∀ j, j < os.length → os[j]? = ops[k + 1 + j]? := fun j hj => by
      have := ho (j + 1) (by simp; omega)
      simpa [Nat.add_assoc, Nat.add_comm 1 j] using this
    have ih := opsS_of_list (P := P) hL os (k + 1) hr
    show wpOpsS P ops Q (k :: List.range' (k + 1) os.length) a cs w
    rw [wpOpsS, h0]
    rw [wpList] at h
    dsimp only
    split
    · rename_i hw
      rw [if_pos hw] at h
      rcases h with h | h
      · unfold Oper.wp at h
        cases hx : (execOp a.eval o).run P w with
        | ok x w' =>
          rw [hx] at h
          cases x with
          | value v => exact ih _ _ h
          | skip => exact ih _ _ h
          | defer d => exact ih _ _ h
          | enter f args =>
            refine (show Calls P f args w' _ from h).mono ?_
            intro e w'' he
            cases e with
            | returned v => exact ih _ _ he
            | panicked c => exact he
            | outgrown => exact he
          | row row args =>
            intro c cs'
            obtain ⟨v, w'', r, s⟩ := (show Rows P row args w' _ from h) c cs'
            exact ⟨v, w'', ih _ _ r, s⟩
          | _ => exact (h : False).elim
        | halt x w' =>
          rw [hx] at h
          cases x with
          | panic v => exact h
          | _ => exact (h : False).elim
      · exact absurd h.2 hL
    · rename_i hw
      rw [if_neg hw] at h
      exact ih _ _ h
/-- A region that opens with a recover: of a frame that panics. -/
theorem region_recovers {P : Program} {o : Oper} {os : List Oper} {Q : Exit → Act → List Frame → World → Prop} {id : Nat} {a : Act} {c : Frame} {cs : List Frame} {w : World} {v : Value} {older : List PanicEntry}
    (hop : o.op = Op.call { callee := Callee.builtin Builtin.recover, args := #[], argTypes := #[] }) (hg : o.guard = none) (hm : c.mode = .panicking ({ v := v, recovered := false } :: older))
    (hL : ¬ LetsOut (fun e a w => Q e a ({ c with mode := .panicking ({ v := v, recovered := true } :: older) } :: cs) w))
    (h : wpList P (o :: os).toArray (fun e a w => Q e a ({ c with mode := .panicking ({ v := v, recovered := true } :: older) } :: cs) w) os (a.put o.dst v) w) :
    (Code.region id (o :: os).toArray false).wpS P Q a (c :: cs) w := by
  refine wpS_region ?_
  have e : List.range (o :: os).toArray.size = 0 :: List.range' 1 os.length := by
    rw [List.range_eq_range']
    simp [List.range'_succ]
  rw [e, wpOpsS]
  have hw : Region.wanted o (yielded (o :: os).toArray a.tmps) = true := by simp [Region.wanted, hg]
  have hx : (execOp a.eval o).run P w = .ok .recover w := by
    unfold execOp
    simp [hop, resolve, invoke, builtin]
  simp only [List.getElem?_toArray, List.getElem?_cons_zero, hw, if_true, hx]
  simp only [recoverD, hm]
  exact opsS_of_list hL os 1 (fun j hj => by simp [Nat.add_comm 1 j]) _ _ h
/-- Of a frame that returns: there is nothing to recover. -/
theorem region_idle {P : Program} {o : Oper} {os : List Oper} {Q : Exit → Act → List Frame → World → Prop} {id : Nat} {a : Act} {c : Frame} {cs : List Frame} {w : World}
    (hop : o.op = Op.call { callee := Callee.builtin Builtin.recover, args := #[], argTypes := #[] }) (hg : o.guard = none) (hm : c.mode = .returning)
    (hL : ¬ LetsOut (fun e a w => Q e a (c :: cs) w))
    (h : wpList P (o :: os).toArray (fun e a w => Q e a (c :: cs) w) os (a.put o.dst .nilIface) w) :
    (Code.region id (o :: os).toArray false).wpS P Q a (c :: cs) w := by
  refine wpS_region ?_
  have e : List.range (o :: os).toArray.size = 0 :: List.range' 1 os.length := by
    rw [List.range_eq_range']
    simp [List.range'_succ]
  rw [e, wpOpsS]
  have hw : Region.wanted o (yielded (o :: os).toArray a.tmps) = true := by simp [Region.wanted, hg]
  have hx : (execOp a.eval o).run P w = .ok .recover w := by
    unfold execOp
    simp [hop, resolve, invoke, builtin]
  simp only [List.getElem?_toArray, List.getElem?_cons_zero, hw, if_true, hx]
  simp only [recoverD, hm]
  exact opsS_of_list hL os 1 (fun j hj => by simp [Nat.add_comm 1 j]) _ _ h
end Go.Proofs.YtcajfnhbfciahakDoor
/- The deferred closure of impl.quotedAt: a fault becomes a code and a place; where there is none, nothing is changed. -/
namespace Go.Proofs.YtcajfnhbfciahakDoor
open Go.RowKit
set_option maxHeartbeats 4000000 in
theorem catch_fault (b0 b1 b2 : Nat) (x0 x1 x2 : Value) (code at_ : Int) (older : List PanicEntry) (w : World)
    (h0 : w.cell? ⟨b0, 0, none⟩ = some x0) (h1 : w.cell? ⟨b1, 0, none⟩ = some x1) (h2 : w.cell? ⟨b2, 0, none⟩ = some x2)
    (f0 : w.frozen? ⟨b0, 0, none⟩ = false) (f1 : w.frozen? ⟨b1, 0, none⟩ = false) (f2 : w.frozen? ⟨b2, 0, none⟩ = false) (n01 : b0 ≠ b1) (n02 : b0 ≠ b2) (n12 : b1 ≠ b2) :
    CallsD Tryd.prog 27 #[.pointer (some ⟨b0, 0, none⟩), .pointer (some ⟨b1, 0, none⟩), .pointer (some ⟨b2, 0, none⟩)] (.panicking ({ v := .iface 46 (.agg #[.int .i64 code, .int .i64 at_]), recovered := false } :: older)) w fun e u' w' =>
      e = .returned (.tuple #[]) ∧ u' = .panicking ({ v := .iface 46 (.agg #[.int .i64 code, .int .i64 at_]), recovered := true } :: older) ∧
      ∃ W, Below w.heap.size w W ∧ w' = (((W.setCell ⟨b0, 0, none⟩ (.string ⟨#[]⟩)).setCell ⟨b1, 0, none⟩ (.int .i64 at_)).setCell ⟨b2, 0, none⟩ (.int .i64 code)).drew := by
  have hta := fun (w : World) (v : Value) => assert_struct (P := Tryd.prog) (xT := 20) Tryd.underlying46 v w
  refine callsD_of_wpS Tryd.func27 rfl fun c₀ cs hu => ?_
  apply wpS_seq
  simp only [Tryd.ntmps27, List.size_toArray, List.length_cons, List.length_nil, Nat.reduceAdd, Nat.reduceSub, Array.replicate_succ, Array.replicate_zero, List.push_toArray, List.append_toArray, List.nil_append, List.cons_append]
  refine region_recovers rfl rfl hu ?hL ?_
  case hL =>
    rintro ⟨_, _, h⟩
    obtain ⟨_, h, _⟩ := h
    cases h
  have e0 : w.heap.size ≠ b0 := World.new_ne w _ h0
  have e1 : w.heap.size ≠ b1 := World.new_ne w _ h1
  have e2 : w.heap.size ≠ b2 := World.new_ne w _ h2
  go_wp2_with fail
  refine wpS_of_wp ?_
  go_wp2_with fail
  obtain ⟨W, hW⟩ : ∃ W, w.alloc (.cells #[.int .i64 code, .int .i64 at_] 46) = W := ⟨_, rfl⟩
  obtain ⟨Bf, hBf⟩ : ∃ Bf, w.heap.size = Bf := ⟨_, rfl⟩
  have hb : Below w.heap.size w W := by rw [← hW]; exact (Below.refl _ w).alloc (Nat.le_refl _) _
  have stay : ∀ {p : Addr} {v : Value}, w.cell? p = some v → W.cell? p = some v := fun h => (hb.cell (World.block_lt_of_cell? _ _ h)).trans h
  have stayf : ∀ {b : Nat} {v : Value}, w.cell? ⟨b, 0, none⟩ = some v → w.frozen? ⟨b, 0, none⟩ = false → W.frozen? ⟨b, 0, none⟩ = false := fun {b v} h hf => by
    have hlt : b < w.heap.size := World.block_lt_of_cell? _ _ h
    unfold World.frozen? at hf ⊢
    rw [hb.block b hlt]
    exact hf
  have k0 := stay h0
  have k1 := stay h1
  have k2 := stay h2
  have z0 := stayf h0 f0
  have z1 := stayf h1 f1
  have z2 := stayf h2 f2
  have hn : W.heap[Bf]? = some (.cells #[.int .i64 code, .int .i64 at_] 46 (0, 0)) := by rw [← hW, ← hBf]; exact heap_alloc_new w _
  have m0 : W.cell? ⟨Bf, 0, none⟩ = some (.int .i64 code) := by simp [World.cell?, hn]
  have m1 : W.cell? ⟨Bf, 1, none⟩ = some (.int .i64 at_) := by simp [World.cell?, hn]
  rw [hBf] at e0 e1 e2 ⊢
  rw [hW]
  have HB : Hid (Below w.heap.size w W) := hb
  clear hW hBf hb h0 h1 h2 f0 f1 f2 hn hta stay stayf
  have e0' := e0.symm
  have e1' := e1.symm
  have e2' := e2.symm
  have n10 := n01.symm
  have n20 := n02.symm
  have n21 := n12.symm
  go_region
  all_goals exact ⟨rfl, _, rfl, _, results_none rfl _ _ _, rfl, rfl, W, HB.out, rfl⟩
theorem catch_idle (b0 b1 b2 : Nat) (w : World) :
    CallsD Tryd.prog 27 #[.pointer (some ⟨b0, 0, none⟩), .pointer (some ⟨b1, 0, none⟩), .pointer (some ⟨b2, 0, none⟩)] .returning w fun e u' w' => e = .returned (.tuple #[]) ∧ u' = .returning ∧ w' = w := by
  refine callsD_of_wpS Tryd.func27 rfl fun c₀ cs hu => ?_
  apply wpS_seq
  simp only [Tryd.ntmps27, List.size_toArray, List.length_cons, List.length_nil, Nat.reduceAdd, Nat.reduceSub, Array.replicate_succ, Array.replicate_zero, List.push_toArray, List.append_toArray, List.nil_append, List.cons_append]
  refine region_idle rfl rfl hu ?hL ?_
  case hL =>
    rintro ⟨_, _, h⟩
    obtain ⟨_, h, _⟩ := h
    cases h
  go_wp2_with fail
  refine wpS_of_wp ?_
  go_wp2_with fail
  exact ⟨rfl, _, rfl, _, results_none rfl _ _ _, rfl, hu, rfl⟩
end Go.Proofs.YtcajfnhbfciahakDoor
/- The contracts of strings.Repeat, strings.Join and strings.Builder that the library holds, laid at this program. -/
namespace Go.Proofs
open Go.Shelf
def Tryd.laysJ_ren : Go.Shelf.Ren := ⟨fun | 99 => 39 | 105 => 68 | 165 => 77 | 166 => 51 | 169 => 53 | 170 => 78 | 206 => 54 | 212 => 76 | 240 => 67 | 241 => 85 | 263 => 83 | 264 => 84 | 276 => 75 | 277 => 92 | n => n, fun | 0 => 0 | 3 => 3 | 4 => 4 | 5 => 5 | 9 => 9 | 20 => 20 | 37 => 28 | 46 => 61 | 51 => 102 | 53 => 40 | 70 => 65 | 72 => 67 | 75 => 42 | 76 => 68 | 109 => 97 | 127 => 87 | 146 => 103 | 148 => 105 | 164 => 95 | 80 => 51 | n => n, fun | n => n⟩
theorem Tryd.lays105 : Go.Proofs.Lays.n105 Tryd.prog Tryd.laysJ_ren := {
  mixed := by kernel_rfl
  f99 := Tryd.func39.trans (congrArg some (by kernel_rfl))
  f105 := Tryd.func68.trans (congrArg some (by kernel_rfl))
  f165 := Tryd.func77.trans (congrArg some (by kernel_rfl))
  f166 := Tryd.func51.trans (congrArg some (by kernel_rfl))
  f169 := Tryd.func53.trans (congrArg some (by kernel_rfl))
  f170 := Tryd.func78.trans (congrArg some (by kernel_rfl))
  f206 := Tryd.func54.trans (congrArg some (by kernel_rfl))
  f212 := Tryd.func76.trans (congrArg some (by kernel_rfl))
  f240 := Tryd.func67.trans (congrArg some (by kernel_rfl))
  f241 := Tryd.func85.trans (congrArg some (by kernel_rfl))
  f263 := Tryd.func83.trans (congrArg some (by kernel_rfl))
  f264 := Tryd.func84.trans (congrArg some (by kernel_rfl))
  f276 := Tryd.func75.trans (congrArg some (by kernel_rfl))
  f277 := Tryd.func92.trans (congrArg some (by kernel_rfl))
  t0 := Tryd.underlying0
  a0 := Tryd.isAgg0
  z0 := Tryd.sizeOf0
  v0 := Tryd.zeroValue0
  t3 := Tryd.underlying3
  a3 := Tryd.isAgg3
  z3 := Tryd.sizeOf3
  v3 := Tryd.zeroValue3
  t4 := Tryd.underlying4
  a4 := Tryd.isAgg4
  z4 := Tryd.sizeOf4
  v4 := Tryd.zeroValue4
  t5 := Tryd.underlying5
  a5 := Tryd.isAgg5
  z5 := Tryd.sizeOf5
  v5 := Tryd.zeroValue5
  t9 := Tryd.underlying9
  a9 := Tryd.isAgg9
  z9 := Tryd.sizeOf9
  v9 := Tryd.zeroValue9
  t20 := Tryd.underlying20
  a20 := Tryd.isAgg20
  z20 := Tryd.sizeOf20
  v20 := Tryd.zeroValue20
  t37 := Tryd.underlying28
  a37 := Tryd.isAgg28
  z37 := Tryd.sizeOf28
  v37 := Tryd.zeroValue28
  t46 := Tryd.underlying61
  a46 := Tryd.isAgg61
  z46 := Tryd.sizeOf61
  v46 := Tryd.zeroValue61
  t51 := Tryd.underlying102
  a51 := Tryd.isAgg102
  z51 := Tryd.sizeOf102
  v51 := Tryd.zeroValue102
  t53 := Tryd.underlying40
  a53 := Tryd.isAgg40
  z53 := Tryd.sizeOf40
  v53 := Tryd.zeroValue40
  t70 := Tryd.underlying65
  a70 := Tryd.isAgg65
  z70 := Tryd.sizeOf65
  v70 := Tryd.zeroValue65
  t72 := Tryd.underlying67
  a72 := Tryd.isAgg67
  z72 := Tryd.sizeOf67
  v72 := Tryd.zeroValue67
  t75 := Tryd.underlying42
  a75 := Tryd.isAgg42
  z75 := Tryd.sizeOf42
  v75 := Tryd.zeroValue42
  t76 := Tryd.underlying68
  a76 := Tryd.isAgg68
  z76 := Tryd.sizeOf68
  v76 := Tryd.zeroValue68
  t109 := Tryd.underlying97
  a109 := Tryd.isAgg97
  z109 := Tryd.sizeOf97
  v109 := Tryd.zeroValue97
  t127 := Tryd.underlying87
  a127 := Tryd.isAgg87
  z127 := Tryd.sizeOf87
  v127 := Tryd.zeroValue87
  t146 := Tryd.underlying103
  a146 := Tryd.isAgg103
  z146 := Tryd.sizeOf103
  v146 := Tryd.zeroValue103
  t148 := Tryd.underlying105
  a148 := Tryd.isAgg105
  z148 := Tryd.sizeOf105
  v148 := Tryd.zeroValue105
  t164 := Tryd.underlying95
  a164 := Tryd.isAgg95
  z164 := Tryd.sizeOf95
  v164 := Tryd.zeroValue95 }
theorem Tryd.Builder_Extra : Builder.Extra Tryd.prog Tryd.laysJ_ren := {
  sizeBuilder := by kernel_rfl
  liesBuilder := by kernel_rfl
  t5 := Tryd.underlying5
  a5 := Tryd.isAgg5
  z5 := Tryd.sizeOf5
  v5 := Tryd.zeroValue5
  infoByte := by kernel_rfl
  cellsByte := by kernel_rfl
  sizeByte := by kernel_rfl
  neB5 := by decide }

end Go.Proofs
namespace Go.Proofs.YtcajfnhbfciahakDoor
open Go.RowKit Go.Lib
/-- The bytes of a repeated break. -/
theorem brks_rep : ∀ n : Nat, (⟨(Lib.repeatL [10] n).toArray⟩ : ByteArray) = brks n
  | 0 => rfl
  | n + 1 => by
    rw [brks, ← brks_rep n, Lib.repeatL]
    apply ba_ext'
    apply Array.ext'
    rw [ByteArray.data_append]
    simp [b10]
theorem rep_any (n : Nat) (w : World) (hn : n ≤ 33554432) :
    Calls Tryd.prog 68 #[.string b10, .int .i64 (n : Int)] w fun e w' => e = .returned (.string (brks n)) ∧ Below w.heap.size w w' := by
  rw [← brks_rep n]
  exact Any.strings_Repeat Tryd.lays105 Tryd.Builder_Extra b10 n w (by omega) (by show 1 * n ≤ _; omega)
/-- The lines with a break between each two. -/
theorem join_brk : ∀ ss : List ByteArray, (⟨(Lib.join (ss.map (·.data.toList)) [10]).toArray⟩ : ByteArray) = joinB ss
  | [] => rfl
  | [x] => by
    rw [List.map_cons, List.map_nil, Lib.join_one]
    rfl
  | x :: y :: t => by
    have ih := join_brk (y :: t)
    show _ = x ++ b10 ++ joinB (y :: t)
    rw [← ih, List.map_cons, Lib.join_cons, List.map_cons, Lib.join_cons]
    apply ba_ext'
    apply Array.ext'
    rw [ByteArray.data_append, ByteArray.data_append]
    simp [b10, Lib.joinTail]
theorem joinB_sz : ∀ l : List ByteArray, (joinB l).size ≤ totS l + l.length
  | [] => Nat.le_refl _
  | [x] => by show x.size ≤ x.size + 0 + 1; omega
  | x :: y :: t => by
    have ih := joinB_sz (y :: t)
    show (x ++ b10 ++ joinB (y :: t)).size ≤ x.size + totS (y :: t) + (y :: t).length + 1
    rw [ByteArray.size_append, ByteArray.size_append, show b10.size = 1 from rfl]
    omega
/-- A builder of the call's own, in block b, with the bytes o. -/
def Bd (B b : Nat) (o : ByteArray) (w : World) : Prop := Lib.IsBuilderF 67 5 B b (Lib.byteCells o.data.toList) w
theorem Bd.stays {B b : Nat} {o : ByteArray} {w w' : World} (h : Bd B b o w) (hb : Below w.heap.size w w') : Bd B b o w' := by
  have one : ∀ p, Lib.BuilderAtF 67 5 B b p (Lib.byteCells o.data.toList) w → Lib.BuilderAtF 67 5 B b p (Lib.byteCells o.data.toList) w' := by
    intro p hp
    have hlt := hp.lt
    obtain ⟨hB, v, hk, hown, hne⟩ := hp
    exact ⟨hB, v, (hb.block _ hlt).trans hk, hown.kept (row := none) ⟨hb.os, hb.tape, hb.output, hb.size, fun k hk' _ => hb.block k hk'⟩ (by cases hv : v.ownBlock <;> simp), hne⟩
  exact h.elim (fun x => .inl (one _ x)) (fun x => .inr (one _ x))
theorem Bd.fresh (w : World) : Bd w.heap.size w.heap.size ByteArray.empty (w.alloc (.cells #[.pointer none, .slice none 0 0] 67)) :=
  Lib.IsBuilderF.of (Lib.fresh_isBuilder 67 5 w)
theorem Bd.lt {B b : Nat} {o : ByteArray} {w : World} (h : Bd B b o w) : b < w.heap.size := h.elim (·.lt) (·.lt)
theorem write_any (B b : Nat) (o s : ByteArray) (w : World) (h : Bd B b o w) (hl : o.size + s.size ≤ 140737488355328) (hB : B ≤ w.heap.size) :
    Calls Tryd.prog 51 #[.pointer (some ⟨b, 0, none⟩), .string s] w fun e w' => e = .returned (.tuple #[.int .i64 s.size, .nilIface]) ∧ Bd B b (o ++ s) w' ∧ Below B w w' ∧ Lib.OthersKept 5 (some b) w w' := by
  refine (Any.Builder_WriteString_k { Tryd.lays105 with } Tryd.Builder_Extra B b (Lib.byteCells o.data.toList) s w h (by rw [Lib.byteCells_length]; exact hl) hB).mono ?_
  rintro e w' ⟨rfl, h1, h2, h3⟩
  refine ⟨rfl, ?_, h2, h3⟩
  unfold Bd
  rw [ByteArray.data_append, Array.toList_append, Lib.byteCells_append]
  exact .inr h1
theorem string_any (B b : Nat) (o : ByteArray) (w : World) (h : Bd B b o w) (hB : B ≤ w.heap.size) :
    Calls Tryd.prog 53 #[.pointer (some ⟨b, 0, none⟩)] w fun e w' => e = .returned (.string o) ∧ Below B w w' := by
  refine (Any.Builder_String_any_k { Tryd.lays105 with } Tryd.Builder_Extra B b o.data.toList w h hB).mono ?_
  rintro e w' ⟨rfl, _, h2, _⟩
  exact ⟨rfl, h2⟩
end Go.Proofs.YtcajfnhbfciahakDoor
/- What stands between two pieces or lines (pieceJoint, lineJoint), and the endings of a text. -/
namespace Go.Proofs.YtcajfnhbfciahakDoor
open Go.ChangeShapes Go.WideShapes Go.ChangeAt Go.RowKit
theorem ret_str {a b : ByteArray} (h : a = b) : Ending.returned (.string a) = .returned (.string b) := by rw [h]
/-- What stands between two pieces. -/
def pj (n : Nat) (g : Bool) : ByteArray := if 0 < n then brks n else if g then ByteArray.empty else b32
theorem pj_size (n : Nat) (g : Bool) : (pj n g).size ≤ n + 1 := by
  unfold pj
  split
  · rw [brks_size]; omega
  · split
    · exact Nat.zero_le _
    · show 1 ≤ n + 1; omega
theorem pieceJoint_any (n : ByteArray) (g : Bool) (k : Nat) (w : World) (hk : k ≤ 33554432) (o : ByteArray) (ho : pj k g = o) :
    Calls Tryd.prog 52 #[.agg #[.string n, .bool g], .int .i64 (k : Int)] w fun e w' => e = .returned (.string o) ∧ Below w.heap.size w w' := by
  by_cases h0 : 0 < k
  · have h0' : (0 : Int) < (k : Int) := by omega
    have HO : Hid (brks k = o) := by show brks k = o; rw [← ho]; unfold pj; rw [if_pos h0]
    clear ho h0
    go_enter Tryd.func52, Tryd.ntmps52
    go_wp2_with fail
    refine (rep_any k _ hk).mono ?_
    rintro e w1 ⟨rfl, hb1⟩
    go_wp2_with fail
    go_ret
    exact ⟨ret_str HO.out, ((Below.refl _ w).alloc (Nat.le_refl _) _).trans (hb1.mono (by simp))⟩
  · have h0' : ¬ (0 : Int) < (k : Int) := by omega
    cases g with
    | true =>
      have HO : Hid (ByteArray.empty = o) := by show _ = o; rw [← ho]; unfold pj; rw [if_neg h0, if_pos rfl]
      clear ho h0
      go_enter Tryd.func52, Tryd.ntmps52
      go_wp2_with fail
      go_ret
      exact ⟨ret_str HO.out, (Below.refl _ w).alloc (Nat.le_refl _) _⟩
    | false =>
      have HO : Hid (b32 = o) := by show _ = o; rw [← ho]; unfold pj; rw [if_neg h0]; rfl
      clear ho h0
      go_enter Tryd.func52, Tryd.ntmps52
      go_wp2_with fail
      go_ret
      exact ⟨ret_str HO.out, (Below.refl _ w).alloc (Nat.le_refl _) _⟩

/-- What stands ahead of a line. -/
def lj (last : ByteArray) (x : ByteArray) (n : Nat) : ByteArray :=
  if last = ByteArray.empty then brks n else if (farS x || farS last) = true then brks (n + 1) else if n = 0 then b32 else brks n
theorem lj_size (last x : ByteArray) (n : Nat) : (lj last x n).size ≤ n + 1 := by
  unfold lj
  split
  · rw [brks_size]; omega
  · split
    · rw [brks_size]; omega
    · split
      · show 1 ≤ n + 1; omega
      · rw [brks_size]; omega
theorem brks_snoc : ∀ n, brks n ++ b10 = brks (n + 1)
  | 0 => by rw [brks, brks, brks, empty_app, app_empty]
  | n + 1 => by rw [brks, app_assoc, brks_snoc n]; rfl
theorem e_list : (ByteArray.empty.toList == ([] : List UInt8)) = true := by rw [ByteArray.toList_eq]; rfl
theorem ne_list {t : ByteArray} (h : t ≠ ByteArray.empty) : (t.toList == []) = false := by
  rw [beq_eq_false_iff_ne]
  intro e
  apply h
  rw [ByteArray.toList_eq] at e
  apply ba_ext'
  apply Array.ext'
  rw [e]; rfl
end Go.Proofs.YtcajfnhbfciahakDoor
/- impl.FoldFlow answers foldFlow. -/
namespace Go.Proofs.YtcajfnhbfciahakDoor
open Go.ChangeShapes Go.WideShapes Go.ChangeAt Go.RowKit
theorem ff_joint {L k n : Nat} {x : ByteArray} {gx : Bool} {t : List Pc} {out : ByteArray} {g : Bool} (h0 : 0 < k) (h : ¬ (k + 1 < L ∧ x = ByteArray.empty ∧ gx = false)) :
    ffGo L k ((x, gx) :: t) out n g = ffGo L (k + 1) t (out ++ pj n g ++ x) 0 gx := by
  rw [ff_take (fun hh => h hh.2)]
  congr 2
  unfold pj
  by_cases hn : n = 0
  · subst hn
    cases g with
    | true => rw [if_neg (by simp), if_neg (by omega), if_pos rfl]; rfl
    | false => rw [if_pos ⟨h0, rfl, rfl⟩, if_neg (by omega), if_neg (by simp)]; exact app_empty _
  · rw [if_neg (by simp [hn]), if_pos (by omega)]
/-- A piece of the call's own. -/
def PcAt (b : Nat) (t : ByteArray) (g : Bool) (w : World) : Prop := w.heap[b]? = some (.cells #[.string t, .bool g] 35 (0, 0))
theorem PcAt.c0 {b : Nat} {t : ByteArray} {g : Bool} {w : World} (h : PcAt b t g w) : w.cell? ⟨b, 0, none⟩ = some (.string t) := by rw [Lib.cell_of_heap h]; rfl
theorem PcAt.c1 {b : Nat} {t : ByteArray} {g : Bool} {w : World} (h : PcAt b t g w) : w.cell? ⟨b, 1, none⟩ = some (.bool g) := by rw [Lib.cell_of_heap h]; rfl
theorem PcAt.kept {b B : Nat} {t : ByteArray} {g : Bool} {w w' : World} (h : PcAt b t g w) (hk : Lib.OthersKept 5 (some B) w w') (hne : b ≠ B) : PcAt b t g w' :=
  hk b _ h (fun e => hne (by injection e)) (fun c fz e => by injection e with _ e _; exact absurd e (by decide))
theorem PcAt.stays {b : Nat} {t : ByteArray} {g : Bool} {w w' : World} (h : PcAt b t g w) (hb : Below w.heap.size w w') : PcAt b t g w' :=
  (hb.block b (Array.getElem?_eq_some_iff.1 h).1).trans h
theorem PcAt.fz {b : Nat} {t : ByteArray} {g : Bool} {w : World} (h : PcAt b t g w) (j : Nat) : w.frozen? ⟨b, j, none⟩ = false := Lib.frozen_of_heap h j
theorem PcAt.put {b : Nat} {t t' : ByteArray} {g g' : Bool} {w : World} (h : PcAt b t g w) : PcAt b t' g' ((w.setCell ⟨b, 0, none⟩ (.string t')).setCell ⟨b, 1, none⟩ (.bool g')) := by
  unfold PcAt at h ⊢
  simp [World.setCell, Array.getElem?_modify, h]
theorem Bd.put {B b c : Nat} {o : ByteArray} {t : ByteArray} {g : Bool} {w : World} {x y : Value} (h : Bd B b o w) (hp : PcAt c t g w) (hcb : c ≠ b) : Bd B b o ((w.setCell ⟨c, 0, none⟩ x).setCell ⟨c, 1, none⟩ y) := by
  have one : ∀ p, Lib.BuilderAtF 67 5 B b p (Lib.byteCells o.data.toList) w → Lib.BuilderAtF 67 5 B b p (Lib.byteCells o.data.toList) ((w.setCell ⟨c, 0, none⟩ x).setCell ⟨c, 1, none⟩ y) := by
    intro p hb
    obtain ⟨hB, v, hk, hown, hne⟩ := hb
    have hv : v.ownBlock ≠ some c := Lib.ownBlock_neF hown hp (by decide)
    have hg : ∀ k, k ≠ c → ((w.setCell ⟨c, 0, none⟩ x).setCell ⟨c, 1, none⟩ y).heap[k]? = w.heap[k]? := fun k hk => by
      rw [Below.heap_setCell _ _ _ _ (fun e => hk (by simp [e])), Below.heap_setCell _ _ _ _ (fun e => hk (by simp [e]))]
    exact ⟨hB, v, (hg b (fun e => hcb e.symm)).trans hk, hown.kept (row := some c) ⟨rfl, rfl, rfl, by simp [World.setCell], fun k _ hk => hg k (fun e => hk (by rw [e]))⟩ (Or.inr hv), hne⟩
  exact h.elim (fun x => .inl (one _ x)) (fun x => .inr (one _ x))
set_option maxHeartbeats 8000000 in
theorem implFf : ImplFf := by
  intro w v ps hV hl
  obtain ⟨a, c, rfl⟩ := hV.sl
  by_cases hz : ps = []
  · subst hz
    have HO : Hid (ByteArray.empty = foldFlow []) := rfl
    clear hV hl
    go_enter Tryd.func38, Tryd.ntmps38
    go_wp2_with fail
    go_ret
    exact ⟨ret_str HO.out, Below.refl _ _⟩
  have HV : Hid (SlC w (.slice a ps.length c) ps) := hV
  have hL : ps.length ≤ 8388608 := by omega
  have HT : Hid (totC ps ≤ 8388608) := by show totC ps ≤ 8388608; omega
  have hpos : 0 < ps.length := List.length_pos_iff.2 hz
  obtain ⟨R, hR⟩ : ∃ R, foldFlow ps = R := ⟨_, rfl⟩
  rw [hR]
  obtain ⟨⟨t0, g0⟩, hx0⟩ : ∃ h, ps[0]? = some h := ⟨_, List.getElem?_eq_getElem hpos⟩
  have HR : Hid (ffGo ps.length 1 (ps.drop 1) t0 0 g0 = R) := by
    show ffGo ps.length 1 (ps.drop 1) t0 0 g0 = R
    rw [← hR]
    unfold foldFlow
    have hd : ps = (t0, g0) :: ps.drop 1 := by
      have := drop_pc hx0
      rwa [List.drop_zero] at this
    have : ∀ q : List Pc, q = (t0, g0) :: ps.drop 1 → ffGo ps.length 0 q ByteArray.empty 0 false = ffGo ps.length 1 (ps.drop 1) t0 0 g0 := by
      intro q hq
      rw [hq, ff_take (by omega), if_neg (by omega)]
      show ffGo ps.length (0 + 1) _ (ByteArray.empty ++ ByteArray.empty ++ t0) 0 g0 = _
      rw [empty_app, empty_app]
    exact (this ps hd).symm
  have ht0 : t0.size ≤ totC (ps.take 1) := by
    rw [totC_take hx0]; show t0.size ≤ _ + t0.size; omega
  have HT0 : Hid (t0.size + 0 ≤ totC (ps.take 1) + 2 * 1) := by show t0.size + 0 ≤ totC (ps.take 1) + 2 * 1; omega
  have ht0s : t0.size ≤ 8388608 := by have := totC_mem (List.mem_of_getElem? hx0); have := HT.out; simp at *; omega
  have hB1 : Below w.heap.size w (w.alloc (.cells #[.pointer none, .slice none 0 0] 67)) := (Below.refl _ w).alloc (Nat.le_refl _) _
  obtain ⟨b, off, rfl, c1, c2⟩ := HV.out.cells hB1 hx0
  rw [Nat.zero_mul, Nat.add_zero] at c1
  rw [Nat.zero_mul, Nat.add_zero] at c2
  have hne : ((ps.length : Int) == 0) = false := by rw [beq_eq_false_iff_ne]; omega
  have hpos' : (0 : Int) < (ps.length : Int) := by omega
  have HBF : Hid (Bd w.heap.size w.heap.size ByteArray.empty (w.alloc (.cells #[.pointer none, .slice none 0 0] 67))) := Bd.fresh w
  have HB1 : Hid (Below w.heap.size w (w.alloc (.cells #[.pointer none, .slice none 0 0] 67))) := hB1
  clear hV hl hR hx0 ht0 hB1
  go_enter Tryd.func38, Tryd.ntmps38
  go_wp2_with fail
  have hBa : Below w.heap.size w ((w.alloc (.cells #[.pointer none, .slice none 0 0] 67)).alloc (.cells #[.string t0, .bool g0] 35)) := HB1.out.alloc HB1.out.size _
  refine (write_any w.heap.size w.heap.size ByteArray.empty t0 _ (HBF.out.stays ((Below.refl _ _).alloc (Nat.le_refl _) _)) (by show 0 + t0.size ≤ _; omega) hBa.size).mono ?_
  rintro e w1 ⟨rfl, hD1, hb1, hk1⟩
  have hP1 : PcAt (w.heap.size + 1) t0 g0 w1 := by
    refine PcAt.kept ?_ hk1 (by omega)
    have h := heap_alloc_new (w.alloc (.cells #[.pointer none, .slice none 0 0] 67)) (.cells #[.string t0, .bool g0] 35)
    rw [show (w.alloc (.cells #[.pointer none, .slice none 0 0] 67)).heap.size = w.heap.size + 1 by simp] at h
    exact h
  rw [empty_app] at hD1
  have HD1 : Hid (Bd w.heap.size w.heap.size t0 w1) := hD1
  have HP1 : Hid (PcAt (w.heap.size + 1) t0 g0 w1) := hP1
  have HBb1 : Hid (Below w.heap.size w w1) := hBa.trans hb1
  clear hD1 hP1 hb1 hk1 hBa HBF HB1 c1 c2 hne
  go_wp2_with fail
  go_loopw [5, 6] (fun nv iv wr => ∃ (k n : Nat) (g : Bool) (t out : ByteArray), 1 ≤ k ∧ k ≤ ps.length ∧ iv = .int .i64 k ∧ nv = .int .i64 n ∧ Hid (Bd w.heap.size w.heap.size out wr) ∧ Hid (PcAt (w.heap.size + 1) t g wr) ∧ Hid (ffGo ps.length k (ps.drop k) out n g = R) ∧ Hid (out.size + n ≤ totC (ps.take k) + 2 * k) ∧ Hid (Below w.heap.size w wr)) (fun _ iv _ => ps.length - (intOf iv).toNat)
  case atStart => exact ⟨1, 0, g0, t0, t0, Nat.le_refl _, hpos, by go_num, by go_num, HD1, HP1, HR, HT0, HBb1⟩
  case round =>
    obtain ⟨k, n, g, t, out, h1k, hk, rfl, rfl, HD, HP, HG, HS, HB⟩ := hrel
    by_cases hlt : k < ps.length
    · obtain ⟨⟨x, gx⟩, hx⟩ : ∃ h, ps[k]? = some h := ⟨_, List.getElem?_eq_getElem hlt⟩
      obtain ⟨b', off', hbo, c1, c2⟩ := HV.out.cells HB.out hx
      injection hbo with hbo
      injection hbo with e1 e2 e3
      subst e1
      subst e2
      have hlt' : (k : Int) < (ps.length : Int) := by omega
      have HX : Hid (ps[k]? = some (x, gx)) := hx
      have HTT : Hid (totC (ps.take (k + 1)) = totC (ps.take k) + x.size) := totC_take hx
      have hxs : x.size ≤ 8388608 := by have := totC_mem (List.mem_of_getElem? hx); have := HT.out; simp at *; omega
      have hos : out.size + n ≤ 33554432 := by have h1 := HS.out; have h2 := totC_le ps k; have h3 := HT.out; omega
      have HDr : Hid (ps.drop k = (x, gx) :: ps.drop (k + 1)) := drop_pc hx
      clear hx
      by_cases hc : k + 1 < ps.length ∧ x = ByteArray.empty ∧ gx = false
      · obtain ⟨h1, rfl, rfl⟩ := hc
        have h1' : (k : Int) < (ps.length : Int) - 1 := by omega
        have hE := e_list
        have HG2 : Hid (ffGo ps.length (k + 1) (ps.drop (k + 1)) out (n + 1) g = R) := by
          show ffGo ps.length (k + 1) (ps.drop (k + 1)) out (n + 1) g = R
          rw [← HG.out, HDr.out, ff_skip h1k h1]
        have HS2 : Hid (out.size + (n + 1) ≤ totC (ps.take (k + 1)) + 2 * (k + 1)) := by
          have := HS.out; have := HTT.out
          show out.size + (n + 1) ≤ _
          omega
        clear HG HS HTT HDr
        go_wp2_with fail
        go_roundw
        case rel => exact ⟨k + 1, n + 1, g, t, out, by omega, hlt, by go_num, by go_num, HD, HP, HG2, HS2, HB⟩
        case measure => simp [intOf]; omega
      · have HG2 : Hid (ffGo ps.length (k + 1) (ps.drop (k + 1)) (out ++ pj n g ++ x) 0 gx = R) := by
          show ffGo ps.length (k + 1) (ps.drop (k + 1)) (out ++ pj n g ++ x) 0 gx = R
          rw [← HG.out, HDr.out, ff_joint h1k hc]
        have hway : x ≠ ByteArray.empty ∨ (x = ByteArray.empty ∧ gx = true) ∨ (x = ByteArray.empty ∧ gx = false ∧ ¬ (k : Int) < (ps.length : Int) - 1) := by
          by_cases h2 : x = ByteArray.empty
          · cases gx with
            | true => exact .inr (.inl ⟨h2, rfl⟩)
            | false => exact .inr (.inr ⟨h2, rfl, fun h => hc ⟨by omega, h2, rfl⟩⟩)
          · exact .inl h2
        have hjs := pj_size n g
        obtain ⟨J, hJ⟩ : ∃ J, pj n g = J := ⟨_, rfl⟩
        have HJ : Hid (pj n g = J) := hJ
        rw [hJ] at HG2 hjs
        have HS2 : Hid ((out ++ J ++ x).size + 0 ≤ totC (ps.take (k + 1)) + 2 * (k + 1)) := by
          have := HS.out; have := HTT.out
          show (out ++ J ++ x).size + 0 ≤ _
          rw [ByteArray.size_append, ByteArray.size_append]
          omega
        have HJS : Hid (out.size + J.size ≤ 33554433) := by show out.size + J.size ≤ 33554433; omega
        have c3 := HP.out.c0
        have c4 := HP.out.c1
        have hn : n ≤ 33554432 := by omega
        clear hJ hjs hc HG HS HTT HDr
        have tail : True := trivial
        rcases hway with hx0 | ⟨rfl, rfl⟩ | ⟨rfl, rfl, hx0⟩
        · have hE := ne_list hx0
          clear hx0
          go_wp2_with fail
          refine (pieceJoint_any t g n _ hn J HJ.out).mono ?_
          rintro e w2 ⟨rfl, hb2⟩
          have HD2 : Hid (Bd w.heap.size w.heap.size out w2) := HD.out.stays hb2
          have HP2 : Hid (PcAt (w.heap.size + 1) t g w2) := HP.out.stays hb2
          have HB2 : Hid (Below w.heap.size w w2) := HB.out.trans (hb2.mono HB.out.size)
          clear hb2 HD HP HB c1 c2 c3 c4
          go_wp2_with fail
          refine (write_any w.heap.size w.heap.size out J _ HD2.out (by have := HJS.out; omega) HB2.out.size).mono ?_
          rintro e w3 ⟨rfl, hD3, hb3, hk3⟩
          have HD3 : Hid (Bd w.heap.size w.heap.size (out ++ J) w3) := hD3
          have HP3 : Hid (PcAt (w.heap.size + 1) t g w3) := HP2.out.kept hk3 (by omega)
          have HB3 : Hid (Below w.heap.size w w3) := HB2.out.trans hb3
          obtain ⟨b', off', hbo, c1, c2⟩ := HV.out.cells HB3.out HX.out
          injection hbo with hbo
          injection hbo with e1 e2 e3
          subst e1
          subst e2
          clear hD3 hb3 hk3 HD2 HP2 HB2
          go_wp2_with fail
          refine (write_any w.heap.size w.heap.size (out ++ J) _ _ HD3.out (by rw [ByteArray.size_append]; have := HJS.out; omega) HB3.out.size).mono ?_
          rintro e w4 ⟨rfl, hD4, hb4, hk4⟩
          have HP4 : Hid (PcAt (w.heap.size + 1) t g w4) := HP3.out.kept hk4 (by omega)
          have HB4 : Hid (Below w.heap.size w w4) := HB3.out.trans hb4
          have HD4 : Hid (Bd w.heap.size w.heap.size (out ++ J ++ _) w4) := hD4
          clear c1 c2
          obtain ⟨b', off', hbo, c1, c2⟩ := HV.out.cells HB4.out HX.out
          injection hbo with hbo
          injection hbo with e1 e2 e3
          subst e1
          subst e2
          have c3 := HP4.out.c0
          have c4 := HP4.out.c1
          have f3 := HP4.out.fz 0
          have f4 := HP4.out.fz 1
          clear hD4 hb4 hk4 HD3 HP3 HB3
          go_wp2_with fail
          have HDn := HD4.out.put (x := .string x) (y := .bool gx) HP4.out (by omega)
          have HPn : PcAt (w.heap.size + 1) x gx _ := HP4.out.put
          have hBn : Below w.heap.size w ((w4.setCell ⟨w.heap.size + 1, 0, none⟩ (.string x)).setCell ⟨w.heap.size + 1, 1, none⟩ (.bool gx)) := (HB4.out.setCell (p := ⟨w.heap.size + 1, 0, none⟩) (by show w.heap.size ≤ w.heap.size + 1; omega) _).setCell (p := ⟨w.heap.size + 1, 1, none⟩) (by show w.heap.size ≤ w.heap.size + 1; omega) _
          go_roundw
          case rel =>
            go_light
            exact ⟨k + 1, 0, gx, x, _, by omega, hlt, by go_num, by go_num, HDn, HPn, HG2, HS2, hBn⟩
          case measure => go_light; simp [intOf]; omega
        · have hE := e_list
          go_wp2_with fail
          refine (pieceJoint_any t g n _ hn J HJ.out).mono ?_
          rintro e w2 ⟨rfl, hb2⟩
          have HD2 : Hid (Bd w.heap.size w.heap.size out w2) := HD.out.stays hb2
          have HP2 : Hid (PcAt (w.heap.size + 1) t g w2) := HP.out.stays hb2
          have HB2 : Hid (Below w.heap.size w w2) := HB.out.trans (hb2.mono HB.out.size)
          clear hb2 HD HP HB c1 c2 c3 c4
          go_wp2_with fail
          refine (write_any w.heap.size w.heap.size out J _ HD2.out (by have := HJS.out; omega) HB2.out.size).mono ?_
          rintro e w3 ⟨rfl, hD3, hb3, hk3⟩
          have HD3 : Hid (Bd w.heap.size w.heap.size (out ++ J) w3) := hD3
          have HP3 : Hid (PcAt (w.heap.size + 1) t g w3) := HP2.out.kept hk3 (by omega)
          have HB3 : Hid (Below w.heap.size w w3) := HB2.out.trans hb3
          obtain ⟨b', off', hbo, c1, c2⟩ := HV.out.cells HB3.out HX.out
          injection hbo with hbo
          injection hbo with e1 e2 e3
          subst e1
          subst e2
          clear hD3 hb3 hk3 HD2 HP2 HB2
          go_wp2_with fail
          refine (write_any w.heap.size w.heap.size (out ++ J) _ _ HD3.out (by rw [ByteArray.size_append]; have := HJS.out; omega) HB3.out.size).mono ?_
          rintro e w4 ⟨rfl, hD4, hb4, hk4⟩
          have HP4 : Hid (PcAt (w.heap.size + 1) t g w4) := HP3.out.kept hk4 (by omega)
          have HB4 : Hid (Below w.heap.size w w4) := HB3.out.trans hb4
          have HD4 : Hid (Bd w.heap.size w.heap.size (out ++ J ++ _) w4) := hD4
          clear c1 c2
          obtain ⟨b', off', hbo, c1, c2⟩ := HV.out.cells HB4.out HX.out
          injection hbo with hbo
          injection hbo with e1 e2 e3
          subst e1
          subst e2
          have c3 := HP4.out.c0
          have c4 := HP4.out.c1
          have f3 := HP4.out.fz 0
          have f4 := HP4.out.fz 1
          clear hD4 hb4 hk4 HD3 HP3 HB3
          go_wp2_with fail
          have HDn := HD4.out.put (x := .string ByteArray.empty) (y := .bool true) HP4.out (by omega)
          have HPn : PcAt (w.heap.size + 1) ByteArray.empty true _ := HP4.out.put
          have hBn : Below w.heap.size w ((w4.setCell ⟨w.heap.size + 1, 0, none⟩ (.string ByteArray.empty)).setCell ⟨w.heap.size + 1, 1, none⟩ (.bool true)) := (HB4.out.setCell (p := ⟨w.heap.size + 1, 0, none⟩) (by show w.heap.size ≤ w.heap.size + 1; omega) _).setCell (p := ⟨w.heap.size + 1, 1, none⟩) (by show w.heap.size ≤ w.heap.size + 1; omega) _
          go_roundw
          case rel =>
            go_light
            exact ⟨k + 1, 0, true, ByteArray.empty, _, by omega, hlt, by go_num, by go_num, HDn, HPn, HG2, HS2, hBn⟩
          case measure => go_light; simp [intOf]; omega
        · have hE := e_list
          go_wp2_with fail
          refine (pieceJoint_any t g n _ hn J HJ.out).mono ?_
          rintro e w2 ⟨rfl, hb2⟩
          have HD2 : Hid (Bd w.heap.size w.heap.size out w2) := HD.out.stays hb2
          have HP2 : Hid (PcAt (w.heap.size + 1) t g w2) := HP.out.stays hb2
          have HB2 : Hid (Below w.heap.size w w2) := HB.out.trans (hb2.mono HB.out.size)
          clear hb2 HD HP HB c1 c2 c3 c4
          go_wp2_with fail
          refine (write_any w.heap.size w.heap.size out J _ HD2.out (by have := HJS.out; omega) HB2.out.size).mono ?_
          rintro e w3 ⟨rfl, hD3, hb3, hk3⟩
          have HD3 : Hid (Bd w.heap.size w.heap.size (out ++ J) w3) := hD3
          have HP3 : Hid (PcAt (w.heap.size + 1) t g w3) := HP2.out.kept hk3 (by omega)
          have HB3 : Hid (Below w.heap.size w w3) := HB2.out.trans hb3
          obtain ⟨b', off', hbo, c1, c2⟩ := HV.out.cells HB3.out HX.out
          injection hbo with hbo
          injection hbo with e1 e2 e3
          subst e1
          subst e2
          clear hD3 hb3 hk3 HD2 HP2 HB2
          go_wp2_with fail
          refine (write_any w.heap.size w.heap.size (out ++ J) _ _ HD3.out (by rw [ByteArray.size_append]; have := HJS.out; omega) HB3.out.size).mono ?_
          rintro e w4 ⟨rfl, hD4, hb4, hk4⟩
          have HP4 : Hid (PcAt (w.heap.size + 1) t g w4) := HP3.out.kept hk4 (by omega)
          have HB4 : Hid (Below w.heap.size w w4) := HB3.out.trans hb4
          have HD4 : Hid (Bd w.heap.size w.heap.size (out ++ J ++ _) w4) := hD4
          clear c1 c2
          obtain ⟨b', off', hbo, c1, c2⟩ := HV.out.cells HB4.out HX.out
          injection hbo with hbo
          injection hbo with e1 e2 e3
          subst e1
          subst e2
          have c3 := HP4.out.c0
          have c4 := HP4.out.c1
          have f3 := HP4.out.fz 0
          have f4 := HP4.out.fz 1
          clear hD4 hb4 hk4 HD3 HP3 HB3
          go_wp2_with fail
          have HDn := HD4.out.put (x := .string ByteArray.empty) (y := .bool false) HP4.out (by omega)
          have HPn : PcAt (w.heap.size + 1) ByteArray.empty false _ := HP4.out.put
          have hBn : Below w.heap.size w ((w4.setCell ⟨w.heap.size + 1, 0, none⟩ (.string ByteArray.empty)).setCell ⟨w.heap.size + 1, 1, none⟩ (.bool false)) := (HB4.out.setCell (p := ⟨w.heap.size + 1, 0, none⟩) (by show w.heap.size ≤ w.heap.size + 1; omega) _).setCell (p := ⟨w.heap.size + 1, 1, none⟩) (by show w.heap.size ≤ w.heap.size + 1; omega) _
          go_roundw
          case rel =>
            go_light
            exact ⟨k + 1, 0, false, ByteArray.empty, _, by omega, hlt, by go_num, by go_num, HDn, HPn, HG2, HS2, hBn⟩
          case measure => go_light; simp [intOf]; omega
    · have hlt' : ¬ (k : Int) < (ps.length : Int) := by omega
      have HO : Hid (out = R) := by
        show out = R
        rw [← HG.out, show ps.drop k = [] from List.drop_eq_nil_of_le (by omega)]
        rfl
      clear HG HS
      go_wp2_with fail
      refine (string_any w.heap.size w.heap.size out _ HD.out HB.out.size).mono ?_
      rintro e w2 ⟨rfl, hb2⟩
      go_wp2_with fail
      go_ret
      exact ⟨ret_str HO.out, HB.out.trans hb2⟩
end Go.Proofs.YtcajfnhbfciahakDoor
/- A step of the reader within single quotes. -/
namespace Go.Proofs.YtcajfnhbfciahakDoor
open Go.ChangeShapes Go.WideShapes Go.ChangeAt Go.RowKit Go.Deep
def Rd (b : Nat) (s : ByteArray) (i : Nat) (l : List Pc) (cur : ByteArray) (fm : Nat) (w : World) : Prop :=
  RdM b s i l cur fm w ∧ s.size ≤ 1048576 ∧ i ≤ s.size ∧ fm ≤ cur.size ∧ totC l + l.length + cur.size ≤ 2 * i
/-- What a step leaves: it goes on, it was the closing quote, or there is a fault. -/
def SPost (G : Nat → List Pc → ByteArray → Nat → ByteArray × Nat × Nat) (J : Nat → Prop) (b : Nat) (s : ByteArray) (i : Nat) (l : List Pc) (cur : ByteArray) (fm : Nat) (w : World) (e : Ending) (w' : World) : Prop :=
  Below b w w' ∧ ((e = .returned (.bool true) ∧ ∃ i' l' cur' fm', Rd b s i' l' cur' fm' w' ∧ i < i' ∧ J fm' ∧ G i' l' cur' fm' = G i l cur fm) ∨
    (e = .returned (.bool false) ∧ ∃ i', Rd b s i' l cur fm w' ∧ G i l cur fm = (foldFlow (l ++ [(cur, false)]), i', 0)) ∨
    (∃ c p, e = faultE c p ∧ G i l cur fm = (ByteArray.empty, p, c)))
def StepC (g : Nat) (V : World → Prop) (G : Nat → List Pc → ByteArray → Nat → ByteArray × Nat × Nat) (J : Nat → Prop) (s : ByteArray) : Prop :=
  ∀ (b i : Nat) (l : List Pc) (cur : ByteArray) (fm : Nat) (w : World), Rd b s i l cur fm w → J fm → V w →
    Calls Tryd.prog g #[.pointer (some ⟨b, 0, none⟩)] w fun e w' => SPost G J b s i l cur fm w e w'
def b2 (c d : Nat) : ByteArray := ⟨#[c.toUInt8, d.toUInt8]⟩
theorem b2_app (c d : Nat) : b1 c ++ b1 d = b2 c d := by
  apply ba_ext
  rw [ByteArray.data_append, Array.toList_append]
  rfl
theorem take2 (s : ByteArray) (p : Nat) (h : p + 1 < s.size) : (s.extract p s.size).extract 0 2 = b2 (bt s p) (bt s (p + 1)) := by
  have e : (s.extract p s.size).extract 0 2 = s.extract p (p + 1 + 1) := by
    apply ba_ext
    simp only [ByteArray.data_extract, Array.toList_extract, List.extract_eq_take_drop, List.drop_zero]
    rw [List.take_take]
    congr 1
    omega
  rw [e, extract_snoc s p (p + 1) (by omega) h, extract_snoc s p p (Nat.le_refl _) (by omega), extract_same]
  have h0 : ByteArray.empty ++ b1 (bt s p) = b1 (bt s p) := by
    apply ba_ext
    rw [ByteArray.data_append, Array.toList_append]
    rfl
  rw [h0, b2_app]
theorem b2_inj {x y c d : Nat} (hx : x < 256) (hy : y < 256) (hc : c < 256) (hd : d < 256) (h : b2 x y = b2 c d) : x = c ∧ y = d := by
  unfold b2 at h
  injection h with h
  have h2 : x.toUInt8 = c.toUInt8 ∧ y.toUInt8 = d.toUInt8 := by simpa using h
  have e : ∀ z, z < 256 → (z.toUInt8).toNat = z := fun z hz => by show (UInt8.ofNat z).toNat = z; rw [UInt8.toNat_ofNat']; omega
  have h3 := congrArg UInt8.toNat h2.1
  have h4 := congrArg UInt8.toNat h2.2
  rw [e _ hx, e _ hc] at h3
  rw [e _ hy, e _ hd] at h4
  exact ⟨h3, h4⟩
theorem pre2 (s : ByteArray) (p c d : Nat) (hp : p ≤ s.size) (hc : c < 256) (hd : d < 256) : pre (s.extract p s.size) (b2 c d) = decide (p + 1 < s.size ∧ bt s p = c ∧ bt s (p + 1) = d) := by
  have hz : (s.extract p s.size).size = s.size - p := by rw [ByteArray.size_extract]; omega
  have h2 : (b2 c d).size = 2 := rfl
  unfold pre
  rw [hz, h2, Bool.eq_iff_iff, decide_eq_true_eq, decide_eq_true_eq]
  constructor
  · intro h
    have hl : p + 1 < s.size := by omega
    rw [take2 s p hl] at h
    exact ⟨hl, b2_inj (bt_lt _ _) (bt_lt _ _) hc hd h.2⟩
  · intro h
    exact ⟨by omega, by rw [take2 s p h.1, h.2.1, h.2.2]⟩
theorem pre1_yes {s : ByteArray} {p c : Nat} (h : p < s.size) (hc : c < 256) (e : bt s p = c) : pre (s.extract p s.size) (b1 c) = true := by
  rw [pre1 s p c (Nat.le_of_lt h) hc, decide_eq_true h, e]
  simp
theorem pre1_no {s : ByteArray} {p c : Nat} (hp : p ≤ s.size) (hc : c < 256) (h : ¬ (p < s.size ∧ bt s p = c)) : pre (s.extract p s.size) (b1 c) = false := by
  rw [pre1 s p c hp hc]
  by_cases h' : p < s.size
  · rw [decide_eq_true h', Bool.true_and, beq_eq_false_iff_ne]
    exact fun e => h ⟨h', e⟩
  · rw [decide_eq_false h', Bool.false_and]
theorem pre2_yes {s : ByteArray} {p c d : Nat} (h : p + 1 < s.size) (hc : c < 256) (hd : d < 256) (e : bt s p = c) (e2 : bt s (p + 1) = d) : pre (s.extract p s.size) (b2 c d) = true := by
  rw [pre2 s p c d (by omega) hc hd, decide_eq_true_eq]
  exact ⟨h, e, e2⟩
theorem pre2_no {s : ByteArray} {p c d : Nat} (hp : p ≤ s.size) (hc : c < 256) (hd : d < 256) (h : ¬ (p + 1 < s.size ∧ bt s p = c ∧ bt s (p + 1) = d)) : pre (s.extract p s.size) (b2 c d) = false := by
  rw [pre2 s p c d hp hc hd, decide_eq_false_iff_not]
  exact h
/-- The place goes one on. -/
theorem rd_step {b : Nat} {s : ByteArray} {i j : Nat} {l : List Pc} {cur : ByteArray} {fm : Nat} {w : World} (h : RdM b s i l cur fm w) (v : Int) (hv : v = (j : Int)) : RdM b s j l cur fm (w.setCell ⟨b, 1, none⟩ (.int .i64 v)) := by
  subst hv
  obtain ⟨la, ln, lc, ca, cn, cc, h1, h2, h3⟩ := h
  exact ⟨la, ln, lc, ca, cn, cc, h1.set1 j, row_past h2, row_past h3⟩
theorem rd_c1 {b : Nat} {s : ByteArray} {i : Nat} {l : List Pc} {cur : ByteArray} {fm : Nat} {w : World} (h : RdM b s i l cur fm w) : w.cell? ⟨b, 1, none⟩ = some (.int .i64 (i : Int)) ∧ w.frozen? ⟨b, 1, none⟩ = false := by
  obtain ⟨la, ln, lc, ca, cn, cc, h1, _, _⟩ := h
  exact ⟨h1.c1, h1.fz 1⟩
def p39 (c : Nat) : Bool := c == 39 || c == 10
theorem p39_signs : SignsQ p39 ((⟨#[39]⟩ : ByteArray) ++ ByteArray.mk #[10]) := by
  intro x hx
  show p39 x = [39, 10].contains x.toUInt8
  rw [List.contains_cons, List.contains_cons, List.contains_nil, u8_eq hx, u8_eq hx, Bool.or_false]
  rfl
def q39 (c : Nat) : Bool := !p39 c
def Gs (s : ByteArray) (i : Nat) (l : List Pc) (cur : ByteArray) (_ : Nat) : ByteArray × Nat × Nat := sgR s i l cur
end Go.Proofs.YtcajfnhbfciahakDoor
/- The contract of impl.quotedAt, over that of its step. -/
namespace Go.Proofs.YtcajfnhbfciahakDoor
open Go.ChangeShapes Go.WideShapes Go.ChangeAt Go.RowKit Go.Deep
/-- The variables of the answer. -/
def Vars (a : Nat) (w : World) : Prop := w.heap[a]? = some (.cells #[.string ⟨#[]⟩] 9 (0, 0)) ∧ w.heap[a + 1]? = some (.cells #[.int .i64 0] 3 (0, 0)) ∧ w.heap[a + 1 + 1]? = some (.cells #[.int .i64 0] 3 (0, 0))
theorem Vars.stays {a b : Nat} {w w' : World} (h : Vars a w) (hb : Below b w w') (hab : a + 2 < b) : Vars a w' :=
  ⟨(hb.block _ (by omega)).trans h.1, (hb.block _ (by omega)).trans h.2.1, (hb.block _ (by omega)).trans h.2.2⟩
theorem vars_new (w : World) : Vars w.heap.size (((w.alloc (.cells #[.string ⟨#[]⟩] 9)).alloc (.cells #[.int .i64 0] 3)).alloc (.cells #[.int .i64 0] 3)) := by
  refine ⟨?_, ?_, ?_⟩
  · show (((w.heap.push _).push _).push _)[_]? = _; rw [Array.getElem?_push, if_neg (by simp; omega), Array.getElem?_push, if_neg (by simp), Array.getElem?_push, if_pos rfl]
  · show (((w.heap.push _).push _).push _)[_]? = _; rw [Array.getElem?_push, if_neg (by simp), Array.getElem?_push, if_pos (by simp)]
  · show (((w.heap.push _).push _).push _)[_]? = _; rw [Array.getElem?_push, if_pos (by simp)]
/-- The reader as it is made. -/
theorem rd_new (W : World) (s : ByteArray) (k : Nat) : RdM W.heap.size s k [] ByteArray.empty 0 (W.alloc (.cells #[.string s, .int .i64 (k : Int), .slice none 0 0, .slice none 0 0, .int .i64 0] 49)) :=
  ⟨none, 0, 0, none, 0, 0, heap_alloc_new W _, World.ownsRow_nil _ _ _ _, World.ownsRow_nil _ _ _ _⟩
/-- The answer's variables behind the closure. -/
theorem vars_read {a : Nat} {w W : World} {c at_ : Int} (hv : Vars a W) (hb : Below a w W) :
    ((((W.setCell ⟨a, 0, none⟩ (.string ⟨#[]⟩)).setCell ⟨a + 1, 0, none⟩ (.int .i64 at_)).setCell ⟨a + 1 + 1, 0, none⟩ (.int .i64 c)).drew.cell? ⟨a, 0, none⟩ = some (.string ⟨#[]⟩) ∧
     (((W.setCell ⟨a, 0, none⟩ (.string ⟨#[]⟩)).setCell ⟨a + 1, 0, none⟩ (.int .i64 at_)).setCell ⟨a + 1 + 1, 0, none⟩ (.int .i64 c)).drew.cell? ⟨a + 1, 0, none⟩ = some (.int .i64 at_) ∧
     (((W.setCell ⟨a, 0, none⟩ (.string ⟨#[]⟩)).setCell ⟨a + 1, 0, none⟩ (.int .i64 at_)).setCell ⟨a + 1 + 1, 0, none⟩ (.int .i64 c)).drew.cell? ⟨a + 1 + 1, 0, none⟩ = some (.int .i64 c)) ∧
    Below a w (((W.setCell ⟨a, 0, none⟩ (.string ⟨#[]⟩)).setCell ⟨a + 1, 0, none⟩ (.int .i64 at_)).setCell ⟨a + 1 + 1, 0, none⟩ (.int .i64 c)).drew := by
  obtain ⟨y0, y1, y2⟩ := hv
  have i1 : ¬ (a + 1 + 1 = a) := by omega
  have i2 : ¬ (a = a + 1 + 1) := by omega
  refine ⟨⟨?_, ?_, ?_⟩, (((hb.setCell (Nat.le_refl _) _).setCell (by show _ ≤ _ + 1; omega) _).setCell (by show _ ≤ _ + 1 + 1; omega) _).drew⟩
  · show World.cell? (((W.setCell ⟨a, 0, none⟩ (.string ⟨#[]⟩)).setCell ⟨a + 1, 0, none⟩ (.int .i64 at_)).setCell ⟨a + 1 + 1, 0, none⟩ (.int .i64 c)) _ = _
    simp [World.cell?, World.setCell, Array.getElem?_modify, y0, i1]
  · show World.cell? (((W.setCell ⟨a, 0, none⟩ (.string ⟨#[]⟩)).setCell ⟨a + 1, 0, none⟩ (.int .i64 at_)).setCell ⟨a + 1 + 1, 0, none⟩ (.int .i64 c)) _ = _
    simp [World.cell?, World.setCell, Array.getElem?_modify, y1]
  · show World.cell? (((W.setCell ⟨a, 0, none⟩ (.string ⟨#[]⟩)).setCell ⟨a + 1, 0, none⟩ (.int .i64 at_)).setCell ⟨a + 1 + 1, 0, none⟩ (.int .i64 c)) _ = _
    simp [World.cell?, World.setCell, Array.getElem?_modify, y2, i2]
theorem vars_read2 {a : Nat} {w W : World} {t : ByteArray} {c at_ : Int} (hv : Vars a W) (hb : Below a w W) :
    ((((W.setCell ⟨a, 0, none⟩ (.string t)).setCell ⟨a + 1, 0, none⟩ (.int .i64 at_)).setCell ⟨a + 1 + 1, 0, none⟩ (.int .i64 c)).cell? ⟨a, 0, none⟩ = some (.string t) ∧
     (((W.setCell ⟨a, 0, none⟩ (.string t)).setCell ⟨a + 1, 0, none⟩ (.int .i64 at_)).setCell ⟨a + 1 + 1, 0, none⟩ (.int .i64 c)).cell? ⟨a + 1, 0, none⟩ = some (.int .i64 at_) ∧
     (((W.setCell ⟨a, 0, none⟩ (.string t)).setCell ⟨a + 1, 0, none⟩ (.int .i64 at_)).setCell ⟨a + 1 + 1, 0, none⟩ (.int .i64 c)).cell? ⟨a + 1 + 1, 0, none⟩ = some (.int .i64 c)) ∧
    Below a w (((W.setCell ⟨a, 0, none⟩ (.string t)).setCell ⟨a + 1, 0, none⟩ (.int .i64 at_)).setCell ⟨a + 1 + 1, 0, none⟩ (.int .i64 c)) := by
  obtain ⟨y0, y1, y2⟩ := hv
  have i1 : ¬ (a + 1 + 1 = a) := by omega
  have i2 : ¬ (a = a + 1 + 1) := by omega
  refine ⟨⟨?_, ?_, ?_⟩, ((hb.setCell (Nat.le_refl _) _).setCell (by show _ ≤ _ + 1; omega) _).setCell (by show _ ≤ _ + 1 + 1; omega) _⟩
  · simp [World.cell?, World.setCell, Array.getElem?_modify, y0, i1]
  · simp [World.cell?, World.setCell, Array.getElem?_modify, y1]
  · simp [World.cell?, World.setCell, Array.getElem?_modify, y2, i2]
theorem catch_vars {a : Nat} {w w1 : World} (c at_ : Int) (hv : Vars a w1) (hb : Below a w w1) (hlt : a + 3 ≤ w1.heap.size) :
    CallsD Tryd.prog 27 #[.pointer (some ⟨a, 0, none⟩), .pointer (some ⟨a + 1, 0, none⟩), .pointer (some ⟨a + 1 + 1, 0, none⟩)] (.panicking [{ v := .iface 46 (.agg #[.int .i64 c, .int .i64 at_]), recovered := false }]) w1 fun e u' F =>
      e = .returned (.tuple #[]) ∧ u' = .panicking [{ v := .iface 46 (.agg #[.int .i64 c, .int .i64 at_]), recovered := true }] ∧
      (F.cell? ⟨a, 0, none⟩ = some (.string ⟨#[]⟩) ∧ F.cell? ⟨a + 1, 0, none⟩ = some (.int .i64 at_) ∧ F.cell? ⟨a + 1 + 1, 0, none⟩ = some (.int .i64 c)) ∧ Below a w F := by
  obtain ⟨u0, u1, u2⟩ := hv
  refine (catch_fault a (a + 1) (a + 1 + 1) (.string ⟨#[]⟩) (.int .i64 0) (.int .i64 0) c at_ [] w1 (by simp [World.cell?, u0]) (by simp [World.cell?, u1]) (by simp [World.cell?, u2]) (by simp [World.frozen?, u0]) (by simp [World.frozen?, u1]) (by simp [World.frozen?, u2]) (by omega) (by omega) (by omega)).mono ?_
  rintro e u' w'' ⟨rfl, rfl, W, hW, rfl⟩
  have h := vars_read (c := c) (at_ := at_) (Vars.stays (b := w1.heap.size) ⟨u0, u1, u2⟩ hW (by omega)) (hb.trans (hW.mono (by omega)))
  exact ⟨rfl, rfl, h.1, h.2⟩
def atOf (b : Nat) (w : World) : Nat := match w.cell? ⟨b, 1, none⟩ with
  | some (.int _ i) => i.toNat
  | _ => 0
theorem atOf_is {b : Nat} {s : ByteArray} {i : Nat} {l : List Pc} {cur : ByteArray} {fm : Nat} {w : World} (h : RdM b s i l cur fm w) : atOf b w = i := by
  unfold atOf
  rw [(rd_c1 h).1]
  simp
set_option maxHeartbeats 8000000 in
theorem quoted_any (g : Nat) (eg : ∀ args w, (callFunc g args).run Tryd.prog w = .ok (.enter g args) w) (V : World → Prop) (G : Nat → List Pc → ByteArray → Nat → ByteArray × Nat × Nat) (J : Nat → Prop) (s qt : ByteArray) (p : Int) (w : World)
    (hstep : StepC g V G J s) (hJ : J 0) (hV : ∀ w', Below w.heap.size w w' → V w') (hs : s.size ≤ 1048576) (T : ByteArray) (E C : Nat)
    (hres : (if pre (s.extract (cl s.size p) s.size) qt = true then G (cl s.size p + 1) [] ByteArray.empty 0 else (ByteArray.empty, cl s.size p, 10)) = (T, E, C)) (hq : pre (s.extract (cl s.size p) s.size) qt = true → cl s.size p < s.size) :
    Calls Tryd.prog 21 #[.string s, .int .i64 p, .string qt, .func (.func g) #[] #[]] w fun e w' => e = .returned (.tuple #[.string T, .int .i64 (E : Int), .int .i64 (C : Int)]) ∧ Below w.heap.size w w' := by
  have hmf : ∀ (fn : Fn) (first cap : Array Value) (w : World), (Instr.makeFunc fn first cap).run Tryd.prog w = .ok (.func fn first cap) w := fun _ _ _ _ => rfl
  have hcl := cl_le s.size p
  have hmx : s.size ≤ mx := by unfold mx; omega
  have HST : Hid (StepC g V G J s) := hstep
  have HV : Hid (∀ w', Below w.heap.size w w' → V w') := hV
  have HJ : Hid (J 0) := hJ
  obtain ⟨k, hk⟩ : ∃ k, cl s.size p = k := ⟨_, rfl⟩
  have cB := bring_any s p (((w.alloc (.cells #[.string ⟨#[]⟩] 9)).alloc (.cells #[.int .i64 0] 3)).alloc (.cells #[.int .i64 0] 3)) hmx
  rw [hk] at cB hres hq hcl
  have HRES : Hid ((if pre (s.extract k s.size) qt = true then G (k + 1) [] ByteArray.empty 0 else (ByteArray.empty, k, 10)) = (T, E, C)) := hres
  have HQ : Hid (pre (s.extract k s.size) qt = true → k < s.size) := hq
  clear hstep hV hJ hres hq hk
  go_enter_defers Tryd.func21, Tryd.ntmps21
  go_wp2_with fail
  refine cB.mono ?_
  rintro e w1 ⟨rfl, hw1⟩
  clear cB
  have HW1 : Hid (Vars w.heap.size w1) := by show Vars _ _; rw [hw1]; exact vars_new w
  have HB1 : Hid (Below w.heap.size w w1) := by show Below _ _ _; rw [hw1]; exact (((Below.refl _ w).alloc (Nat.le_refl _) _).alloc (by simp) _).alloc (by simp; omega) _
  have HZ1 : Hid (w1.heap.size = w.heap.size + 3) := by show _ = _; rw [hw1]; simp
  clear hw1
  go_wp2_with fail
  have HR0 : Hid (RdM w1.heap.size s k [] ByteArray.empty 0 (w1.alloc (.cells #[.string s, .int .i64 (k : Int), .slice none 0 0, .slice none 0 0, .int .i64 0] 49))) := rd_new w1 s k
  have HB2 : Hid (Below w.heap.size w (w1.alloc (.cells #[.string s, .int .i64 (k : Int), .slice none 0 0, .slice none 0 0, .int .i64 0] 49))) := HB1.out.alloc (by have := HZ1.out; omega) _
  have HW2 : Hid (Vars w.heap.size (w1.alloc (.cells #[.string s, .int .i64 (k : Int), .slice none 0 0, .slice none 0 0, .int .i64 0] 49))) := HW1.out.stays ((Below.refl w1.heap.size w1).alloc (Nat.le_refl _) _) (by have := HZ1.out; omega)
  have HZ2 : Hid (w.heap.size + 3 < (w1.alloc (.cells #[.string s, .int .i64 (k : Int), .slice none 0 0, .slice none 0 0, .int .i64 0] 49)).heap.size) := by show _ < _; have := HZ1.out; simp; omega
  obtain ⟨b, hb⟩ : ∃ b, w1.heap.size = b := ⟨_, rfl⟩
  rw [hb] at HR0 HZ1 ⊢
  obtain ⟨w2, hw2⟩ : ∃ w2, w1.alloc (.cells #[.string s, .int .i64 (k : Int), .slice none 0 0, .slice none 0 0, .int .i64 0] 49) = w2 := ⟨_, rfl⟩
  rw [hw2] at HR0 HB2 HW2 HZ2 ⊢
  clear hw2 hb HW1 HB1
  by_cases hp : pre (s.extract k s.size) qt = true
  · have hkl := HQ.out hp
    refine (open_yes b s qt k [] ByteArray.empty 0 w2 HR0.out hs hcl hp).mono ?_
    rintro e w3 ⟨rfl, hR3, hb3⟩
    have HG : Hid (G (k + 1) [] ByteArray.empty 0 = (T, E, C)) := by show _ = _; have h := HRES.out; rw [if_pos hp] at h; exact h
    have HZ : Hid (b = w.heap.size + 3) := HZ1.out
    have HW3 : Hid (Vars w.heap.size w3) := HW2.out.stays hb3 (by have := HZ.out; omega)
    have HB3 : Hid (Below w.heap.size w w3) := HB2.out.trans (hb3.mono (by have := HZ.out; omega))
    have HR3 : Hid (Rd b s (k + 1) [] ByteArray.empty 0 w3) := ⟨hR3, hs, hkl, Nat.zero_le _, Nat.zero_le _⟩
    clear hR3 hb3 hp HRES HQ HR0 HB2 HW2 HZ2 HZ1 hkl hcl hmx
    go_wp2_with fail
    go_loopw [24] (fun _ wr => ∃ (i : Nat) (l : List Pc) (cur : ByteArray) (fm : Nat), Hid (Rd b s i l cur fm wr) ∧ Hid (J fm) ∧ Hid (G i l cur fm = (T, E, C)) ∧ Hid (Vars w.heap.size wr) ∧ Hid (Below w.heap.size w wr)) (fun _ wr => s.size + 1 - atOf b wr)
    case atStart => exact ⟨k + 1, [], ByteArray.empty, 0, HR3, HJ, HG, HW3, HB3⟩
    case round =>
      obtain ⟨i, l, cur, fm, HR, HJ1, HGi, HWr, HBr⟩ := hrel
      clear HR3 HJ HG HW3 HB3
      go_wp2_with fail
      refine (HST.out b i l cur fm wr HR.out HJ1.out (HV.out _ HBr.out)).mono ?_
      rintro e w4 ⟨hb4, ⟨rfl, i', l', cur', fm', hR4, hii, hJ4, hG4⟩ | ⟨rfl, i', hR4, hG4⟩ | ⟨c, pl, rfl, hG4⟩⟩
      · have HN : Hid (Rd b s i' l' cur' fm' w4 ∧ J fm' ∧ G i' l' cur' fm' = (T, E, C) ∧ Vars w.heap.size w4 ∧ Below w.heap.size w w4) := ⟨hR4, hJ4, hG4.trans HGi.out, HWr.out.stays hb4 (by have := HZ.out; omega), HBr.out.trans (hb4.mono (by have := HZ.out; omega))⟩
        have HM : Hid (s.size + 1 - atOf b w4 < s.size + 1 - atOf b wr) := by
          show _ < _
          rw [atOf_is hR4.1, atOf_is HR.out.1]
          have := hR4.2.2.1
          omega
        clear hb4 hR4 hii hJ4 hG4
        go_wp2_with fail
        go_roundw
        case rel => exact ⟨i', l', cur', fm', HN.out.1, HN.out.2.1, HN.out.2.2.1, HN.out.2.2.2.1, HN.out.2.2.2.2⟩
        case measure => exact HM.out
      · have HN : Hid (RdM b s i' l cur fm w4 ∧ Vars w.heap.size w4 ∧ Below w.heap.size w w4) := ⟨hR4.1, HWr.out.stays hb4 (by have := HZ.out; omega), HBr.out.trans (hb4.mono (by have := HZ.out; omega))⟩
        have HL : Hid (totC l + l.length + cur.size ≤ 4194304) := by show _ ≤ _; have h1 := hR4.2.1; have h2 := hR4.2.2.1; have h3 := hR4.2.2.2.2; omega
        have HE : Hid ((foldFlow (l ++ [(cur, false)]), i', 0) = (T, E, C)) := by show _ = _; rw [← hG4]; exact HGi.out
        obtain ⟨t, ht⟩ : ∃ t, foldFlow (l ++ [(cur, false)]) = t := ⟨_, rfl⟩
        have cT := text_any implFf b s i' l cur fm w4.drew HN.out.1 HL.out
        rw [ht] at cT HE
        obtain ⟨c1, _⟩ := rd_c1 HN.out.1
        clear hb4 hR4 hG4 ht HL
        go_wp2_with fail
        have n0 : w.heap.size ≠ b := by have := HZ.out; omega
        have n1 : w.heap.size + 1 ≠ b := by have := HZ.out; omega
        have n2 : w.heap.size + 1 + 1 ≠ b := by have := HZ.out; omega
        have m0 := n0.symm
        have m1 := n1.symm
        have m2 := n2.symm
        go_region_held3 (fun W => W.cell? ⟨b, 1, none⟩ = some (.int .i64 (i' : Int)))
          (first | exact c1 | exact d1 | go_keep)
          ((go_at_call 29; refine cT.mono ?_; rintro e w5 ⟨rfl, hR5, hb5⟩; have d1 := (rd_c1 hR5).1; have hV5 := Vars.stays (w := w4.drew) HN.out.2.1 hb5 (by have := HZ.out; omega); have v0 : w5.cell? ⟨w.heap.size, 0, none⟩ = some (.string ⟨#[]⟩) := Lib.cell_of_heap hV5.1 0; have v1 : w5.cell? ⟨w.heap.size + 1, 0, none⟩ = some (.int .i64 0) := Lib.cell_of_heap hV5.2.1 0; have v2 : w5.cell? ⟨w.heap.size + 1 + 1, 0, none⟩ = some (.int .i64 0) := Lib.cell_of_heap hV5.2.2 0; have g0 := Lib.frozen_of_heap hV5.1 0; have g1 := Lib.frozen_of_heap hV5.2.1 0; have g2 := Lib.frozen_of_heap hV5.2.2 0))
        have HX := vars_read2 (t := t) (c := 0) (at_ := (i' : Int)) hV5 (HN.out.2.2.drew.trans (hb5.mono (by have := HZ.out; omega)))
        clear hR5 hb5 d1 hV5 v0 v1 v2 g0 g1 g2 c1
        generalize ((w5.setCell ⟨w.heap.size, 0, none⟩ (.string t)).setCell ⟨w.heap.size + 1, 0, none⟩ (.int .i64 (i' : Int))).setCell ⟨w.heap.size + 1 + 1, 0, none⟩ (.int .i64 0) = F at *
        obtain ⟨⟨q0, q1, q2⟩, hfin⟩ := HX
        have HQ0 : Hid (F.cell? ⟨w.heap.size, 0, none⟩ = some (.string t) ∧ F.cell? ⟨w.heap.size + 1, 0, none⟩ = some (.int .i64 (i' : Int)) ∧ F.cell? ⟨w.heap.size + 1 + 1, 0, none⟩ = some (.int .i64 0)) := ⟨q0, q1, q2⟩
        have HFIN : Hid (Below w.heap.size w F) := hfin
        clear q0 q1 q2 hfin n0 n1 n2 m0 m1 m2 cT
        go_wp2_with fail
        refine leaves_cons (f := 27) (args := #[.pointer (some ⟨w.heap.size, 0, none⟩), .pointer (some ⟨w.heap.size + 1, 0, none⟩), .pointer (some ⟨w.heap.size + 1 + 1, 0, none⟩)]) (by simp) (by simp [go_sem]) ?_
        refine (catch_idle _ _ _ _).mono ?_
        rintro e u' F' ⟨rfl, rfl, rfl⟩
        simp only [settle]
        have e0 := HE.out
        injection e0 with e1 e2
        injection e2 with e2 e3
        subst e1
        subst e2
        subst e3
        obtain ⟨q0, q1, q2⟩ := HQ0.out
        refine ⟨.tuple #[.string t, .int .i64 (i' : Int), .int .i64 0], ?_, rfl, HFIN.out⟩
        simp [results, Tryd.results21, asAddr, loadVar, isAgg, run_underlying Tryd.underlying9, run_underlying Tryd.underlying3, go_sem, q0, q1, q2]
      · have HW4 : Hid (Vars w.heap.size w4) := HWr.out.stays hb4 (by have := HZ.out; omega)
        have HB4 : Hid (Below w.heap.size w w4) := HBr.out.trans (hb4.mono (by have := HZ.out; omega))
        have HZ4 : Hid (w.heap.size + 3 ≤ w4.heap.size) := by show _ ≤ _; have h1 := HZ.out; have h2 := HR.out.1.lt; have h3 := hb4.size; omega
        have HE : Hid ((ByteArray.empty, pl, c) = (T, E, C)) := by show _ = _; rw [← hG4]; exact HGi.out
        clear hb4 hG4
        unfold faultE
        refine leaves_cons (f := 27) (args := #[.pointer (some ⟨w.heap.size, 0, none⟩), .pointer (some ⟨w.heap.size + 1, 0, none⟩), .pointer (some ⟨w.heap.size + 1 + 1, 0, none⟩)]) (by simp) (by simp [go_sem]) ?_
        refine (catch_vars (c : Int) (pl : Int) HW4.out HB4.out HZ4.out).mono ?_
        rintro e u' F ⟨rfl, rfl, ⟨q0, q1, q2⟩, hfin⟩
        simp only [settle]
        have e0 := HE.out
        injection e0 with e1 e2
        injection e2 with e2 e3
        subst e1
        subst e2
        subst e3
        refine ⟨.tuple #[.string ⟨#[]⟩, .int .i64 (pl : Int), .int .i64 (c : Int)], ?_, rfl, hfin⟩
        simp [results, Tryd.results21, asAddr, loadVar, isAgg, run_underlying Tryd.underlying9, run_underlying Tryd.underlying3, go_sem, q0, q1, q2]
  · have hp' : pre (s.extract k s.size) qt = false := by cases h : pre (s.extract k s.size) qt with
      | true => exact absurd h hp
      | false => rfl
    refine (open_no b s qt k [] ByteArray.empty 0 w2 HR0.out hcl hp').mono ?_
    rintro e w3 ⟨rfl, hb3⟩
    have HE : Hid ((ByteArray.empty, k, 10) = (T, E, C)) := by show _ = _; have h := HRES.out; rw [if_neg hp] at h; exact h
    have HW4 : Hid (Vars w.heap.size w3) := HW2.out.stays hb3 (by have := HZ2.out; omega)
    have HB4 : Hid (Below w.heap.size w w3) := HB2.out.trans (hb3.mono (by have := HZ2.out; omega))
    have HZ4 : Hid (w.heap.size + 3 ≤ w3.heap.size) := by show _ ≤ _; have h1 := HZ2.out; have h3 := hb3.size; omega
    unfold faultE
    refine leaves_cons (f := 27) (args := #[.pointer (some ⟨w.heap.size, 0, none⟩), .pointer (some ⟨w.heap.size + 1, 0, none⟩), .pointer (some ⟨w.heap.size + 1 + 1, 0, none⟩)]) (by simp) (by simp [go_sem]) ?_
    refine (catch_vars (10 : Int) (k : Int) HW4.out HB4.out HZ4.out).mono ?_
    rintro e u' F ⟨rfl, rfl, ⟨q0, q1, q2⟩, hfin⟩
    simp only [settle]
    have e0 := HE.out
    injection e0 with e1 e2
    injection e2 with e2 e3
    subst e1
    subst e2
    subst e3
    refine ⟨.tuple #[.string ⟨#[]⟩, .int .i64 (k : Int), .int .i64 (10 : Int)], ?_, rfl, hfin⟩
    simp [results, Tryd.results21, asAddr, loadVar, isAgg, run_underlying Tryd.underlying9, run_underlying Tryd.underlying3, go_sem, q0, q1, q2]
end Go.Proofs.YtcajfnhbfciahakDoor

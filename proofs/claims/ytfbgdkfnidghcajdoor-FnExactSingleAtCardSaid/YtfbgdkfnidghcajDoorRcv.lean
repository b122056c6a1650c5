/- In a deferred call that recovers: the operations behind the recover are walked as elsewhere; an assertion to a struct type. -/
import Derived.Tactics
import Derived.Tactics2
import Derived.Defers
import Derived.Recover
import Derived.Laws.Pointers
import Derived.WalkKit
import Derived.ProofKit
namespace Go.Proofs.YtfbgdkfnidghcajDoor
open Go.RowKit
theorem assert_struct {P : Program} {t xT : TypeId} {fs : Array Field} (h : P.underlying t = some (.struct fs)) (v : Value) (w : World) : (Instr.typeAssert (.iface t v) xT t true).run P w = .ok (.tuple #[v, .bool true]) w := by
  simp [Instr.typeAssert, run_underlying h]
theorem assert_nil {P : Program} {t xT : TypeId} {fs : Array Field} {i : TypeInfo} {z : Value} (h : P.underlying t = some (.struct fs)) (hi : P.info? t = some i) (hz : i.zero = some z) (w : World) : (Instr.typeAssert .nilIface xT t true).run P w = .ok (.tuple #[z, .bool false]) w := by
  simp [Instr.typeAssert, run_underlying h, zeroValue, typeInfo, hi, hz]
theorem opsS_of_list {P : Program} {ops : Array Oper} {Q : Exit → Act → List Frame → World → Prop} {cs : List Frame} (hL : ¬ LetsOut (fun e a w => Q e a cs w)) : ∀ (os : List Oper) (k : Nat), (∀ j, j < os.length → os[j]? = ops[k + j]?) →
    ∀ (a : Act) (w : World), wpList P ops (fun e a w => Q e a cs w) os a w → wpOpsS P ops Q (List.range' k os.length) a cs w
  | [], _, _, _, _, h => h
  | o :: os, k, ho, a, w, h => by
    have h0 : ops[k]? = some o := by simpa using (ho 0 (by simp)).symm
    have hr : ∀ j, j < os.length → os[j]? = ops[k + 1 + j]? := fun j hj => by
      have := ho (j + 1) (by simp; omega)
      simpa [Nat.add_assoc, Nat.add_comm 1 j] using this
    have ih := opsS_of_list (P := P) hL os (k + 1) hr
    show wpOpsS P ops Q (k :: List.range' (k + 1) os.length) a cs w
    rw [wpOpsS, h0]
    rw [wpList] at h
    dsimp only
    split
    · rename_i hw
      rw [if_pos hw] at h
      rcases h with h | h
      · unfold Oper.wp at h
        cases hx : (execOp a.eval o).run P w with
        | ok x w' =>
          rw [hx] at h
          cases x with
          | value v => exact ih _ _ h
          | skip => exact ih _ _ h
          | defer d => exact ih _ _ h
          | enter f args =>
            refine (show Calls P f args w' _ from h).mono ?_
            intro e w'' he
            cases e with
            | returned v => exact ih _ _ he
            | panicked c => exact he
            | outgrown => exact he
          | row row args =>
            intro c cs'
            obtain ⟨v, w'', r, s⟩ := (show Rows P row args w' _ from h) c cs'
            exact ⟨v, w'', ih _ _ r, s⟩
          | _ => exact (h : False).elim
        | halt x w' =>
          rw [hx] at h
          cases x with
          | panic v => exact h
          | _ => exact (h : False).elim
      · exact absurd h.2 hL
    · rename_i hw
      rw [if_neg hw] at h
      exact ih _ _ h
/-- A region that opens with a recover: of a frame that panics. -/
theorem region_recovers {P : Program} {o : Oper} {os : List Oper} {Q : Exit → Act → List Frame → World → Prop} {id : Nat} {a : Act} {c : Frame} {cs : List Frame} {w : World} {v : Value} {older : List PanicEntry}
    (hop : o.op = Op.call { callee := Callee.builtin Builtin.recover, args := #[], argTypes := #[] }) (hg : o.guard = none) (hm : c.mode = .panicking ({ v := v, recovered := false } :: older))
    (hL : ¬ LetsOut (fun e a w => Q e a ({ c with mode := .panicking ({ v := v, recovered := true } :: older) } :: cs) w))
    (h : wpList P (o :: os).toArray (fun e a w => Q e a ({ c with mode := .panicking ({ v := v, recovered := true } :: older) } :: cs) w) os (a.put o.dst v) w) :
    (Code.region id (o :: os).toArray false).wpS P Q a (c :: cs) w := by
  refine wpS_region ?_
  have e : List.range (o :: os).toArray.size = 0 :: List.range' 1 os.length := by
    rw [List.range_eq_range']
    simp [List.range'_succ]
  rw [e, wpOpsS]
  have hw : Region.wanted o (yielded (o :: os).toArray a.tmps) = true := by simp [Region.wanted, hg]
  have hx : (execOp a.eval o).run P w = .ok .recover w := by
    unfold execOp
    simp [hop, resolve, invoke, builtin]
  simp only [List.getElem?_toArray, List.getElem?_cons_zero, hw, if_true, hx]
  simp only [recoverD, hm]
  exact opsS_of_list hL os 1 (fun j hj => by simp [Nat.add_comm 1 j]) _ _ h
/-- Of a frame that returns: there is nothing to recover. -/
theorem region_idle {P : Program} {o : Oper} {os : List Oper} {Q : Exit → Act → List Frame → World → Prop} {id : Nat} {a : Act} {c : Frame} {cs : List Frame} {w : World}
    (hop : o.op = Op.call { callee := Callee.builtin Builtin.recover, args := #[], argTypes := #[] }) (hg : o.guard = none) (hm : c.mode = .returning)
    (hL : ¬ LetsOut (fun e a w => Q e a (c :: cs) w))
    (h : wpList P (o :: os).toArray (fun e a w => Q e a (c :: cs) w) os (a.put o.dst .nilIface) w) :
    (Code.region id (o :: os).toArray false).wpS P Q a (c :: cs) w := by
  refine wpS_region ?_
  have e : List.range (o :: os).toArray.size = 0 :: List.range' 1 os.length := by
    rw [List.range_eq_range']
    simp [List.range'_succ]
  rw [e, wpOpsS]
  have hw : Region.wanted o (yielded (o :: os).toArray a.tmps) = true := by simp [Region.wanted, hg]
  have hx : (execOp a.eval o).run P w = .ok .recover w := by
    unfold execOp
    simp [hop, resolve, invoke, builtin]
  simp only [List.getElem?_toArray, List.getElem?_cons_zero, hw, if_true, hx]
  simp only [recoverD, hm]
  exact opsS_of_list hL os 1 (fun j hj => by simp [Nat.add_comm 1 j]) _ _ h
end Go.Proofs.YtfbgdkfnidghcajDoor

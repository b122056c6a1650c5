/- impl's steps: as interface values, what they are made of, and when two are the same. -/
import Derived.Test.YtmbbmibkjnlkkaaDoorPsg
import Derived.Lib.IfaceEq
import Derived.Test.YtmbbmibkjnlkkaaDoorProg
namespace Go.Proofs.YtmbbmibkjnlkkaaDoor
open Go.ChangeShapes Go.WideShapes Go.ChangeAt Go.RowKit
/-- A step that is right, as it lies in an interface. -/
def stepV (s : Sg) : Value :=
  if s.kind = 1 then .iface 95 (.int .i64 s.n)
  else if s.kind = 2 then .iface 96 (.string s.text)
  else if s.kind = 3 then .iface 97 (.int .i64 s.n)
  else if s.kind = 4 then .iface 99 (.agg #[])
  else .iface 100 (.agg #[])
theorem stepV1 (n : Int) (b : ByteArray) : stepV ⟨1, n, b⟩ = .iface 95 (.int .i64 n) := rfl
theorem stepV2 (n : Int) (b : ByteArray) : stepV ⟨2, n, b⟩ = .iface 96 (.string b) := rfl
theorem stepV3 (n : Int) (b : ByteArray) : stepV ⟨3, n, b⟩ = .iface 97 (.int .i64 n) := rfl
theorem stepV4 (n : Int) (b : ByteArray) : stepV ⟨4, n, b⟩ = .iface 99 (.agg #[]) := rfl
theorem stepV5 (n : Int) (b : ByteArray) : stepV ⟨5, n, b⟩ = .iface 100 (.agg #[]) := rfl
/-- What a right step is. -/
theorem segOk_cases {s : Sg} (h : segOk s = true) : 0 ≤ s.n ∧ s.n ≤ 4294967295 ∧ ((s.kind = 1 ∧ s.text.toList = []) ∨ (s.kind = 2 ∧ s.n = 0) ∨ (s.kind = 3 ∧ s.text.toList = []) ∨ (s.kind = 4 ∧ s.n = 0 ∧ s.text.toList = []) ∨ (s.kind = 5 ∧ s.n = 0 ∧ s.text.toList = [])) := by
  unfold segOk noT at h
  simp only [Bool.and_eq_true, Bool.or_eq_true, decide_eq_true_eq, List.isEmpty_iff] at h
  obtain ⟨h1, h2, h3, h4, h5, h6⟩ := h
  refine ⟨h3, h4, ?_⟩
  have hk : s.kind = 1 ∨ s.kind = 2 ∨ s.kind = 3 ∨ s.kind = 4 ∨ s.kind = 5 := by omega
  rcases hk with k | k | k | k | k
  · exact .inl ⟨k, h6.resolve_left (by omega)⟩
  · exact .inr (.inl ⟨k, (h5.resolve_left (by omega)).resolve_left (by omega)⟩)
  · exact .inr (.inr (.inl ⟨k, h6.resolve_left (by omega)⟩))
  · exact .inr (.inr (.inr (.inl ⟨k, (h5.resolve_left (by omega)).resolve_left (by omega), h6.resolve_left (by omega)⟩)))
  · exact .inr (.inr (.inr (.inr ⟨k, (h5.resolve_left (by omega)).resolve_left (by omega), h6.resolve_left (by omega)⟩)))
theorem ba_nil {b : ByteArray} (h : b.toList = []) : b = ⟨#[]⟩ := by
  rcases b with ⟨⟨d⟩⟩
  simp [ByteArray.toList_eq] at h
  subst h
  rfl
section
variable {P : Program} {ti : TypeId} {ms : Array (String × TypeId)}
theorem neq_types (tx ty : TypeId) (vx vy : Value) (hi : P.underlying ti = some (.interface ms)) (hne : tx ≠ ty) (w : World) :
    (binOp .neq ti (.iface tx vx) (.iface ty vy)).run P w = .ok (.bool true) w := by
  have h : ∀ d : Nat, (Op.equalIn (d + 1) ti (.iface tx vx) (.iface ty vy)).run P w = .ok false w := fun d => by simp [Op.equalIn, run_underlying hi, hne]
  simp only [binOp]
  simp [Op.equal, Op.maxDepth, h 9999]
theorem neq_int {tx : TypeId} {k q : IntKind} (a b : Int) (hi : P.underlying ti = some (.interface ms)) (hc : (P.info? tx).map (·.comparable) = some true) (hx : P.underlying tx = some (.int q)) (w : World) :
    (binOp .neq ti (.iface tx (.int k a)) (.iface tx (.int k b))).run P w = .ok (.bool (!(a == b))) w := by
  cases hi2 : P.info? tx with
  | none => simp [hi2] at hc
  | some i =>
    have hcc : i.comparable = true := by simpa [hi2] using hc
    have h : ∀ d : Nat, (Op.equalIn (d + 2) ti (.iface tx (.int k a)) (.iface tx (.int k b))).run P w = .ok (a == b) w := fun d => by
      simp [Op.equalIn, run_underlying hi, run_underlying hx, typeInfo, hi2, hcc]
    simp only [binOp]
    simp [Op.equal, Op.maxDepth, h 9998]
theorem neq_string {tx : TypeId} (a b : ByteArray) (hi : P.underlying ti = some (.interface ms)) (hc : (P.info? tx).map (·.comparable) = some true) (hx : P.underlying tx = some .string) (w : World) :
    (binOp .neq ti (.iface tx (.string a)) (.iface tx (.string b))).run P w = .ok (.bool (!(a == b))) w := by
  cases hi2 : P.info? tx with
  | none => simp [hi2] at hc
  | some i =>
    have hcc : i.comparable = true := by simpa [hi2] using hc
    have h : ∀ d : Nat, (Op.equalIn (d + 2) ti (.iface tx (.string a)) (.iface tx (.string b))).run P w = .ok (a == b) w := fun d => by
      simp [Op.equalIn, run_underlying hi, run_underlying hx, typeInfo, hi2, hcc]
    simp only [binOp]
    simp [Op.equal, Op.maxDepth, h 9998]
theorem neq_unit {tx : TypeId} (hi : P.underlying ti = some (.interface ms)) (hc : (P.info? tx).map (·.comparable) = some true) (hx : P.underlying tx = some (.struct #[])) (hs : P.stoodInHeld tx = false) (w : World) :
    (binOp .neq ti (.iface tx (.agg #[])) (.iface tx (.agg #[]))).run P w = .ok (.bool false) w := by
  cases hi2 : P.info? tx with
  | none => simp [hi2] at hc
  | some i =>
    have hcc : i.comparable = true := by simpa [hi2] using hc
    have h : ∀ d : Nat, (Op.equalIn (d + 2) ti (.iface tx (.agg #[])) (.iface tx (.agg #[]))).run P w = .ok true w := fun d => by
      simp [Op.equalIn, run_underlying hi, run_underlying hx, typeInfo, hi2, hcc, hs]
    simp only [binOp]
    simp [Op.equal, Op.maxDepth, h 9998]
end
theorem ba_beq (a b : ByteArray) : (a == b) = (a.toList == b.toList) := by
  rcases a with ⟨⟨a⟩⟩
  rcases b with ⟨⟨b⟩⟩
  rw [ByteArray.toList_eq, ByteArray.toList_eq]
  show (Array.mk a == Array.mk b) = (a == b)
  by_cases h : a = b
  · subst h; simp
  · rw [beq_eq_false_iff_ne.2 h, beq_eq_false_iff_ne.2 (fun e => h (by injection e))]
/-- Two steps that are right are told apart as what they are made of is. -/
theorem step_neq (s x : Sg) (hs : segOk s = true) (hx : segOk x = true) (w : World) :
    (binOp .neq 52 (stepV s) (stepV x)).run Tryd.prog w = .ok (.bool (!segSame s x)) w := by
  obtain ⟨-, -, hs⟩ := segOk_cases hs
  obtain ⟨-, -, hx⟩ := segOk_cases hx
  obtain ⟨sk, sn, st⟩ := s
  obtain ⟨xk, xn, xt⟩ := x
  simp only at hs hx
  unfold segSame
  simp only
  have hi := Tryd.underlying52
  rcases hs with ⟨rfl, e1⟩ | ⟨rfl, rfl⟩ | ⟨rfl, e1⟩ | ⟨rfl, rfl, e1⟩ | ⟨rfl, rfl, e1⟩ <;> rcases hx with ⟨rfl, e2⟩ | ⟨rfl, rfl⟩ | ⟨rfl, e2⟩ | ⟨rfl, rfl, e2⟩ | ⟨rfl, rfl, e2⟩
  all_goals try (refine (neq_types _ _ _ _ hi (by decide) w).trans ?_; rfl)
  · rw [e1, e2]
    refine (neq_int _ _ hi (by kernel_rfl) Tryd.underlying95 w).trans ?_
    simp
  · refine (neq_string _ _ hi (by kernel_rfl) Tryd.underlying96 w).trans ?_
    rw [ba_beq]
    simp
  · rw [e1, e2]
    refine (neq_int _ _ hi (by kernel_rfl) Tryd.underlying97 w).trans ?_
    simp
  · rw [e1, e2]
    refine (neq_unit hi (by kernel_rfl) Tryd.underlying99 (by kernel_rfl) w).trans ?_
    simp
  · rw [e1, e2]
    refine (neq_unit hi (by kernel_rfl) Tryd.underlying100 (by kernel_rfl) w).trans ?_
    simp
theorem guard_iface (a b : Operand) (t1 t2 : TypeId) (v1 v2 : Value) (w : World) : (eqGuard .neq 52 a b (.iface t1 v1) (.iface t2 v2)).run Tryd.prog w = .ok () w := by kernel_rfl
theorem stepV_iface (s : Sg) : ∃ T v, stepV s = .iface T v := by
  unfold stepV
  split
  · exact ⟨_, _, rfl⟩
  split
  · exact ⟨_, _, rfl⟩
  split
  · exact ⟨_, _, rfl⟩
  split
  · exact ⟨_, _, rfl⟩
  · exact ⟨_, _, rfl⟩
theorem step_guard (s x : Sg) (a b : Operand) (w : World) : (eqGuard .neq 52 a b (stepV s) (stepV x)).run Tryd.prog w = .ok () w := by
  obtain ⟨T, v, e⟩ := stepV_iface s
  obtain ⟨U, u, e2⟩ := stepV_iface x
  rw [e, e2]
  exact guard_iface a b T U v u w
/-- Whether a step is any one; whether it is a deep one. -/
theorem step_any (s : Sg) (w : World) (hs : segOk s = true) : (Instr.typeAssert (stepV s) 52 99 true).run Tryd.prog w = .ok (.tuple #[.agg #[], .bool (decide (s.kind = 4))]) w := by
  obtain ⟨-, -, hs⟩ := segOk_cases hs
  obtain ⟨sk, sn, st⟩ := s
  simp only at hs ⊢
  rcases hs with ⟨rfl, e1⟩ | ⟨rfl, rfl⟩ | ⟨rfl, e1⟩ | ⟨rfl, rfl, e1⟩ | ⟨rfl, rfl, e1⟩
  · rw [stepV1]; kernel_rfl
  · rw [stepV2]; kernel_rfl
  · rw [stepV3]; kernel_rfl
  · rw [stepV4]; kernel_rfl
  · rw [stepV5]; kernel_rfl
theorem step_deep (s : Sg) (w : World) (hs : segOk s = true) : (Instr.typeAssert (stepV s) 52 100 true).run Tryd.prog w = .ok (.tuple #[.agg #[], .bool (decide (s.kind = 5))]) w := by
  obtain ⟨-, -, hs⟩ := segOk_cases hs
  obtain ⟨sk, sn, st⟩ := s
  simp only at hs ⊢
  rcases hs with ⟨rfl, e1⟩ | ⟨rfl, rfl⟩ | ⟨rfl, e1⟩ | ⟨rfl, rfl, e1⟩ | ⟨rfl, rfl, e1⟩
  · rw [stepV1]; kernel_rfl
  · rw [stepV2]; kernel_rfl
  · rw [stepV3]; kernel_rfl
  · rw [stepV4]; kernel_rfl
  · rw [stepV5]; kernel_rfl
end Go.Proofs.YtmbbmibkjnlkkaaDoor

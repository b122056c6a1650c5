/- impl's steps as texts, by their interface; paths as texts: plain. -/
import Derived.Test.YtmbbmibkjnlkkaaDoorJtx
import Derived.Test.YtmbbmibkjnlkkaaDoorJso
namespace Go.Proofs.YtmbbmibkjnlkkaaDoor
open Go.ChangeShapes Go.WideShapes Go.ChangeAt Go.RowKit
theorem ba_ext0 {a b : ByteArray} (h : a.data = b.data) : a = b := by
  cases a; cases b; simp at h; rw [h]
def sl47 : ByteArray := ⟨#[47]⟩
def joinS : List ByteArray → ByteArray
  | [] => ⟨#[]⟩
  | [x] => x
  | x :: y :: t => x ++ sl47 ++ joinS (y :: t)
theorem join_sl : ∀ ss : List ByteArray, (⟨(Lib.join (ss.map (·.data.toList)) [47]).toArray⟩ : ByteArray) = joinS ss
  | [] => rfl
  | [x] => by
    rw [List.map_cons, List.map_nil, Lib.join_one]
    rfl
  | x :: y :: t => by
    have ih := join_sl (y :: t)
    show _ = x ++ sl47 ++ joinS (y :: t)
    rw [← ih, List.map_cons, Lib.join_cons, List.map_cons, Lib.join_cons]
    apply ba_ext0
    apply Array.ext'
    rw [ByteArray.data_append, ByteArray.data_append]
    simp [sl47, Lib.joinTail]
def totT : List ByteArray → Nat
  | [] => 0
  | x :: t => x.size + totT t
theorem joinS_sz : ∀ l : List ByteArray, (joinS l).size ≤ totT l + l.length
  | [] => Nat.zero_le _
  | [x] => by show x.size ≤ x.size + 0 + 1; omega
  | x :: y :: t => by
    have := joinS_sz (y :: t)
    show (x ++ sl47 ++ joinS (y :: t)).size ≤ x.size + totT (y :: t) + (t.length + 1 + 1)
    rw [ByteArray.size_append, ByteArray.size_append]
    simp only [List.length_cons] at this
    have h1 : sl47.size = 1 := rfl
    omega
theorem nt_sz (n : Int) : (nt n).size ≤ 10 := by
  unfold nt
  split
  · exact Nat.zero_le _
  · exact dec_len n.toNat (by omega)
theorem segT_sz (s : Sg) : (segT s).size ≤ 2 * s.text.size + 11 := by
  unfold segT
  split
  · have := nt_sz s.n; omega
  split
  · rw [ByteArray.size_append]; have := nt_sz s.n; have h1 : (⟨#[64]⟩ : ByteArray).size = 1 := rfl; omega
  split
  · show 1 ≤ _; omega
  split
  · show 2 ≤ _; omega
  · unfold keyT
    split
    · omega
    · unfold quoteT
      rw [ByteArray.size_append, ByteArray.size_append]
      have h1 : q39.size = 1 := rfl
      have h2 : (⟨(dbl s.text.data.toList).toArray⟩ : ByteArray).size ≤ 2 * s.text.size := by
        show (dbl s.text.data.toList).length ≤ _
        have := dbl_len s.text.data.toList
        have h3 : s.text.data.toList.length = s.text.size := Array.length_toList
        omega
      omega
theorem totT_sz : ∀ l : List Sg, totT (l.map segT) ≤ 2 * totP l + 11 * l.length
  | [] => Nat.le_refl _
  | s :: t => by
    have ih := totT_sz t
    have h := segT_sz s
    show (segT s).size + totT (t.map segT) ≤ 2 * (s.tot + totP t) + 11 * (t.length + 1)
    unfold Sg.tot
    omega
/-- A path as a text. -/
def pathT (l : List Sg) : ByteArray := if 60 < l.length then ⟨#[]⟩ else if l.all segOk = true then sl47 ++ joinS (l.map segT) else ⟨#[]⟩
theorem textIndex (n : Int) (w : World) (hV : TxV w) : Calls Tryd.prog 128 #[.int .i64 n] w fun e w' => e = .returned (.string (nt n)) ∧ Below w.heap.size w w' := by
  have cN := impl_nt n w hV.1
  clear hV
  go_enter Tryd.func128, Tryd.ntmps128
  go_wp2_with fail
  refine cN.mono ?_
  rintro e w1 ⟨rfl, hb1⟩
  go_wp2_with fail
  go_ret
  exact ⟨rfl, hb1⟩
theorem textName (n : Int) (w : World) (hV : TxV w) : Calls Tryd.prog 139 #[.int .i64 n] w fun e w' => e = .returned (.string ((⟨#[64]⟩ : ByteArray) ++ nt n)) ∧ Below w.heap.size w w' := by
  have cN := impl_nt n w hV.1
  have hz := nt_sz n
  clear hV
  generalize nt n = z at *
  go_enter Tryd.func139, Tryd.ntmps139
  go_wp2_with fail
  refine cN.mono ?_
  rintro e w1 ⟨rfl, hb1⟩
  go_wp2_with fail
  go_ret
  exact ⟨rfl, hb1⟩
theorem textAny (w : World) : Calls Tryd.prog 141 #[.agg #[]] w fun e w' => e = .returned (.string ⟨#[42]⟩) ∧ Below w.heap.size w w' := by
  have hB : Hid (Below w.heap.size w (w.alloc (.cells #[] 99))) := (Below.refl _ w).alloc (Nat.le_refl _) _
  go_enter Tryd.func141, Tryd.ntmps141
  go_wp2_with fail
  go_ret
  exact ⟨rfl, hB.out⟩
theorem textDeep (w : World) : Calls Tryd.prog 143 #[.agg #[]] w fun e w' => e = .returned (.string ⟨#[42, 42]⟩) ∧ Below w.heap.size w w' := by
  have hB : Hid (Below w.heap.size w (w.alloc (.cells #[] 100))) := (Below.refl _ w).alloc (Nat.le_refl _) _
  go_enter Tryd.func143, Tryd.ntmps143
  go_wp2_with fail
  go_ret
  exact ⟨rfl, hB.out⟩
theorem mTextIndex (fu : Nat) (n : Int) (w : World) : (method (fu + 1) 95 (.int .i64 n) "loop.example/g00666/impl.text").run Tryd.prog w = .ok (128, .int .i64 n) w := by kernel_rfl
theorem mTextKey (fu : Nat) (t : ByteArray) (w : World) : (method (fu + 1) 96 (.string t) "loop.example/g00666/impl.text").run Tryd.prog w = .ok (131, .string t) w := by kernel_rfl
theorem mTextName (fu : Nat) (n : Int) (w : World) : (method (fu + 1) 97 (.int .i64 n) "loop.example/g00666/impl.text").run Tryd.prog w = .ok (139, .int .i64 n) w := by kernel_rfl
theorem mTextAny (fu : Nat) (w : World) : (method (fu + 1) 99 (.agg #[]) "loop.example/g00666/impl.text").run Tryd.prog w = .ok (141, .agg #[]) w := by kernel_rfl
theorem mTextDeep (fu : Nat) (w : World) : (method (fu + 1) 100 (.agg #[]) "loop.example/g00666/impl.text").run Tryd.prog w = .ok (143, .agg #[]) w := by kernel_rfl
/-- A step in an interface: its method text tells its text. -/
structure TextI (v : Value) (g : ByteArray) : Prop where
  ex : ∃ (T : TypeId) (x : Value) (f : Nat), v = .iface T x ∧ (∀ fu w, (method (fu + 1) T x "loop.example/g00666/impl.text").run Tryd.prog w = .ok (f, x) w) ∧ (∀ args w, (callFunc f args).run Tryd.prog w = .ok (.enter f args) w) ∧
    (∀ w, TxV w → Calls Tryd.prog f #[x] w fun e w' => e = .returned (.string g) ∧ Below w.heap.size w w')
theorem textI (s : Sg) (h1 : 1 ≤ s.kind) (h5 : s.kind ≤ 5) (ht : s.text.size ≤ 1048576) : TextI (stepV s) (segT s) := by
  obtain ⟨k, n, t⟩ := s
  simp only at h1 h5 ht
  have hk : k = 1 ∨ k = 2 ∨ k = 3 ∨ k = 4 ∨ k = 5 := by omega
  rcases hk with rfl | rfl | rfl | rfl | rfl
  · exact ⟨_, _, _, rfl, fun fu w => mTextIndex fu n w, enters_of Tryd.func128 (by kernel_rfl) rfl, fun w hV => textIndex n w hV⟩
  · exact ⟨_, _, _, rfl, fun fu w => mTextKey fu t w, enters_of Tryd.func131 (by kernel_rfl) rfl, fun w hV => textKey t w ht hV⟩
  · exact ⟨_, _, _, rfl, fun fu w => mTextName fu n w, enters_of Tryd.func139 (by kernel_rfl) rfl, fun w hV => textName n w hV⟩
  · exact ⟨_, _, _, rfl, fun fu w => mTextAny fu w, enters_of Tryd.func141 (by kernel_rfl) rfl, fun w _ => textAny w⟩
  · exact ⟨_, _, _, rfl, fun fu w => mTextDeep fu w, enters_of Tryd.func143 (by kernel_rfl) rfl, fun w _ => textDeep w⟩
end Go.Proofs.YtmbbmibkjnlkkaaDoor

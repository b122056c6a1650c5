/- The contracts of strings.Repeat, strings.Join and strings.Builder that the library holds, laid at this program. -/
import Derived.Shelf.Strings.BuilderK
import Derived.Shelf.Strings.OnBuilder
import Derived.Shelf.Strings.Repeat
import Derived.Test.YtckpfdjaobdclaiSls
import Derived.Test.YtckpfdjaobdclaiProg
namespace Go.Proofs
open Go.Shelf
def Try.laysJ_ren : Go.Shelf.Ren := ⟨fun | 99 => 67 | 105 => 69 | 165 => 78 | 166 => 50 | 169 => 52 | 170 => 79 | 206 => 75 | 212 => 77 | 240 => 68 | 241 => 84 | 263 => 82 | 264 => 83 | 276 => 76 | 277 => 86 | n => n, fun | 0 => 0 | 3 => 3 | 4 => 4 | 5 => 5 | 9 => 9 | 20 => 20 | 37 => 67 | 46 => 86 | 51 => 91 | 53 => 94 | 70 => 66 | 72 => 69 | 75 => 49 | 76 => 70 | 109 => 87 | 127 => 83 | 146 => 92 | 148 => 95 | 164 => 84 | 80 => 73 | n => n, fun | n => n⟩
theorem Try.lays105 : Go.Proofs.Lays.n105 Try.prog Try.laysJ_ren := {
  mixed := by kernel_rfl
  f99 := Try.func67.trans (congrArg some (by kernel_rfl))
  f105 := Try.func69.trans (congrArg some (by kernel_rfl))
  f165 := Try.func78.trans (congrArg some (by kernel_rfl))
  f166 := Try.func50.trans (congrArg some (by kernel_rfl))
  f169 := Try.func52.trans (congrArg some (by kernel_rfl))
  f170 := Try.func79.trans (congrArg some (by kernel_rfl))
  f206 := Try.func75.trans (congrArg some (by kernel_rfl))
  f212 := Try.func77.trans (congrArg some (by kernel_rfl))
  f240 := Try.func68.trans (congrArg some (by kernel_rfl))
  f241 := Try.func84.trans (congrArg some (by kernel_rfl))
  f263 := Try.func82.trans (congrArg some (by kernel_rfl))
  f264 := Try.func83.trans (congrArg some (by kernel_rfl))
  f276 := Try.func76.trans (congrArg some (by kernel_rfl))
  f277 := Try.func86.trans (congrArg some (by kernel_rfl))
  t0 := Try.underlying0
  a0 := Try.isAgg0
  z0 := Try.sizeOf0
  v0 := Try.zeroValue0
  t3 := Try.underlying3
  a3 := Try.isAgg3
  z3 := Try.sizeOf3
  v3 := Try.zeroValue3
  t4 := Try.underlying4
  a4 := Try.isAgg4
  z4 := Try.sizeOf4
  v4 := Try.zeroValue4
  t5 := Try.underlying5
  a5 := Try.isAgg5
  z5 := Try.sizeOf5
  v5 := Try.zeroValue5
  t9 := Try.underlying9
  a9 := Try.isAgg9
  z9 := Try.sizeOf9
  v9 := Try.zeroValue9
  t20 := Try.underlying20
  a20 := Try.isAgg20
  z20 := Try.sizeOf20
  v20 := Try.zeroValue20
  t37 := Try.underlying67
  a37 := Try.isAgg67
  z37 := Try.sizeOf67
  v37 := Try.zeroValue67
  t46 := Try.underlying86
  a46 := Try.isAgg86
  z46 := Try.sizeOf86
  v46 := Try.zeroValue86
  t51 := Try.underlying91
  a51 := Try.isAgg91
  z51 := Try.sizeOf91
  v51 := Try.zeroValue91
  t53 := Try.underlying94
  a53 := Try.isAgg94
  z53 := Try.sizeOf94
  v53 := Try.zeroValue94
  t70 := Try.underlying66
  a70 := Try.isAgg66
  z70 := Try.sizeOf66
  v70 := Try.zeroValue66
  t72 := Try.underlying69
  a72 := Try.isAgg69
  z72 := Try.sizeOf69
  v72 := Try.zeroValue69
  t75 := Try.underlying49
  a75 := Try.isAgg49
  z75 := Try.sizeOf49
  v75 := Try.zeroValue49
  t76 := Try.underlying70
  a76 := Try.isAgg70
  z76 := Try.sizeOf70
  v76 := Try.zeroValue70
  t109 := Try.underlying87
  a109 := Try.isAgg87
  z109 := Try.sizeOf87
  v109 := Try.zeroValue87
  t127 := Try.underlying83
  a127 := Try.isAgg83
  z127 := Try.sizeOf83
  v127 := Try.zeroValue83
  t146 := Try.underlying92
  a146 := Try.isAgg92
  z146 := Try.sizeOf92
  v146 := Try.zeroValue92
  t148 := Try.underlying95
  a148 := Try.isAgg95
  z148 := Try.sizeOf95
  v148 := Try.zeroValue95
  t164 := Try.underlying84
  a164 := Try.isAgg84
  z164 := Try.sizeOf84
  v164 := Try.zeroValue84 }
theorem Try.Builder_Extra : Builder.Extra Try.prog Try.laysJ_ren := {
  sizeBuilder := by kernel_rfl
  liesBuilder := by kernel_rfl
  t5 := Try.underlying5
  a5 := Try.isAgg5
  z5 := Try.sizeOf5
  v5 := Try.zeroValue5
  infoByte := by kernel_rfl
  cellsByte := by kernel_rfl
  sizeByte := by kernel_rfl
  neB5 := by decide }

end Go.Proofs
namespace Go.Proofs.Ytckpfdjaobdclai
open Go.RowKit Go.Lib
/-- The bytes of a repeated break. -/
theorem brks_rep : ∀ n : Nat, (⟨(Lib.repeatL [10] n).toArray⟩ : ByteArray) = brks n
  | 0 => rfl
  | n + 1 => by
    rw [brks, ← brks_rep n, Lib.repeatL]
    apply ba_ext'
    apply Array.ext'
    rw [ByteArray.data_append]
    simp [b10]
theorem rep_any (n : Nat) (w : World) (hn : n ≤ 33554432) :
    Calls Try.prog 69 #[.string b10, .int .i64 (n : Int)] w fun e w' => e = .returned (.string (brks n)) ∧ Below w.heap.size w w' := by
  rw [← brks_rep n]
  exact Any.strings_Repeat Try.lays105 Try.Builder_Extra b10 n w (by omega) (by show 1 * n ≤ _; omega)
/-- The lines with a break between each two. -/
theorem join_brk : ∀ ss : List ByteArray, (⟨(Lib.join (ss.map (·.data.toList)) [10]).toArray⟩ : ByteArray) = joinB ss
  | [] => rfl
  | [x] => by
    rw [List.map_cons, List.map_nil, Lib.join_one]
    rfl
  | x :: y :: t => by
    have ih := join_brk (y :: t)
    show _ = x ++ b10 ++ joinB (y :: t)
    rw [← ih, List.map_cons, Lib.join_cons, List.map_cons, Lib.join_cons]
    apply ba_ext'
    apply Array.ext'
    rw [ByteArray.data_append, ByteArray.data_append]
    simp [b10, Lib.joinTail]
theorem joinB_sz : ∀ l : List ByteArray, (joinB l).size ≤ totS l + l.length
  | [] => Nat.le_refl _
  | [x] => by show x.size ≤ x.size + 0 + 1; omega
  | x :: y :: t => by
    have ih := joinB_sz (y :: t)
    show (x ++ b10 ++ joinB (y :: t)).size ≤ x.size + totS (y :: t) + (y :: t).length + 1
    rw [ByteArray.size_append, ByteArray.size_append, show b10.size = 1 from rfl]
    omega
/-- A builder of the call's own, in block b, with the bytes o. -/
def Bd (B b : Nat) (o : ByteArray) (w : World) : Prop := Lib.IsBuilderF 69 5 B b (Lib.byteCells o.data.toList) w
theorem Bd.stays {B b : Nat} {o : ByteArray} {w w' : World} (h : Bd B b o w) (hb : Below w.heap.size w w') : Bd B b o w' := by
  have one : ∀ p, Lib.BuilderAtF 69 5 B b p (Lib.byteCells o.data.toList) w → Lib.BuilderAtF 69 5 B b p (Lib.byteCells o.data.toList) w' := by
    intro p hp
    have hlt := hp.lt
    obtain ⟨hB, v, hk, hown, hne⟩ := hp
    exact ⟨hB, v, (hb.block _ hlt).trans hk, hown.kept (row := none) ⟨hb.os, hb.tape, hb.output, hb.size, fun k hk' _ => hb.block k hk'⟩ (by cases hv : v.ownBlock <;> simp), hne⟩
  exact h.elim (fun x => .inl (one _ x)) (fun x => .inr (one _ x))
theorem Bd.fresh (w : World) : Bd w.heap.size w.heap.size ByteArray.empty (w.alloc (.cells #[.pointer none, .slice none 0 0] 69)) :=
  Lib.IsBuilderF.of (Lib.fresh_isBuilder 69 5 w)
theorem Bd.lt {B b : Nat} {o : ByteArray} {w : World} (h : Bd B b o w) : b < w.heap.size := h.elim (·.lt) (·.lt)
theorem write_any (B b : Nat) (o s : ByteArray) (w : World) (h : Bd B b o w) (hl : o.size + s.size ≤ 140737488355328) (hB : B ≤ w.heap.size) :
    Calls Try.prog 50 #[.pointer (some ⟨b, 0, none⟩), .string s] w fun e w' => e = .returned (.tuple #[.int .i64 s.size, .nilIface]) ∧ Bd B b (o ++ s) w' ∧ Below B w w' ∧ Lib.OthersKept 5 (some b) w w' := by
  refine (Any.Builder_WriteString_k { Try.lays105 with } Try.Builder_Extra B b (Lib.byteCells o.data.toList) s w h (by rw [Lib.byteCells_length]; exact hl) hB).mono ?_
  rintro e w' ⟨rfl, h1, h2, h3⟩
  refine ⟨rfl, ?_, h2, h3⟩
  unfold Bd
  rw [ByteArray.data_append, Array.toList_append, Lib.byteCells_append]
  exact .inr h1
theorem string_any (B b : Nat) (o : ByteArray) (w : World) (h : Bd B b o w) (hB : B ≤ w.heap.size) :
    Calls Try.prog 52 #[.pointer (some ⟨b, 0, none⟩)] w fun e w' => e = .returned (.string o) ∧ Below B w w' := by
  refine (Any.Builder_String_any_k { Try.lays105 with } Try.Builder_Extra B b o.data.toList w h hB).mono ?_
  rintro e w' ⟨rfl, _, h2, _⟩
  exact ⟨rfl, h2⟩
end Go.Proofs.Ytckpfdjaobdclai

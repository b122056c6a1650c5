/- The contracts of strings.Repeat, strings.Join and strings.Builder that the library holds, laid at this program. -/
import Derived.Shelf.Strings.BuilderK
import Derived.Shelf.Strings.OnBuilder
import Derived.Shelf.Strings.Repeat
import Derived.Test.YtfbgdkfnidghcajDoorSls
import Derived.Test.YtfbgdkfnidghcajDoorProg
namespace Go.Proofs
open Go.Shelf
def Tryd.laysJ_ren : Go.Shelf.Ren := ⟨fun | 99 => 28 | 105 => 42 | 165 => 53 | 166 => 31 | 169 => 33 | 170 => 54 | 206 => 34 | 212 => 52 | 240 => 41 | 241 => 61 | 263 => 59 | 264 => 60 | 276 => 51 | 277 => 65 | n => n, fun | 0 => 0 | 3 => 3 | 4 => 4 | 5 => 5 | 9 => 9 | 20 => 20 | 37 => 27 | 46 => 72 | 51 => 80 | 53 => 83 | 70 => 47 | 72 => 49 | 75 => 51 | 76 => 52 | 109 => 73 | 127 => 60 | 146 => 81 | 148 => 84 | 164 => 70 | 80 => 41 | n => n, fun | n => n⟩
theorem Tryd.lays105 : Go.Proofs.Lays.n105 Tryd.prog Tryd.laysJ_ren := {
  mixed := by kernel_rfl
  f99 := Tryd.func28.trans (congrArg some (by kernel_rfl))
  f105 := Tryd.func42.trans (congrArg some (by kernel_rfl))
  f165 := Tryd.func53.trans (congrArg some (by kernel_rfl))
  f166 := Tryd.func31.trans (congrArg some (by kernel_rfl))
  f169 := Tryd.func33.trans (congrArg some (by kernel_rfl))
  f170 := Tryd.func54.trans (congrArg some (by kernel_rfl))
  f206 := Tryd.func34.trans (congrArg some (by kernel_rfl))
  f212 := Tryd.func52.trans (congrArg some (by kernel_rfl))
  f240 := Tryd.func41.trans (congrArg some (by kernel_rfl))
  f241 := Tryd.func61.trans (congrArg some (by kernel_rfl))
  f263 := Tryd.func59.trans (congrArg some (by kernel_rfl))
  f264 := Tryd.func60.trans (congrArg some (by kernel_rfl))
  f276 := Tryd.func51.trans (congrArg some (by kernel_rfl))
  f277 := Tryd.func65.trans (congrArg some (by kernel_rfl))
  t0 := Tryd.underlying0
  a0 := Tryd.isAgg0
  z0 := Tryd.sizeOf0
  v0 := Tryd.zeroValue0
  t3 := Tryd.underlying3
  a3 := Tryd.isAgg3
  z3 := Tryd.sizeOf3
  v3 := Tryd.zeroValue3
  t4 := Tryd.underlying4
  a4 := Tryd.isAgg4
  z4 := Tryd.sizeOf4
  v4 := Tryd.zeroValue4
  t5 := Tryd.underlying5
  a5 := Tryd.isAgg5
  z5 := Tryd.sizeOf5
  v5 := Tryd.zeroValue5
  t9 := Tryd.underlying9
  a9 := Tryd.isAgg9
  z9 := Tryd.sizeOf9
  v9 := Tryd.zeroValue9
  t20 := Tryd.underlying20
  a20 := Tryd.isAgg20
  z20 := Tryd.sizeOf20
  v20 := Tryd.zeroValue20
  t37 := Tryd.underlying27
  a37 := Tryd.isAgg27
  z37 := Tryd.sizeOf27
  v37 := Tryd.zeroValue27
  t46 := Tryd.underlying72
  a46 := Tryd.isAgg72
  z46 := Tryd.sizeOf72
  v46 := Tryd.zeroValue72
  t51 := Tryd.underlying80
  a51 := Tryd.isAgg80
  z51 := Tryd.sizeOf80
  v51 := Tryd.zeroValue80
  t53 := Tryd.underlying83
  a53 := Tryd.isAgg83
  z53 := Tryd.sizeOf83
  v53 := Tryd.zeroValue83
  t70 := Tryd.underlying47
  a70 := Tryd.isAgg47
  z70 := Tryd.sizeOf47
  v70 := Tryd.zeroValue47
  t72 := Tryd.underlying49
  a72 := Tryd.isAgg49
  z72 := Tryd.sizeOf49
  v72 := Tryd.zeroValue49
  t75 := Tryd.underlying51
  a75 := Tryd.isAgg51
  z75 := Tryd.sizeOf51
  v75 := Tryd.zeroValue51
  t76 := Tryd.underlying52
  a76 := Tryd.isAgg52
  z76 := Tryd.sizeOf52
  v76 := Tryd.zeroValue52
  t109 := Tryd.underlying73
  a109 := Tryd.isAgg73
  z109 := Tryd.sizeOf73
  v109 := Tryd.zeroValue73
  t127 := Tryd.underlying60
  a127 := Tryd.isAgg60
  z127 := Tryd.sizeOf60
  v127 := Tryd.zeroValue60
  t146 := Tryd.underlying81
  a146 := Tryd.isAgg81
  z146 := Tryd.sizeOf81
  v146 := Tryd.zeroValue81
  t148 := Tryd.underlying84
  a148 := Tryd.isAgg84
  z148 := Tryd.sizeOf84
  v148 := Tryd.zeroValue84
  t164 := Tryd.underlying70
  a164 := Tryd.isAgg70
  z164 := Tryd.sizeOf70
  v164 := Tryd.zeroValue70 }
theorem Tryd.Builder_Extra : Builder.Extra Tryd.prog Tryd.laysJ_ren := {
  sizeBuilder := by kernel_rfl
  liesBuilder := by kernel_rfl
  t5 := Tryd.underlying5
  a5 := Tryd.isAgg5
  z5 := Tryd.sizeOf5
  v5 := Tryd.zeroValue5
  infoByte := by kernel_rfl
  cellsByte := by kernel_rfl
  sizeByte := by kernel_rfl
  neB5 := by decide }

end Go.Proofs
namespace Go.Proofs.YtfbgdkfnidghcajDoor
open Go.RowKit Go.Lib
/-- The bytes of a repeated break. -/
theorem brks_rep : ∀ n : Nat, (⟨(Lib.repeatL [10] n).toArray⟩ : ByteArray) = brks n
  | 0 => rfl
  | n + 1 => by
    rw [brks, ← brks_rep n, Lib.repeatL]
    apply ba_ext'
    apply Array.ext'
    rw [ByteArray.data_append]
    simp [b10]
theorem rep_any (n : Nat) (w : World) (hn : n ≤ 33554432) :
    Calls Tryd.prog 42 #[.string b10, .int .i64 (n : Int)] w fun e w' => e = .returned (.string (brks n)) ∧ Below w.heap.size w w' := by
  rw [← brks_rep n]
  exact Any.strings_Repeat Tryd.lays105 Tryd.Builder_Extra b10 n w (by omega) (by show 1 * n ≤ _; omega)
/-- The lines with a break between each two. -/
theorem join_brk : ∀ ss : List ByteArray, (⟨(Lib.join (ss.map (·.data.toList)) [10]).toArray⟩ : ByteArray) = joinB ss
  | [] => rfl
  | [x] => by
    rw [List.map_cons, List.map_nil, Lib.join_one]
    rfl
  | x :: y :: t => by
    have ih := join_brk (y :: t)
    show _ = x ++ b10 ++ joinB (y :: t)
    rw [← ih, List.map_cons, Lib.join_cons, List.map_cons, Lib.join_cons]
    apply ba_ext'
    apply Array.ext'
    rw [ByteArray.data_append, ByteArray.data_append]
    simp [b10, Lib.joinTail]
theorem joinB_sz : ∀ l : List ByteArray, (joinB l).size ≤ totS l + l.length
  | [] => Nat.le_refl _
  | [x] => by show x.size ≤ x.size + 0 + 1; omega
  | x :: y :: t => by
    have ih := joinB_sz (y :: t)
    show (x ++ b10 ++ joinB (y :: t)).size ≤ x.size + totS (y :: t) + (y :: t).length + 1
    rw [ByteArray.size_append, ByteArray.size_append, show b10.size = 1 from rfl]
    omega
/-- A builder of the call's own, in block b, with the bytes o. -/
def Bd (B b : Nat) (o : ByteArray) (w : World) : Prop := Lib.IsBuilderF 49 5 B b (Lib.byteCells o.data.toList) w
theorem Bd.stays {B b : Nat} {o : ByteArray} {w w' : World} (h : Bd B b o w) (hb : Below w.heap.size w w') : Bd B b o w' := by
  have one : ∀ p, Lib.BuilderAtF 49 5 B b p (Lib.byteCells o.data.toList) w → Lib.BuilderAtF 49 5 B b p (Lib.byteCells o.data.toList) w' := by
    intro p hp
    have hlt := hp.lt
    obtain ⟨hB, v, hk, hown, hne⟩ := hp
    exact ⟨hB, v, (hb.block _ hlt).trans hk, hown.kept (row := none) ⟨hb.os, hb.tape, hb.output, hb.size, fun k hk' _ => hb.block k hk'⟩ (by cases hv : v.ownBlock <;> simp), hne⟩
  exact h.elim (fun x => .inl (one _ x)) (fun x => .inr (one _ x))
theorem Bd.fresh (w : World) : Bd w.heap.size w.heap.size ByteArray.empty (w.alloc (.cells #[.pointer none, .slice none 0 0] 49)) :=
  Lib.IsBuilderF.of (Lib.fresh_isBuilder 49 5 w)
theorem Bd.lt {B b : Nat} {o : ByteArray} {w : World} (h : Bd B b o w) : b < w.heap.size := h.elim (·.lt) (·.lt)
theorem write_any (B b : Nat) (o s : ByteArray) (w : World) (h : Bd B b o w) (hl : o.size + s.size ≤ 140737488355328) (hB : B ≤ w.heap.size) :
    Calls Tryd.prog 31 #[.pointer (some ⟨b, 0, none⟩), .string s] w fun e w' => e = .returned (.tuple #[.int .i64 s.size, .nilIface]) ∧ Bd B b (o ++ s) w' ∧ Below B w w' ∧ Lib.OthersKept 5 (some b) w w' := by
  refine (Any.Builder_WriteString_k { Tryd.lays105 with } Tryd.Builder_Extra B b (Lib.byteCells o.data.toList) s w h (by rw [Lib.byteCells_length]; exact hl) hB).mono ?_
  rintro e w' ⟨rfl, h1, h2, h3⟩
  refine ⟨rfl, ?_, h2, h3⟩
  unfold Bd
  rw [ByteArray.data_append, Array.toList_append, Lib.byteCells_append]
  exact .inr h1
theorem string_any (B b : Nat) (o : ByteArray) (w : World) (h : Bd B b o w) (hB : B ≤ w.heap.size) :
    Calls Tryd.prog 33 #[.pointer (some ⟨b, 0, none⟩)] w fun e w' => e = .returned (.string o) ∧ Below B w w' := by
  refine (Any.Builder_String_any_k { Tryd.lays105 with } Tryd.Builder_Extra B b o.data.toList w h hB).mono ?_
  rintro e w' ⟨rfl, _, h2, _⟩
  exact ⟨rfl, h2⟩
end Go.Proofs.YtfbgdkfnidghcajDoor

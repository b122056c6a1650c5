/- The contracts of strings.Repeat, strings.Join and strings.Builder that the library holds, laid at this program. -/
import Derived.Shelf.Strings.BuilderK
import Derived.Shelf.Strings.OnBuilder
import Derived.Shelf.Strings.Repeat
import Derived.Test.YtckpfdjaobdclacSls
import Derived.Test.YtckpfdjaobdclacProg
namespace Go.Proofs
open Go.Shelf
def Try.laysJ_ren : Go.Shelf.Ren := ⟨fun | 99 => 36 | 105 => 20 | 165 => 37 | 166 => 21 | 169 => 23 | 170 => 38 | 206 => 46 | 212 => 35 | 240 => 39 | 241 => 47 | 263 => 44 | 264 => 45 | 276 => 48 | 277 => 52 | 156 => 30 | n => n, fun | 0 => 0 | 3 => 3 | 4 => 4 | 5 => 5 | 9 => 9 | 20 => 20 | 37 => 22 | 46 => 78 | 51 => 89 | 53 => 92 | 70 => 52 | 72 => 54 | 75 => 56 | 76 => 57 | 109 => 79 | 127 => 84 | 146 => 90 | 148 => 93 | 164 => 95 | 80 => 60 | 31 => 23 | n => n, fun | n => n⟩
theorem Try.lays105 : Go.Proofs.Lays.n105 Try.prog Try.laysJ_ren := {
  mixed := by kernel_rfl
  f99 := Try.func36.trans (congrArg some (by kernel_rfl))
  f105 := Try.func20.trans (congrArg some (by kernel_rfl))
  f165 := Try.func37.trans (congrArg some (by kernel_rfl))
  f166 := Try.func21.trans (congrArg some (by kernel_rfl))
  f169 := Try.func23.trans (congrArg some (by kernel_rfl))
  f170 := Try.func38.trans (congrArg some (by kernel_rfl))
  f206 := Try.func46.trans (congrArg some (by kernel_rfl))
  f212 := Try.func35.trans (congrArg some (by kernel_rfl))
  f240 := Try.func39.trans (congrArg some (by kernel_rfl))
  f241 := Try.func47.trans (congrArg some (by kernel_rfl))
  f263 := Try.func44.trans (congrArg some (by kernel_rfl))
  f264 := Try.func45.trans (congrArg some (by kernel_rfl))
  f276 := Try.func48.trans (congrArg some (by kernel_rfl))
  f277 := Try.func52.trans (congrArg some (by kernel_rfl))
  t0 := Try.underlying0
  a0 := Try.isAgg0
  z0 := Try.sizeOf0
  v0 := Try.zeroValue0
  t3 := Try.underlying3
  a3 := Try.isAgg3
  z3 := Try.sizeOf3
  v3 := Try.zeroValue3
  t4 := Try.underlying4
  a4 := Try.isAgg4
  z4 := Try.sizeOf4
  v4 := Try.zeroValue4
  t5 := Try.underlying5
  a5 := Try.isAgg5
  z5 := Try.sizeOf5
  v5 := Try.zeroValue5
  t9 := Try.underlying9
  a9 := Try.isAgg9
  z9 := Try.sizeOf9
  v9 := Try.zeroValue9
  t20 := Try.underlying20
  a20 := Try.isAgg20
  z20 := Try.sizeOf20
  v20 := Try.zeroValue20
  t37 := Try.underlying22
  a37 := Try.isAgg22
  z37 := Try.sizeOf22
  v37 := Try.zeroValue22
  t46 := Try.underlying78
  a46 := Try.isAgg78
  z46 := Try.sizeOf78
  v46 := Try.zeroValue78
  t51 := Try.underlying89
  a51 := Try.isAgg89
  z51 := Try.sizeOf89
  v51 := Try.zeroValue89
  t53 := Try.underlying92
  a53 := Try.isAgg92
  z53 := Try.sizeOf92
  v53 := Try.zeroValue92
  t70 := Try.underlying52
  a70 := Try.isAgg52
  z70 := Try.sizeOf52
  v70 := Try.zeroValue52
  t72 := Try.underlying54
  a72 := Try.isAgg54
  z72 := Try.sizeOf54
  v72 := Try.zeroValue54
  t75 := Try.underlying56
  a75 := Try.isAgg56
  z75 := Try.sizeOf56
  v75 := Try.zeroValue56
  t76 := Try.underlying57
  a76 := Try.isAgg57
  z76 := Try.sizeOf57
  v76 := Try.zeroValue57
  t109 := Try.underlying79
  a109 := Try.isAgg79
  z109 := Try.sizeOf79
  v109 := Try.zeroValue79
  t127 := Try.underlying84
  a127 := Try.isAgg84
  z127 := Try.sizeOf84
  v127 := Try.zeroValue84
  t146 := Try.underlying90
  a146 := Try.isAgg90
  z146 := Try.sizeOf90
  v146 := Try.zeroValue90
  t148 := Try.underlying93
  a148 := Try.isAgg93
  z148 := Try.sizeOf93
  v148 := Try.zeroValue93
  t164 := Try.underlying95
  a164 := Try.isAgg95
  z164 := Try.sizeOf95
  v164 := Try.zeroValue95 }
theorem Try.lays156 : Go.Proofs.Lays.n156 Try.prog Try.laysJ_ren := {
  mixed := by kernel_rfl
  f156 := Try.func30.trans (congrArg some (by kernel_rfl))
  f165 := Try.func37.trans (congrArg some (by kernel_rfl))
  f166 := Try.func21.trans (congrArg some (by kernel_rfl))
  f169 := Try.func23.trans (congrArg some (by kernel_rfl))
  f240 := Try.func39.trans (congrArg some (by kernel_rfl))
  f241 := Try.func47.trans (congrArg some (by kernel_rfl))
  f276 := Try.func48.trans (congrArg some (by kernel_rfl))
  f277 := Try.func52.trans (congrArg some (by kernel_rfl))
  t0 := Try.underlying0
  a0 := Try.isAgg0
  z0 := Try.sizeOf0
  v0 := Try.zeroValue0
  t3 := Try.underlying3
  a3 := Try.isAgg3
  z3 := Try.sizeOf3
  v3 := Try.zeroValue3
  t4 := Try.underlying4
  a4 := Try.isAgg4
  z4 := Try.sizeOf4
  v4 := Try.zeroValue4
  t9 := Try.underlying9
  a9 := Try.isAgg9
  z9 := Try.sizeOf9
  v9 := Try.zeroValue9
  t20 := Try.underlying20
  a20 := Try.isAgg20
  z20 := Try.sizeOf20
  v20 := Try.zeroValue20
  t31 := Try.underlying23
  a31 := Try.isAgg23
  z31 := Try.sizeOf23
  v31 := Try.zeroValue23
  t37 := Try.underlying22
  a37 := Try.isAgg22
  z37 := Try.sizeOf22
  v37 := Try.zeroValue22
  t70 := Try.underlying52
  a70 := Try.isAgg52
  z70 := Try.sizeOf52
  v70 := Try.zeroValue52
  t72 := Try.underlying54
  a72 := Try.isAgg54
  z72 := Try.sizeOf54
  v72 := Try.zeroValue54
  t75 := Try.underlying56
  a75 := Try.isAgg56
  z75 := Try.sizeOf56
  v75 := Try.zeroValue56
  t76 := Try.underlying57
  a76 := Try.isAgg57
  z76 := Try.sizeOf57
  v76 := Try.zeroValue57
  t127 := Try.underlying84
  a127 := Try.isAgg84
  z127 := Try.sizeOf84
  v127 := Try.zeroValue84
  t164 := Try.underlying95
  a164 := Try.isAgg95
  z164 := Try.sizeOf95
  v164 := Try.zeroValue95 }
theorem Try.Builder_Extra : Builder.Extra Try.prog Try.laysJ_ren := {
  sizeBuilder := by kernel_rfl
  liesBuilder := by kernel_rfl
  t5 := Try.underlying5
  a5 := Try.isAgg5
  z5 := Try.sizeOf5
  v5 := Try.zeroValue5
  infoByte := by kernel_rfl
  cellsByte := by kernel_rfl
  sizeByte := by kernel_rfl
  neB5 := by decide }

end Go.Proofs
namespace Go.Proofs.Ytckpfdjaobdclac
open Go.RowKit Go.Lib
/-- The bytes of a repeated break. -/
theorem brks_rep : ∀ n : Nat, (⟨(Lib.repeatL [10] n).toArray⟩ : ByteArray) = brks n
  | 0 => rfl
  | n + 1 => by
    rw [brks, ← brks_rep n, Lib.repeatL]
    apply ba_ext'
    apply Array.ext'
    rw [ByteArray.data_append]
    simp [b10]
theorem rep_any (n : Nat) (w : World) (hn : n ≤ 33554432) :
    Calls Try.prog 20 #[.string b10, .int .i64 (n : Int)] w fun e w' => e = .returned (.string (brks n)) ∧ Below w.heap.size w w' := by
  rw [← brks_rep n]
  exact Any.strings_Repeat Try.lays105 Try.Builder_Extra b10 n w (by omega) (by show 1 * n ≤ _; omega)
/-- The lines with a break between each two. -/
theorem join_brk : ∀ ss : List ByteArray, (⟨(Lib.join (ss.map (·.data.toList)) [10]).toArray⟩ : ByteArray) = joinB ss
  | [] => rfl
  | [x] => by
    rw [List.map_cons, List.map_nil, Lib.join_one]
    rfl
  | x :: y :: t => by
    have ih := join_brk (y :: t)
    show _ = x ++ b10 ++ joinB (y :: t)
    rw [← ih, List.map_cons, Lib.join_cons, List.map_cons, Lib.join_cons]
    apply ba_ext'
    apply Array.ext'
    rw [ByteArray.data_append, ByteArray.data_append]
    simp [b10, Lib.joinTail]
theorem joinB_sz : ∀ l : List ByteArray, (joinB l).size ≤ totS l + l.length
  | [] => Nat.le_refl _
  | [x] => by show x.size ≤ x.size + 0 + 1; omega
  | x :: y :: t => by
    have ih := joinB_sz (y :: t)
    show (x ++ b10 ++ joinB (y :: t)).size ≤ x.size + totS (y :: t) + (y :: t).length + 1
    rw [ByteArray.size_append, ByteArray.size_append, show b10.size = 1 from rfl]
    omega
theorem join_any (w : World) (v : Value) (ss : List ByteArray) (hV : SlS w v ss) (hl : totS ss + ss.length ≤ 33554432) :
    Calls Try.prog 30 #[v, .string b10] w fun e w' => e = .returned (.string (joinB ss)) ∧ Below w.heap.size w w' := by
  rcases hV with ⟨rfl, a, c, rfl⟩ | ⟨h0, b, off, c, rfl, hlt, hlc, hc⟩
  · refine (Any.strings_Join_none Try.lays156 Try.Builder_Extra a c b10 w).mono ?_
    rintro e w' ⟨rfl, rfl⟩
    exact ⟨rfl, Below.refl _ _⟩
  · rw [← join_brk ss]
    refine Any.strings_Join Try.lays156 Try.Builder_Extra b off c ss b10 w hc hlt (by omega) hlc ?_
    have h1 := joinB_sz ss
    rw [← join_brk ss] at h1
    have h2 : (Lib.join (ss.map (·.data.toList)) b10.data.toList).length ≤ totS ss + ss.length := h1
    omega
/-- A builder of the call's own, in block b, with the bytes o. -/
def Bd (B b : Nat) (o : ByteArray) (w : World) : Prop := Lib.IsBuilderF 54 5 B b (Lib.byteCells o.data.toList) w
theorem Bd.stays {B b : Nat} {o : ByteArray} {w w' : World} (h : Bd B b o w) (hb : Below w.heap.size w w') : Bd B b o w' := by
  have one : ∀ p, Lib.BuilderAtF 54 5 B b p (Lib.byteCells o.data.toList) w → Lib.BuilderAtF 54 5 B b p (Lib.byteCells o.data.toList) w' := by
    intro p hp
    have hlt := hp.lt
    obtain ⟨hB, v, hk, hown, hne⟩ := hp
    exact ⟨hB, v, (hb.block _ hlt).trans hk, hown.kept (row := none) ⟨hb.os, hb.tape, hb.output, hb.size, fun k hk' _ => hb.block k hk'⟩ (by cases hv : v.ownBlock <;> simp), hne⟩
  exact h.elim (fun x => .inl (one _ x)) (fun x => .inr (one _ x))
theorem Bd.fresh (w : World) : Bd w.heap.size w.heap.size ByteArray.empty (w.alloc (.cells #[.pointer none, .slice none 0 0] 54)) :=
  Lib.IsBuilderF.of (Lib.fresh_isBuilder 54 5 w)
theorem Bd.lt {B b : Nat} {o : ByteArray} {w : World} (h : Bd B b o w) : b < w.heap.size := h.elim (·.lt) (·.lt)
theorem write_any (B b : Nat) (o s : ByteArray) (w : World) (h : Bd B b o w) (hl : o.size + s.size ≤ 140737488355328) (hB : B ≤ w.heap.size) :
    Calls Try.prog 21 #[.pointer (some ⟨b, 0, none⟩), .string s] w fun e w' => e = .returned (.tuple #[.int .i64 s.size, .nilIface]) ∧ Bd B b (o ++ s) w' ∧ Below B w w' ∧ Lib.OthersKept 5 (some b) w w' := by
  refine (Any.Builder_WriteString_k { Try.lays105 with } Try.Builder_Extra B b (Lib.byteCells o.data.toList) s w h (by rw [Lib.byteCells_length]; exact hl) hB).mono ?_
  rintro e w' ⟨rfl, h1, h2, h3⟩
  refine ⟨rfl, ?_, h2, h3⟩
  unfold Bd
  rw [ByteArray.data_append, Array.toList_append, Lib.byteCells_append]
  exact .inr h1
theorem string_any (B b : Nat) (o : ByteArray) (w : World) (h : Bd B b o w) (hB : B ≤ w.heap.size) :
    Calls Try.prog 23 #[.pointer (some ⟨b, 0, none⟩)] w fun e w' => e = .returned (.string o) ∧ Below B w w' := by
  refine (Any.Builder_String_any_k { Try.lays105 with } Try.Builder_Extra B b o.data.toList w h hB).mono ?_
  rintro e w' ⟨rfl, _, h2, _⟩
  exact ⟨rfl, h2⟩
end Go.Proofs.Ytckpfdjaobdclac

/- The contracts of strings.Repeat, strings.Join and strings.Builder that the library holds, laid at this program. -/
import Derived.Shelf.Strings.BuilderK
import Derived.Shelf.Strings.OnBuilder
import Derived.Shelf.Strings.Repeat
import Derived.Test.YthlainjkpeioeajSls
import Derived.Test.YthlainjkpeioeajProg
namespace Go.Proofs
open Go.Shelf
def Try.laysJ_ren : Go.Shelf.Ren := ⟨fun | 99 => 53 | 105 => 27 | 165 => 54 | 166 => 22 | 169 => 24 | 170 => 55 | 206 => 64 | 212 => 52 | 240 => 46 | 241 => 65 | 263 => 62 | 264 => 63 | 276 => 61 | 277 => 72 | 156 => 48 | n => n, fun | 0 => 0 | 3 => 3 | 4 => 4 | 5 => 5 | 9 => 9 | 20 => 20 | 37 => 37 | 46 => 66 | 51 => 79 | 53 => 82 | 70 => 36 | 72 => 39 | 75 => 41 | 76 => 42 | 109 => 67 | 127 => 63 | 146 => 80 | 148 => 83 | 164 => 77 | 80 => 45 | 31 => 22 | n => n, fun | n => n⟩
theorem Try.lays105 : Go.Proofs.Lays.n105 Try.prog Try.laysJ_ren := {
  mixed := by kernel_rfl
  f99 := Try.func53.trans (congrArg some (by kernel_rfl))
  f105 := Try.func27.trans (congrArg some (by kernel_rfl))
  f165 := Try.func54.trans (congrArg some (by kernel_rfl))
  f166 := Try.func22.trans (congrArg some (by kernel_rfl))
  f169 := Try.func24.trans (congrArg some (by kernel_rfl))
  f170 := Try.func55.trans (congrArg some (by kernel_rfl))
  f206 := Try.func64.trans (congrArg some (by kernel_rfl))
  f212 := Try.func52.trans (congrArg some (by kernel_rfl))
  f240 := Try.func46.trans (congrArg some (by kernel_rfl))
  f241 := Try.func65.trans (congrArg some (by kernel_rfl))
  f263 := Try.func62.trans (congrArg some (by kernel_rfl))
  f264 := Try.func63.trans (congrArg some (by kernel_rfl))
  f276 := Try.func61.trans (congrArg some (by kernel_rfl))
  f277 := Try.func72.trans (congrArg some (by kernel_rfl))
  t0 := Try.underlying0
  a0 := Try.isAgg0
  z0 := Try.sizeOf0
  v0 := Try.zeroValue0
  t3 := Try.underlying3
  a3 := Try.isAgg3
  z3 := Try.sizeOf3
  v3 := Try.zeroValue3
  t4 := Try.underlying4
  a4 := Try.isAgg4
  z4 := Try.sizeOf4
  v4 := Try.zeroValue4
  t5 := Try.underlying5
  a5 := Try.isAgg5
  z5 := Try.sizeOf5
  v5 := Try.zeroValue5
  t9 := Try.underlying9
  a9 := Try.isAgg9
  z9 := Try.sizeOf9
  v9 := Try.zeroValue9
  t20 := Try.underlying20
  a20 := Try.isAgg20
  z20 := Try.sizeOf20
  v20 := Try.zeroValue20
  t37 := Try.underlying37
  a37 := Try.isAgg37
  z37 := Try.sizeOf37
  v37 := Try.zeroValue37
  t46 := Try.underlying66
  a46 := Try.isAgg66
  z46 := Try.sizeOf66
  v46 := Try.zeroValue66
  t51 := Try.underlying79
  a51 := Try.isAgg79
  z51 := Try.sizeOf79
  v51 := Try.zeroValue79
  t53 := Try.underlying82
  a53 := Try.isAgg82
  z53 := Try.sizeOf82
  v53 := Try.zeroValue82
  t70 := Try.underlying36
  a70 := Try.isAgg36
  z70 := Try.sizeOf36
  v70 := Try.zeroValue36
  t72 := Try.underlying39
  a72 := Try.isAgg39
  z72 := Try.sizeOf39
  v72 := Try.zeroValue39
  t75 := Try.underlying41
  a75 := Try.isAgg41
  z75 := Try.sizeOf41
  v75 := Try.zeroValue41
  t76 := Try.underlying42
  a76 := Try.isAgg42
  z76 := Try.sizeOf42
  v76 := Try.zeroValue42
  t109 := Try.underlying67
  a109 := Try.isAgg67
  z109 := Try.sizeOf67
  v109 := Try.zeroValue67
  t127 := Try.underlying63
  a127 := Try.isAgg63
  z127 := Try.sizeOf63
  v127 := Try.zeroValue63
  t146 := Try.underlying80
  a146 := Try.isAgg80
  z146 := Try.sizeOf80
  v146 := Try.zeroValue80
  t148 := Try.underlying83
  a148 := Try.isAgg83
  z148 := Try.sizeOf83
  v148 := Try.zeroValue83
  t164 := Try.underlying77
  a164 := Try.isAgg77
  z164 := Try.sizeOf77
  v164 := Try.zeroValue77 }
theorem Try.lays156 : Go.Proofs.Lays.n156 Try.prog Try.laysJ_ren := {
  mixed := by kernel_rfl
  f156 := Try.func48.trans (congrArg some (by kernel_rfl))
  f165 := Try.func54.trans (congrArg some (by kernel_rfl))
  f166 := Try.func22.trans (congrArg some (by kernel_rfl))
  f169 := Try.func24.trans (congrArg some (by kernel_rfl))
  f240 := Try.func46.trans (congrArg some (by kernel_rfl))
  f241 := Try.func65.trans (congrArg some (by kernel_rfl))
  f276 := Try.func61.trans (congrArg some (by kernel_rfl))
  f277 := Try.func72.trans (congrArg some (by kernel_rfl))
  t0 := Try.underlying0
  a0 := Try.isAgg0
  z0 := Try.sizeOf0
  v0 := Try.zeroValue0
  t3 := Try.underlying3
  a3 := Try.isAgg3
  z3 := Try.sizeOf3
  v3 := Try.zeroValue3
  t4 := Try.underlying4
  a4 := Try.isAgg4
  z4 := Try.sizeOf4
  v4 := Try.zeroValue4
  t9 := Try.underlying9
  a9 := Try.isAgg9
  z9 := Try.sizeOf9
  v9 := Try.zeroValue9
  t20 := Try.underlying20
  a20 := Try.isAgg20
  z20 := Try.sizeOf20
  v20 := Try.zeroValue20
  t31 := Try.underlying22
  a31 := Try.isAgg22
  z31 := Try.sizeOf22
  v31 := Try.zeroValue22
  t37 := Try.underlying37
  a37 := Try.isAgg37
  z37 := Try.sizeOf37
  v37 := Try.zeroValue37
  t70 := Try.underlying36
  a70 := Try.isAgg36
  z70 := Try.sizeOf36
  v70 := Try.zeroValue36
  t72 := Try.underlying39
  a72 := Try.isAgg39
  z72 := Try.sizeOf39
  v72 := Try.zeroValue39
  t75 := Try.underlying41
  a75 := Try.isAgg41
  z75 := Try.sizeOf41
  v75 := Try.zeroValue41
  t76 := Try.underlying42
  a76 := Try.isAgg42
  z76 := Try.sizeOf42
  v76 := Try.zeroValue42
  t127 := Try.underlying63
  a127 := Try.isAgg63
  z127 := Try.sizeOf63
  v127 := Try.zeroValue63
  t164 := Try.underlying77
  a164 := Try.isAgg77
  z164 := Try.sizeOf77
  v164 := Try.zeroValue77 }
theorem Try.Builder_Extra : Builder.Extra Try.prog Try.laysJ_ren := {
  sizeBuilder := by kernel_rfl
  liesBuilder := by kernel_rfl
  t5 := Try.underlying5
  a5 := Try.isAgg5
  z5 := Try.sizeOf5
  v5 := Try.zeroValue5
  infoByte := by kernel_rfl
  cellsByte := by kernel_rfl
  sizeByte := by kernel_rfl
  neB5 := by decide }

end Go.Proofs
namespace Go.Proofs.Ythlainjkpeioeaj
open Go.RowKit Go.Lib
/-- The bytes of a repeated break. -/
theorem brks_rep : ∀ n : Nat, (⟨(Lib.repeatL [10] n).toArray⟩ : ByteArray) = brks n
  | 0 => rfl
  | n + 1 => by
    rw [brks, ← brks_rep n, Lib.repeatL]
    apply ba_ext'
    apply Array.ext'
    rw [ByteArray.data_append]
    simp [b10]
theorem rep_any (n : Nat) (w : World) (hn : n ≤ 33554432) :
    Calls Try.prog 27 #[.string b10, .int .i64 (n : Int)] w fun e w' => e = .returned (.string (brks n)) ∧ Below w.heap.size w w' := by
  rw [← brks_rep n]
  exact Any.strings_Repeat Try.lays105 Try.Builder_Extra b10 n w (by omega) (by show 1 * n ≤ _; omega)
/-- The lines with a break between each two. -/
theorem join_brk : ∀ ss : List ByteArray, (⟨(Lib.join (ss.map (·.data.toList)) [10]).toArray⟩ : ByteArray) = joinB ss
  | [] => rfl
  | [x] => by
    rw [List.map_cons, List.map_nil, Lib.join_one]
    rfl
  | x :: y :: t => by
    have ih := join_brk (y :: t)
    show _ = x ++ b10 ++ joinB (y :: t)
    rw [← ih, List.map_cons, Lib.join_cons, List.map_cons, Lib.join_cons]
    apply ba_ext'
    apply Array.ext'
    rw [ByteArray.data_append, ByteArray.data_append]
    simp [b10, Lib.joinTail]
theorem joinB_sz : ∀ l : List ByteArray, (joinB l).size ≤ totS l + l.length
  | [] => Nat.le_refl _
  | [x] => by show x.size ≤ x.size + 0 + 1; omega
  | x :: y :: t => by
    have ih := joinB_sz (y :: t)
    show (x ++ b10 ++ joinB (y :: t)).size ≤ x.size + totS (y :: t) + (y :: t).length + 1
    rw [ByteArray.size_append, ByteArray.size_append, show b10.size = 1 from rfl]
    omega
theorem join_any (w : World) (v : Value) (ss : List ByteArray) (hV : SlS w v ss) (hl : totS ss + ss.length ≤ 33554432) :
    Calls Try.prog 48 #[v, .string b10] w fun e w' => e = .returned (.string (joinB ss)) ∧ Below w.heap.size w w' := by
  rcases hV with ⟨rfl, a, c, rfl⟩ | ⟨h0, b, off, c, rfl, hlt, hlc, hc⟩
  · refine (Any.strings_Join_none Try.lays156 Try.Builder_Extra a c b10 w).mono ?_
    rintro e w' ⟨rfl, rfl⟩
    exact ⟨rfl, Below.refl _ _⟩
  · rw [← join_brk ss]
    refine Any.strings_Join Try.lays156 Try.Builder_Extra b off c ss b10 w hc hlt (by omega) hlc ?_
    have h1 := joinB_sz ss
    rw [← join_brk ss] at h1
    have h2 : (Lib.join (ss.map (·.data.toList)) b10.data.toList).length ≤ totS ss + ss.length := h1
    omega
/-- A builder of the call's own, in block b, with the bytes o. -/
def Bd (B b : Nat) (o : ByteArray) (w : World) : Prop := Lib.IsBuilderF 39 5 B b (Lib.byteCells o.data.toList) w
theorem Bd.stays {B b : Nat} {o : ByteArray} {w w' : World} (h : Bd B b o w) (hb : Below w.heap.size w w') : Bd B b o w' := by
  have one : ∀ p, Lib.BuilderAtF 39 5 B b p (Lib.byteCells o.data.toList) w → Lib.BuilderAtF 39 5 B b p (Lib.byteCells o.data.toList) w' := by
    intro p hp
    have hlt := hp.lt
    obtain ⟨hB, v, hk, hown, hne⟩ := hp
    exact ⟨hB, v, (hb.block _ hlt).trans hk, hown.kept (row := none) ⟨hb.os, hb.tape, hb.output, hb.size, fun k hk' _ => hb.block k hk'⟩ (by cases hv : v.ownBlock <;> simp), hne⟩
  exact h.elim (fun x => .inl (one _ x)) (fun x => .inr (one _ x))
theorem Bd.fresh (w : World) : Bd w.heap.size w.heap.size ByteArray.empty (w.alloc (.cells #[.pointer none, .slice none 0 0] 39)) :=
  Lib.IsBuilderF.of (Lib.fresh_isBuilder 39 5 w)
theorem Bd.lt {B b : Nat} {o : ByteArray} {w : World} (h : Bd B b o w) : b < w.heap.size := h.elim (·.lt) (·.lt)
theorem write_any (B b : Nat) (o s : ByteArray) (w : World) (h : Bd B b o w) (hl : o.size + s.size ≤ 140737488355328) (hB : B ≤ w.heap.size) :
    Calls Try.prog 22 #[.pointer (some ⟨b, 0, none⟩), .string s] w fun e w' => e = .returned (.tuple #[.int .i64 s.size, .nilIface]) ∧ Bd B b (o ++ s) w' ∧ Below B w w' ∧ Lib.OthersKept 5 (some b) w w' := by
  refine (Any.Builder_WriteString_k { Try.lays105 with } Try.Builder_Extra B b (Lib.byteCells o.data.toList) s w h (by rw [Lib.byteCells_length]; exact hl) hB).mono ?_
  rintro e w' ⟨rfl, h1, h2, h3⟩
  refine ⟨rfl, ?_, h2, h3⟩
  unfold Bd
  rw [ByteArray.data_append, Array.toList_append, Lib.byteCells_append]
  exact .inr h1
theorem string_any (B b : Nat) (o : ByteArray) (w : World) (h : Bd B b o w) (hB : B ≤ w.heap.size) :
    Calls Try.prog 24 #[.pointer (some ⟨b, 0, none⟩)] w fun e w' => e = .returned (.string o) ∧ Below B w w' := by
  refine (Any.Builder_String_any_k { Try.lays105 with } Try.Builder_Extra B b o.data.toList w h hB).mono ?_
  rintro e w' ⟨rfl, _, h2, _⟩
  exact ⟨rfl, h2⟩
end Go.Proofs.Ythlainjkpeioeaj

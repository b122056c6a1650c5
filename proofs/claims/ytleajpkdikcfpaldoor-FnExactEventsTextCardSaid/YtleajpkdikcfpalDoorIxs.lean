/- The contracts of impl.EventText and impl.EventsText, as the laws ask them. -/
import Derived.Test.YtleajpkdikcfpalDoorItx
import Derived.Test.YtleajpkdikcfpalDoorLxt
namespace Go.Proofs.YtleajpkdikcfpalDoor
open Go.ChangeShapes Go.WideShapes Go.ChangeAt Go.RowKit
theorem tabLasts : Lasts TabV := fun _ _ h hb => h.lasts hb
theorem implEt : ImplEt TabV := fun e w hv ht _ => by
  unfold Ev.tot at ht
  exact impl_eventText e w hv ⟨by omega, by omega, by omega⟩
theorem strN_nats (s : ByteArray) : strN (natsB s) = s := by
  unfold strN natsB
  apply ba_ext
  rw [strOfNums_data, List.map_map, List.map_map]
  refine Eq.trans (List.map_congr_left (g := id) (fun x _ => ?_)) (List.map_id _)
  simp
set_option maxRecDepth 100000 in
set_option maxHeartbeats 8000000 in
theorem implEx : ImplEx TabV := by
  intro w v es hv hV hl hf
  obtain ⟨t, ht⟩ : ∃ t, evsText es = t := ⟨_, rfl⟩
  rw [ht]
  obtain ⟨a, c, rfl⟩ := hV.sl
  have HV : Hid (SlE w (.slice a es.length c) es) := hV
  have HT : Hid (totE es + es.length ≤ 1048576) := hl
  have HTV : Hid (TabV w) := hv
  have HR : Hid (strN (evsN es) = t) := ht
  have hlen : es.length ≤ 1048576 := by omega
  have HD0 : Hid (Bd w.heap.size w.heap.size (strN (evsN (es.take 0))) (w.alloc (.cells #[.pointer none, .slice none 0 0] 38))) := Bd.fresh w
  have HB0 : Hid (Below w.heap.size w (w.alloc (.cells #[.pointer none, .slice none 0 0] 38))) := (Below.refl _ w).alloc (Nat.le_refl _) _
  clear hV hl hv ht hf
  go_enter Tryd.func7, Tryd.ntmps7
  go_wp2_with fail
  go_loopw [8] (fun kv wr => ∃ k : Nat, kv = .int .i64 (k : Int) ∧ k ≤ es.length ∧ Hid (Bd w.heap.size w.heap.size (strN (evsN (es.take k))) wr) ∧ Hid (Below w.heap.size w wr)) (fun kv _ => es.length - (intOf kv).toNat)
  case atStart => exact ⟨0, rfl, Nat.zero_le _, HD0, HB0⟩
  case round =>
    clear HD0 HB0
    obtain ⟨k, rfl, hk, HD, HB⟩ := hrel
    by_cases hlt : k < es.length
    · obtain ⟨e, hx⟩ : ∃ e, es[k]? = some e := ⟨_, List.getElem?_eq_getElem hlt⟩
      obtain ⟨bb, off, rfl, _, ⟨c0, c1, c2, c3, c4, c5, c6, c7⟩⟩ := HV.out.at HB.out hx
      have htm := totE_mem (List.mem_of_getElem? hx)
      have HST : Hid (strN (evsN (es.take (k + 1))) = strN (evsN (es.take k)) ++ evText e ++ ⟨#[(10 : Nat).toUInt8]⟩) := by
        show strN (evsN (es.take (k + 1))) = strN (evsN (es.take k)) ++ evText e ++ ⟨#[(10 : Nat).toUInt8]⟩
        rw [evsN_take hx, strN_app, strN_app, strN_nats, strN_one]
      have HLN : Hid ((strN (evsN (es.take k))).size ≤ 70000000) := by
        show (strN (evsN (es.take k))).size ≤ 70000000
        rw [strN_len]
        have h1 := evsN_len (es.take k)
        have h2 := totE_le es k
        have h3 := HT.out
        have h4 : (es.take k).length ≤ es.length := by rw [List.length_take]; omega
        omega
      have HXZ : Hid ((evText e).size ≤ 3000000) := by
        have h1 := evText_size e
        have h3 := HT.out
        show (evText e).size ≤ 3000000
        omega
      have cT : Hid (∀ w, TabV w → Calls Tryd.prog 13 #[.agg e.row] w fun r w' => r = .returned (.string (evText e)) ∧ Below w.heap.size w w') := fun w h => by
        have h3 := HT.out
        unfold Ev.tot at htm
        exact impl_eventText e w h ⟨by omega, by omega, by omega⟩
      generalize evText e = X at *
      generalize strN (evsN (es.take k)) = O at *
      have hlt' : (k : Int) < (es.length : Int) := by omega
      obtain ⟨kind, style, flag, text, anchor, tag, at_, code⟩ := e
      unfold Ev.row at cT
      simp only at c0 c1 c2 c3 c4 c5 c6 c7
      have HAL : Hid (Below wr.heap.size wr (wr.alloc (.cells #[.int .i64 kind, .int .i64 style, .bool flag, .string text, .string anchor, .string tag, .int .i64 at_, .int .i64 code] 33))) := (Below.refl _ wr).alloc (Nat.le_refl _) _
      clear hx htm
      go_wp2_with fail
      refine (cT.out _ (HTV.out.lasts (HB.out.trans (HAL.out.mono HB.out.size)))).mono ?_
      rintro r w1 ⟨rfl, hb1⟩
      clear cT c0 c1 c2 c3 c4 c5 c6 c7
      have hB1 : Below wr.heap.size wr w1 := HAL.out.trans (hb1.mono HAL.out.size)
      have HD1 : Hid (Bd w.heap.size w.heap.size O w1) := HD.out.stays hB1
      have HB1 : Hid (Below w.heap.size w w1) := HB.out.trans (hB1.mono HB.out.size)
      clear hb1 hB1 HAL HD HB
      go_wp2_with fail
      refine (write_any _ _ O X w1 HD1.out (by have := HLN.out; have := HXZ.out; omega) HB1.out.size).mono ?_
      rintro r w2 ⟨rfl, hd2, hb2⟩
      have HD2 : Hid (Bd w.heap.size w.heap.size (O ++ X) w2) := hd2
      have HB2 : Hid (Below w.heap.size w w2) := HB1.out.trans hb2
      clear hd2 hb2 HD1 HB1
      have cW := writeByte_any _ _ (O ++ X) 10 w2 HD2.out (by decide) (by have := HLN.out; have := HXZ.out; rw [ByteArray.size_append]; omega) HB2.out.size
      go_wp2_with fail
      refine cW.mono ?_
      rintro r w3 ⟨rfl, hd3, hb3⟩
      have HD3 : Hid (Bd w.heap.size w.heap.size (strN (evsN (es.take (k + 1)))) w3) := by rw [HST.out]; exact hd3
      have HB3 : Hid (Below w.heap.size w w3) := HB2.out.trans hb3
      clear hd3 hb3 HD2 HB2 cW
      go_wp2_with fail
      go_roundw
      case rel => exact ⟨k + 1, by go_num, hlt, HD3, HB3⟩
      case measure => simp [intOf]; omega
    · have hlt' : ¬ (k : Int) < (es.length : Int) := by omega
      have cS := string_any w.heap.size w.heap.size _ wr HD.out HB.out.size
      rw [show es.take k = es from List.take_of_length_le (by omega), HR.out] at cS
      clear HD
      go_wp2_with fail
      refine cS.mono ?_
      rintro e w1 ⟨rfl, hb1⟩
      go_wp2_with fail
      go_ret
      exact ⟨rfl, HB.out.trans hb1⟩
end Go.Proofs.YtleajpkdikcfpalDoor

/- Several texts in one: Gtx Gty. -/
import Derived.Test.YtgaibajkegfpoaaDoorGtw
/- The program's teller: a node. -/
namespace Go.Proofs.YtgaibajkegfpoaaDoor
open Go.ChangeShapes Go.WideShapes Go.ChangeAt Go.RowKit Go.Deep
/-- What was met are nodes, and there is room for the others. -/
structure MI (g : Gr) (met : List Nat) : Prop where
  rng : ∀ i ∈ met, i < g.nodes.length
  room : met.length + unmet g.nodes.length met ≤ g.nodes.length
theorem MI.enter {g : Gr} {met : List Nat} {i : Nat} (h : MI g met) (hi : i < g.nodes.length) (hm : i ∉ met) : MI g (met ++ [i]) := by
  refine ⟨fun x hx => ?_, ?_⟩
  · rcases List.mem_append.1 hx with hx | hx
    · exact h.rng x hx
    · obtain rfl := List.mem_singleton.1 hx
      exact hi
  · have := unmet_new hi hm
    have := h.room
    rw [List.length_append, List.length_singleton]
    omega
theorem tdK_mi {g : Gr} (hk : ∀ i, ∀ k ∈ kidsOf g i, 0 ≤ k ∧ k < (g.nodes.length : Int)) {a b : List Nat → Nat → ByteArray} : ∀ (f i : Nat) (t : Td), i < g.nodes.length → MI g t.met → MI g (tdK g a b f i t).met
  | 0, _, _, _, h => h
  | f + 1, i, t, hi, h => by
    by_cases hm : i ∈ t.met
    · rw [tdK_old hm]
      exact h
    · have fold : ∀ (l : List Int) (u : Td), (∀ k ∈ l, 0 ≤ k ∧ k < (g.nodes.length : Int)) → MI g u.met → MI g (l.foldl (fun t k => tdK g a b f k.toNat t) u).met := by
        intro l
        induction l with
        | nil => exact fun u _ hu => hu
        | cons k l ih =>
          intro u hl hu
          have hk0 := hl k (List.mem_cons_self ..)
          exact ih _ (fun x hx => hl x (List.mem_cons_of_mem _ hx)) (tdK_mi hk f k.toNat u (by omega) hu)
      have h2 := fold (kidsOf g i) ⟨t.met ++ [i], t.out ++ [evBeg (ndAt g i) (b t.met i)], t.tr ++ [i]⟩ (hk i) (h.enter hi hm)
      rw [tdK_new hm]
      split
      · exact h2
      · exact h2
theorem tdF_mi {g : Gr} (hk : ∀ i, ∀ k ∈ kidsOf g i, 0 ≤ k ∧ k < (g.nodes.length : Int)) {a b : List Nat → Nat → ByteArray} (f : Nat) : ∀ (l : List Int) (u : Td), (∀ k ∈ l, 0 ≤ k ∧ k < (g.nodes.length : Int)) → MI g u.met → MI g (l.foldl (fun t k => tdK g a b f k.toNat t) u).met
  | [], _, _, h => h
  | k :: l, u, hl, hu => by
    have hk0 := hl k (List.mem_cons_self ..)
    exact tdF_mi hk f l _ (fun x hx => hl x (List.mem_cons_of_mem _ hx)) (tdK_mi hk f k.toNat u (by omega) hu)
/-- What is promised of teller.node, with so much fuel. -/
def TnC (P0 : World) (B : Nat) (Ps : List Nat) (S : List Int) (g : Gr) (F : List Nat) (f : Nat) : Prop := ∀ (i : Nat) (t : Td) (w : World), TeAt P0 B Ps S t w → MI g t.met → unmet g.nodes.length t.met < f → i < g.nodes.length → t.out.length ≤ 2 * t.tr.length + 2097200 → (tdK g iA (iB S) f i t).tr <+: F →
  Calls Tryd.prog 40 #[.pointer (some ⟨B, 0, none⟩), .pointer (some ⟨blk Ps (i : Int), 0, none⟩)] w fun e w' => e = .returned (.tuple #[]) ∧ TeAt P0 B Ps S (tdK g iA (iB S) f i t) w'
set_option maxHeartbeats 8000000 in
set_option maxRecDepth 100000 in
theorem tn_step {P0 : World} {B : Nat} {Ps : List Nat} {S : List Int} {g : Gr} {F : List Nat} {kn rt : Value} (hW : WebAt P0 g Ps kn rt) (hV : TabV P0) (hs : S.Pairwise (· ≤ ·)) (hsl : S.length ≤ 1048576) (hk : ∀ i, ∀ k ∈ kidsOf g i, 0 ≤ k ∧ k < (g.nodes.length : Int)) (hlen : g.nodes.length ≤ 3000) (hkl : ∀ n ∈ g.nodes, n.kids.length ≤ 1048576) (hF : F.length ≤ 1048576) {f : Nat} (IH : TnC P0 B Ps S g F f) : TnC P0 B Ps S g F (f + 1) := by
  intro i t w hT hI hz hi hb hP
  have hip : i < Ps.length := by rw [hW.len]; exact hi
  have hrp : ∀ j ∈ t.met, j < Ps.length := fun j hj => by rw [hW.len]; exact hI.rng j hj
  have hWw : WebAt w g Ps kn rt := hW.later hT.below
  have hLm : ∀ x ∈ bks Ps t.met, Live w x := fun x hx => by
    unfold bks at hx
    obtain ⟨j, hj, rfl⟩ := List.mem_map.1 hx
    exact hWw.live (blk_mem (hrp j hj))
  have hLb : Live w (blk Ps (i : Int)) := hWw.live (blk_mem hip)
  have hml : t.met.length ≤ 3000 := by have := hI.room; omega
  have HPO : Hid (∀ u : Td, u.tr <+: F → u.out.length ≤ 2 * u.tr.length + 2097200 → u.out.length ≤ 100000000) := fun u h1 h2 => by have := h1.length_le; omega
  have hpt : t.tr <+: F := (tdK_g (g := g) (a := iA) (b := iB S) (f + 1) i t).tr.trans hP
  have hol := HPO.out t hpt hb
  obtain ⟨sa, sc, oa, on, oc, u1, u2, u3⟩ := hT.tr
  by_cases hm : i ∈ t.met
  · have cM := meet_old B 57 _ _ _ (blk Ps (i : Int)) w u1 hLm ((bks_mem hW.nd hrp hip).2 hm)
    rw [bks_ix hW.nd hip hrp] at cM
    have HO := hidG (tdK_old (g := g) (a := iA) (b := iB S) (f := f) hm)
    obtain ⟨nm, hnm⟩ : ∃ nm, iA t.met i = nm := ⟨_, rfl⟩
    have cN := nameOf_any (ix i t.met) w (hV.lasts hT.below)
    rw [show nmN (ix i t.met) = nm from hnm] at cN
    have HNM := hidG hnm
    have HT := hidG hT
    have HOL := hidG hol
    obtain ⟨n, hn⟩ : ∃ n, ix i t.met = n := ⟨_, rfl⟩
    rw [hn] at cM cN
    obtain ⟨bi, hbi⟩ : ∃ bi, blk Ps (i : Int) = bi := ⟨_, rfl⟩
    rw [hbi] at cM ⊢
    clear hT hI hz hi hb hP hip hrp hWw hLm hLb hml hpt hol u1 u2 u3 hm hnm hW hV hs hsl hk hkl IH hn hbi
    go_enter Tryd.func40, Tryd.ntmps40
    go_wp2_with fail
    refine cM.mono ?_
    rintro e w1 ⟨rfl, rfl⟩
    clear cM
    go_wp2_with fail
    refine cN.mono ?_
    rintro e w2 ⟨rfl, hb2⟩
    have cT := tell_any (evAl nm) P0 B Ps S t w2 (HT.out.stays hb2) HOL.out
    have HCT := hidG cT
    have hcT := cT
    unfold evAl Ev.row ev0 at hcT
    simp only [] at hcT
    clear cN hb2 cT
    go_wp2_with fail
    refine hcT.mono ?_
    rintro e w3 ⟨rfl, hT3⟩
    have HF : Hid (TeAt P0 B Ps S (tdK g iA (iB S) (f + 1) i t) w3) := by
      show TeAt _ _ _ _ _ _
      rw [HO.out, HNM.out]
      exact TeAt.of (t := { t with out := t.out ++ [evAl nm] }) hT3 rfl rfl
    clear hcT hT3
    go_wp2_with fail
    refine bodyPost_ret (results_none rfl _ _ _) rfl ?_
    exact ⟨rfl, HF.out⟩
  · have hnb : blk Ps (i : Int) ∉ bks Ps t.met := fun h => hm ((bks_mem hW.nd hrp hip).1 h)
    have cM := meet_new B 57 _ _ _ (blk Ps (i : Int)) w u1 hLm hLb hnb (by decide) hT.lo (by rw [bks_len]; omega)
    rw [bks_len] at cM
    obtain ⟨n, hx⟩ : ∃ n, g.nodes[i]? = some n := ⟨_, List.getElem?_eq_getElem hi⟩
    have hkn := kids_at hx
    have hkk := hk i
    rw [hkn] at hkk
    have hkl' : n.kids.length ≤ 1048576 := hkl n (List.mem_of_getElem? hx)
    obtain ⟨kv, hkb, hkv⟩ := hW.knot i n hx
    obtain ⟨ka, kc, rfl⟩ := hkv.sl
    rw [List.length_map] at hkb hkv
    have HBE : Hid (∀ (u : Td) (x : World), TeAt P0 B Ps S u x → u.out.length ≤ 100000000 → Calls Tryd.prog 47 #[.pointer (some ⟨B, 0, none⟩), .pointer (some ⟨blk Ps (i : Int), 0, none⟩), .int .i64 (t.met.length : Int)] x fun r w' => r = .returned (.tuple #[]) ∧ TeAt P0 B Ps S { u with out := u.out ++ [evBeg n (nmS S t.met.length)] } w') := fun u x hu hl => begin_any hW hV hs hsl i t.met.length n hx u x hu hl
    have hnw0 := tdK_new (g := g) (a := iA) (b := iB S) (f := f) hm
    rw [hkn, ndAt_is hx] at hnw0
    obtain ⟨t1, ht1⟩ : ∃ t1 : Td, (⟨t.met ++ [i], t.out ++ [evBeg n (iB S t.met i)], t.tr ++ [i]⟩ : Td) = t1 := ⟨_, rfl⟩
    rw [ht1] at hnw0
    have HT1E := hidG ht1
    have HNW := hidG hnw0
    have HPP : Hid ((n.kids.foldl (fun t k => tdK g iA (iB S) f k.toNat t) t1).tr <+: F) := by
      have h := hP
      rw [hnw0] at h
      show _ <+: _
      split at h
      · exact h
      · exact h
    have hMI1 : MI g t1.met := by rw [← ht1]; exact hI.enter hi hm
    have hum : unmet g.nodes.length t1.met < f := by rw [← ht1]; have := unmet_new (l := t.met) hi hm; show unmet _ (t.met ++ [i]) < f; omega
    have hb1 : t1.out.length ≤ 2 * t1.tr.length + 2097200 := by
      rw [← ht1]
      show (t.out ++ [_]).length ≤ 2 * (t.tr ++ [i]).length + 2097200
      simp only [List.length_append, List.length_singleton]
      omega
    have HST : Hid (∀ j, MI g ((n.kids.take j).foldl (fun t k => tdK g iA (iB S) f k.toNat t) t1).met ∧ unmet g.nodes.length ((n.kids.take j).foldl (fun t k => tdK g iA (iB S) f k.toNat t) t1).met < f ∧ ((n.kids.take j).foldl (fun t k => tdK g iA (iB S) f k.toNat t) t1).out.length ≤ 2 * ((n.kids.take j).foldl (fun t k => tdK g iA (iB S) f k.toNat t) t1).tr.length + 2097200) := fun j => by
      have h1 := tdF_g (g := g) (a := iA) (b := iB S) f (n.kids.take j) t1
      obtain ⟨u, hu⟩ : ∃ u, (n.kids.take j).foldl (fun t k => tdK g iA (iB S) f k.toNat t) t1 = u := ⟨_, rfl⟩
      have h2 := tdF_mi hk (a := iA) (b := iB S) f (n.kids.take j) t1 (fun x hx => hkk x (List.mem_of_mem_take hx)) hMI1
      rw [hu] at h1 h2 ⊢
      refine ⟨h2, Nat.lt_of_le_of_lt (unmet_pre h1.met) hum, ?_⟩
      have := h1.out
      omega
    have HPX : Hid (∀ (j : Nat) (x : Int), n.kids[j]? = some x → (tdK g iA (iB S) f x.toNat ((n.kids.take j).foldl (fun t k => tdK g iA (iB S) f k.toNat t) t1)).tr <+: F ∧ (n.kids.take (j + 1)).foldl (fun t k => tdK g iA (iB S) f k.toNat t) t1 = tdK g iA (iB S) f x.toNat ((n.kids.take j).foldl (fun t k => tdK g iA (iB S) f k.toNat t) t1)) := fun j x hjx => by
      have hst : (n.kids.take (j + 1)).foldl (fun t k => tdK g iA (iB S) f k.toNat t) t1 = tdK g iA (iB S) f x.toNat ((n.kids.take j).foldl (fun t k => tdK g iA (iB S) f k.toNat t) t1) := by
        rw [List.take_add_one, hjx, List.foldl_append]
        rfl
      refine ⟨?_, hst⟩
      rw [← hst]
      have h := HPP.out
      rw [← List.take_append_drop (j + 1) n.kids, List.foldl_append] at h
      exact (tdF_g f (n.kids.drop (j + 1)) _).tr.trans h
    obtain ⟨bi, hbi⟩ : ∃ bi, blk Ps (i : Int) = bi := ⟨_, rfl⟩
    have hbiP : bi < P0.heap.size := by rw [← hbi]; exact (Array.getElem?_eq_some_iff.1 hkb).1
    have HBI := hidG hbi
    rw [hbi] at cM hkb HBE ⊢
    have HKB : Hid (P0.heap[bi]? = some (.cells (knV n (.slice ka n.kids.length kc)) 80 (0, 0))) := hkb
    have HPL : Hid (PlAt P0 (.slice ka n.kids.length kc) (n.kids.map (blk Ps))) := hkv
    have HKR : Hid (∀ x ∈ n.kids, 0 ≤ x ∧ x < (g.nodes.length : Int)) := hkk
    have HIH := hidG IH
    have HT := hidG hT
    have HU : Hid (IlAt P0 (.slice sa S.length sc) S ∧ w.ownsRow P0.heap.size 44 8 (.slice oa on oc) t.out.length (rowsE t.out) ∧ TrAt B 57 [.slice sa S.length sc, .slice oa on oc] P0.heap.size (bks Ps t.met) w) := ⟨u2, u3, u1⟩
    have HOL := hidG hol
    have hkI : (n.kids.length : Int) ≤ 1048576 := by omega
    clear hT hI hz hi hb hP hip hrp hWw hLm hLb hml hpt hol u1 u2 u3 hm hnb hx hkn hkk hkl' hkb hkv hnw0 ht1 hMI1 hum hb1 hbi hW hV hs hsl hk hkl IH
    go_enter Tryd.func40, Tryd.ntmps40
    go_wp2_with fail
    refine cM.mono ?_
    rintro e w1 ⟨rfl, hT1, hbl1, hk1⟩
    have hTe : TeAt P0 B Ps S ⟨t.met ++ [i], t.out, t.tr ++ [i]⟩ w1 := by
      obtain ⟨_, _, _, _, k1, _⟩ := HU.out.2.2.ex
      refine ⟨⟨sa, sc, oa, on, oc, ?_, HU.out.1, hk1.row HU.out.2.1 (by decide) (row_apart HU.out.2.1 k1 (by decide))⟩, HT.out.lo, HT.out.below.trans hbl1⟩
      show TrAt _ _ _ _ (bks Ps (t.met ++ [i])) _
      rw [bks_snoc, HBI.out]
      exact hT1
    have cB := HBE.out _ w1 hTe HOL.out
    clear cM hT1 hbl1 hk1 hTe
    go_wp2_with fail
    refine cB.mono ?_
    rintro e w2 ⟨rfl, hT2⟩
    have HT2 : Hid (TeAt P0 B Ps S t1 w2) := by
      show TeAt _ _ _ _ _ _
      rw [← HT1E.out]
      exact hT2
    have kb2 := (hT2.below.block bi hbiP).trans HKB.out
    have kk2 : w2.cell? ⟨bi, 3, none⟩ = some (.slice ka n.kids.length kc) := by simp [World.cell?, kb2, knV]
    clear cB hT2 kb2
    go_wp2_with fail
    go_loopw [32] (fun iv wr => ∃ j : Nat, iv = .int .i64 j ∧ j ≤ n.kids.length ∧ Hid (TeAt P0 B Ps S ((n.kids.take j).foldl (fun t k => tdK g iA (iB S) f k.toNat t) t1) wr)) (fun iv _ => n.kids.length - (intOf iv).toNat)
    case atStart => exact ⟨0, rfl, Nat.zero_le _, HT2⟩
    case round =>
      obtain ⟨j, rfl, hj, HR⟩ := hrel
      clear HT2 kk2
      obtain ⟨hMI, hum, hoo⟩ := HST.out j
      by_cases hlt : j < n.kids.length
      · have hltI : (j : Int) < (n.kids.length : Int) := by omega
        obtain ⟨x, hx⟩ : ∃ x, n.kids[j]? = some x := ⟨_, List.getElem?_eq_getElem hlt⟩
        have hpx : (n.kids.map (blk Ps))[j]? = some (blk Ps x) := by rw [List.getElem?_map, hx]; rfl
        have hPL := HPL.out
        rw [← List.length_map (f := blk Ps)] at hPL
        obtain ⟨b, o, rfl, hbl, d⟩ := hPL.at hpx
        rw [← HR.out.below.cell hbl] at d
        have hx0 := HKR.out x (List.mem_of_getElem? hx)
        obtain ⟨hp1, hp2⟩ := HPX.out j x hx
        obtain ⟨m, rfl⟩ := Int.eq_ofNat_of_zero_le hx0.1
        have hmN : m < g.nodes.length := by omega
        have cK := HIH.out m _ wr HR.out hMI hum hmN hoo hp1
        rw [show tdK g iA (iB S) f m ((n.kids.take j).foldl (fun t k => tdK g iA (iB S) f k.toNat t) t1) = (n.kids.take (j + 1)).foldl (fun t k => tdK g iA (iB S) f k.toNat t) t1 from hp2.symm] at cK
        unfold ptr at d
        clear hx hpx hPL hbl hx0 hp1 hp2 hmN hMI hum hoo HR
        go_wp2_with fail
        refine cK.mono ?_
        rintro e w3 ⟨rfl, hT3⟩
        have HT3 := hidG hT3
        clear cK hT3 d
        go_wp2_with fail
        go_roundw
        case rel => exact ⟨j + 1, by go_num, hlt, HT3⟩
        case measure => simp [intOf]; omega
      · have hge : ¬ (j : Int) < (n.kids.length : Int) := by omega
        obtain ⟨t2, ht2⟩ : ∃ t2, n.kids.foldl (fun t k => tdK g iA (iB S) f k.toNat t) t1 = t2 := ⟨_, rfl⟩
        have hR := HR.out
        have hPf := HPP.out
        have hnf := HNW.out
        rw [show j = n.kids.length by omega, List.take_length] at hR hoo
        rw [ht2] at hR hoo hPf hnf
        have kbr := (hR.below.block bi hbiP).trans HKB.out
        have k0 : wr.cell? ⟨bi, 0, none⟩ = some (.int .i64 n.kind) := by simp [World.cell?, kbr, knV]
        by_cases h5 : n.kind = 5
        · have h5t : (n.kind != 5) = false := by rw [h5]; rfl
          rw [if_pos h5] at hnf
          have HF : Hid (TeAt P0 B Ps S (tdK g iA (iB S) (f + 1) i t) wr) := by show TeAt _ _ _ _ _ _; rw [hnf]; exact hR
          clear hMI hum hoo ht2 hR hPf hnf kbr h5 HR
          go_wp2_with fail
          go_end0
          exact ⟨rfl, HF.out⟩
        · have h5t : (n.kind != 5) = true := by rw [bne_iff_ne]; exact h5
          rw [if_neg h5] at hnf
          have cT := tell_any (evKind 7) P0 B Ps S t2 wr hR (HPO.out t2 hPf hoo)
          have HNF := hidG hnf
          have hcT := cT
          unfold evKind Ev.row ev0 at hcT
          simp only [] at hcT
          clear hMI hum hoo ht2 hR hPf hnf kbr h5 HR cT
          go_wp2_with fail
          refine hcT.mono ?_
          rintro e w3 ⟨rfl, hT3⟩
          have HF : Hid (TeAt P0 B Ps S (tdK g iA (iB S) (f + 1) i t) w3) := by show TeAt _ _ _ _ _ _; rw [HNF.out]; exact hT3
          clear hcT hT3 k0
          go_wp2_with fail
          go_end0
          exact ⟨rfl, HF.out⟩
theorem tn_all {P0 : World} {B : Nat} {Ps : List Nat} {S : List Int} {g : Gr} {F : List Nat} {kn rt : Value} (hW : WebAt P0 g Ps kn rt) (hV : TabV P0) (hs : S.Pairwise (· ≤ ·)) (hsl : S.length ≤ 1048576) (hk : ∀ i, ∀ k ∈ kidsOf g i, 0 ≤ k ∧ k < (g.nodes.length : Int)) (hlen : g.nodes.length ≤ 3000) (hkl : ∀ n ∈ g.nodes, n.kids.length ≤ 1048576) (hF : F.length ≤ 1048576) : ∀ f, TnC P0 B Ps S g F f
  | 0 => fun _ _ _ _ _ hz _ _ _ => absurd hz (Nat.not_lt_zero _)
  | f + 1 => tn_step hW hV hs hsl hk hlen hkl hF (tn_all hW hV hs hsl hk hlen hkl hF f)
end Go.Proofs.YtgaibajkegfpoaaDoor
/- The program's teller: the stream. -/
namespace Go.Proofs.YtgaibajkegfpoaaDoor
open Go.ChangeShapes Go.WideShapes Go.ChangeAt Go.RowKit Go.Deep
def td0 : Td := ⟨[], [evKind 1], []⟩
theorem tdR_mi {g : Gr} (hk : ∀ i, ∀ k ∈ kidsOf g i, 0 ≤ k ∧ k < (g.nodes.length : Int)) {a b : List Nat → Nat → ByteArray} (f : Nat) : ∀ (l : List Int) (u : Td), (∀ k ∈ l, 0 ≤ k ∧ k < (g.nodes.length : Int)) → MI g u.met → MI g (l.foldl (tdR g a b f) u).met
  | [], _, _, h => h
  | k :: l, u, hl, hu => by
    have hk0 := hl k (List.mem_cons_self ..)
    exact tdR_mi hk f l _ (fun x hx => hl x (List.mem_cons_of_mem _ hx)) (tdK_mi hk f k.toNat { u with out := u.out ++ [evDoc] } (by omega) hu)
set_option maxHeartbeats 8000000 in
set_option maxRecDepth 100000 in
theorem stream_any {P0 : World} {B : Nat} {Ps : List Nat} {S : List Int} {g : Gr} {kn rt : Value} (hW : WebAt P0 g Ps kn rt) (hV : TabV P0) (hs : S.Pairwise (· ≤ ·)) (hsl : S.length ≤ 1048576) (hk : ∀ i, ∀ k ∈ kidsOf g i, 0 ≤ k ∧ k < (g.nodes.length : Int)) (hr : ∀ k ∈ g.roots, 0 ≤ k ∧ k < (g.nodes.length : Int)) (hlen : g.nodes.length ≤ 3000) (hrl : g.roots.length ≤ 1048576) (hkl : ∀ n ∈ g.nodes, n.kids.length ≤ 1048576) (hF : (g.roots.foldl (tdR g iA (iB S) (g.nodes.length + 1)) td0).tr.length ≤ 1048576) (w : World) (hT : TeAt P0 B Ps S ⟨[], [], []⟩ w) :
    Calls Tryd.prog 23 #[.pointer (some ⟨B, 0, none⟩), rt] w fun e w' => e = .returned (.tuple #[]) ∧ TeAt P0 B Ps S (tdAll g iA (iB S)) w' := by
  obtain ⟨ra, rc, rfl⟩ := hW.roots.sl
  have HPL : Hid (PlAt P0 (.slice ra (g.roots.map (blk Ps)).length rc) (g.roots.map (blk Ps))) := hW.roots
  rw [List.length_map] at hW ⊢
  obtain ⟨N1, hN1⟩ : ∃ N1, g.nodes.length + 1 = N1 := ⟨_, rfl⟩
  have HAL : Hid (tdAll g iA (iB S) = { (g.roots.foldl (tdR g iA (iB S) N1) td0) with out := (g.roots.foldl (tdR g iA (iB S) N1) td0).out ++ [evKind 9] }) := by
    show _ = _
    rw [← hN1]
    rfl
  rw [hN1] at hF
  have HML : Hid (∀ t, MI g t → unmet g.nodes.length t < N1) := fun t ht => by have := ht.room; omega
  have HIS : Hid (∀ j, MI g ((g.roots.take j).foldl (tdR g iA (iB S) N1) td0).met) := fun j => tdR_mi hk _ _ _ (fun x hx => hr x (List.mem_of_mem_take hx)) ⟨fun _ h => (List.not_mem_nil h).elim, (start_svI g).room⟩
  have HPR : Hid (∀ j, ((g.roots.take j).foldl (tdR g iA (iB S) N1) td0).tr <+: (g.roots.foldl (tdR g iA (iB S) N1) td0).tr) := fun j => by
    have h := (tdRs_g (g := g) (a := iA) (b := iB S) N1 (g.roots.drop j) ((g.roots.take j).foldl (tdR g iA (iB S) N1) td0)).1
    rw [← List.foldl_append, List.take_append_drop] at h
    exact h
  have HLN : Hid (∀ j, ((g.roots.take j).foldl (tdR g iA (iB S) N1) td0).out.length ≤ 2 * ((g.roots.take j).foldl (tdR g iA (iB S) N1) td0).tr.length + 2097160 ∧ ((g.roots.take j).foldl (tdR g iA (iB S) N1) td0).out.length ≤ 100000000) := fun j => by
    have h := (tdRs_g (g := g) (a := iA) (b := iB S) N1 (g.roots.take j) td0).2
    have h2 := (HPR.out j).length_le
    have h3 : (g.roots.take j).length ≤ 1048576 := by rw [List.length_take]; omega
    have h4 : td0.out.length = 1 := rfl
    have h5 : td0.tr.length = 0 := rfl
    rw [h4, h5] at h
    omega
  have HST : Hid (∀ (j : Nat) (x : Int), g.roots[j]? = some x → (g.roots.take (j + 1)).foldl (tdR g iA (iB S) N1) td0 = tdR g iA (iB S) N1 ((g.roots.take j).foldl (tdR g iA (iB S) N1) td0) x) := fun j x hjx => by
    rw [List.take_add_one, hjx, List.foldl_append]
    rfl
  have HTN : Hid (TnC P0 B Ps S g (g.roots.foldl (tdR g iA (iB S) N1) td0).tr N1) := tn_all hW hV hs hsl hk hlen hkl hF N1
  have HFB := hidG hF
  have HKR := hidG hr
  have hrI : (g.roots.length : Int) ≤ 1048576 := by omega
  have c1 := tell_any (evKind 1) P0 B Ps S _ w hT (by decide)
  unfold evKind Ev.row ev0 at c1
  simp only [] at c1
  clear hW hV hs hsl hk hr hlen hrl hkl hF hT hN1
  go_enter Tryd.func23, Tryd.ntmps23
  go_wp2_with fail
  refine c1.mono ?_
  rintro e w1 ⟨rfl, hT1⟩
  have HT1 : Hid (TeAt P0 B Ps S td0 w1) := hT1
  clear c1 hT1
  go_wp2_with fail
  go_loopw [11] (fun iv wr => ∃ j : Nat, iv = .int .i64 j ∧ j ≤ g.roots.length ∧ Hid (TeAt P0 B Ps S ((g.roots.take j).foldl (tdR g iA (iB S) N1) td0) wr)) (fun iv _ => g.roots.length - (intOf iv).toNat)
  case atStart => exact ⟨0, rfl, Nat.zero_le _, HT1⟩
  case round =>
    obtain ⟨j, rfl, hj, HR⟩ := hrel
    clear HT1
    have hL := HLN.out j
    by_cases hlt : j < g.roots.length
    · have hltI : (j : Int) < (g.roots.length : Int) := by omega
      obtain ⟨x, hx⟩ : ∃ x, g.roots[j]? = some x := ⟨_, List.getElem?_eq_getElem hlt⟩
      have hpx : (g.roots.map (blk Ps))[j]? = some (blk Ps x) := by rw [List.getElem?_map, hx]; rfl
      obtain ⟨b, o, hab, hbl, d⟩ := HPL.out.at hpx
      subst hab
      rw [← HR.out.below.cell hbl] at d
      have hx0 := HKR.out x (List.mem_of_getElem? hx)
      obtain ⟨m, rfl⟩ := Int.eq_ofNat_of_zero_le hx0.1
      have hm : m < g.nodes.length := by omega
      have hst := HST.out j _ hx
      have hMI := HIS.out j
      have hpp := HPR.out (j + 1)
      rw [hst] at hpp
      obtain ⟨t, ht⟩ : ∃ t, (g.roots.take j).foldl (tdR g iA (iB S) N1) td0 = t := ⟨_, rfl⟩
      rw [ht] at hL hst hMI hpp HR
      have HL := hidG hL
      have HMI := hidG hMI
      have HPP : Hid ((tdK g iA (iB S) N1 m { t with out := t.out ++ [evDoc] }).tr <+: (g.roots.foldl (tdR g iA (iB S) N1) td0).tr) := hpp
      have HSE : Hid ((g.roots.take (j + 1)).foldl (tdR g iA (iB S) N1) td0 = { (tdK g iA (iB S) N1 m { t with out := t.out ++ [evDoc] }) with out := (tdK g iA (iB S) N1 m { t with out := t.out ++ [evDoc] }).out ++ [evKind 8] }) := hst
      have HM := hidG hm
      have c2 := tell_any evDoc P0 B Ps S t wr HR.out hL.2
      unfold evDoc Ev.row ev0 at c2
      simp only [] at c2
      unfold ptr at d
      clear hx hpx hbl hx0 hm hst hMI hpp ht hL HR
      go_wp2_with fail
      refine c2.mono ?_
      rintro e w2 ⟨rfl, hT2⟩
      have c3 := HTN.out m _ w2 (show TeAt P0 B Ps S { t with out := t.out ++ [evDoc] } w2 from hT2) HMI.out (HML.out _ HMI.out) HM.out (by
        have := HL.out.1
        show (t.out ++ [evDoc]).length ≤ 2 * t.tr.length + 2097200
        rw [List.length_append, List.length_singleton]
        omega) HPP.out
      obtain ⟨u, hu⟩ : ∃ u, tdK g iA (iB S) N1 m { t with out := t.out ++ [evDoc] } = u := ⟨_, rfl⟩
      rw [hu] at c3
      have HU := hidG hu
      clear c2 hT2 d hu
      go_wp2_with fail
      refine c3.mono ?_
      rintro e w3 ⟨rfl, hT3⟩
      have c4 := tell_any (evKind 8) P0 B Ps S u w3 hT3 (by
        have h1 := (tdK_g (g := g) (a := iA) (b := iB S) N1 m { t with out := t.out ++ [evDoc] })
        rw [HU.out] at h1
        have h2 := h1.out
        have h3 := HL.out.1
        have h4 := HPP.out.length_le
        have h5 := (HLN.out g.roots.length).1
        rw [HU.out] at h4
        have h6 := HFB.out
        simp only [List.length_append, List.length_singleton] at h2
        omega)
      unfold evKind Ev.row ev0 at c4
      simp only [] at c4
      clear c3 hT3
      go_wp2_with fail
      refine c4.mono ?_
      rintro e w4 ⟨rfl, hT4⟩
      have HT4 : Hid (TeAt P0 B Ps S ((g.roots.take (j + 1)).foldl (tdR g iA (iB S) N1) td0) w4) := by
        show TeAt _ _ _ _ _ _
        rw [HSE.out, HU.out]
        exact hT4
      clear c4 hT4
      go_wp2_with fail
      go_roundw
      case rel => exact ⟨j + 1, by go_num, hlt, HT4⟩
      case measure => simp [intOf]; omega
    · have hge : ¬ (j : Int) < (g.roots.length : Int) := by omega
      obtain rfl : j = g.roots.length := by omega
      have hR := HR.out
      rw [List.take_length] at hR hL
      have c5 := tell_any (evKind 9) P0 B Ps S _ wr hR hL.2
      unfold evKind Ev.row ev0 at c5
      simp only [] at c5
      clear hR hL HR
      go_wp2_with fail
      refine c5.mono ?_
      rintro e w5 ⟨rfl, hT5⟩
      have HF5 : Hid (TeAt P0 B Ps S (tdAll g iA (iB S)) w5) := by
        show TeAt _ _ _ _ _ _
        rw [HAL.out]
        exact hT5
      clear c5 hT5
      go_wp2_with fail
      go_end0
      exact ⟨rfl, HF5.out⟩
end Go.Proofs.YtgaibajkegfpoaaDoor

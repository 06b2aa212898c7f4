/-
  The laws of the layer slug: SlugTells.
-/
import Derived.Test.YthbgcpkgpmlolaaDoorSlS
import Derived.Test.YthbgcpkgpmlolaaDoorApn
import Derived.Test.YthbgcpkgpmlolaaDoorSlY
namespace Go.Proofs.YthbgcpkgpmlolaaDoor
open Go.RowKit Go.Maps
set_option linter.unusedSimpArgs false
set_option linter.unusedVariables false
set_option maxRecDepth 100000

theorem slown_apart {w : World} {B b n : Nat} {v m : Value} {xs : List Value} {had : List (List UInt8)} (h : w.ownsRow B 9 1 v n xs) (ha : AncIs w B b m had) : v.ownBlock ≠ some b ∧ ∀ g, m = .map (some g) → v.ownBlock ≠ some g := by
  rcases h.2 with ⟨rfl, _⟩ | ⟨g, cap, cur, rfl, _, hg, _⟩
  · exact ⟨by simp [Value.ownBlock], fun g _ => by simp [Value.ownBlock]⟩
  · constructor
    · intro e
      simp [Value.ownBlock] at e
      subst e
      rw [ha.blk] at hg
      simp at hg
    · intro g' e e2
      simp [Value.ownBlock] at e2
      subst e2
      rcases ha.map with ⟨e3, _⟩ | ⟨g2, n2, D, e3, _, ⟨es, cl, hb, _⟩, _⟩
      · rw [e] at e3; simp at e3
      · rw [e] at e3
        simp at e3
        subst e3
        rw [hb] at hg
        simp at hg
theorem own_turn {w w' : World} {B b n : Nat} {v m : Value} {xs : List Value} {had : List (List UInt8)} (h : w.ownsRow B 9 1 v n xs) (ha : AncIs w B b m had) (ht : AncTurn w w' b m) : w'.ownsRow B 9 1 v n xs := by
  have hap := slown_apart h ha
  obtain ⟨h1, h2⟩ := h
  refine ⟨h1, ?_⟩
  rcases h2 with h2 | ⟨g, cap, cur, rfl, hB, hg, hr⟩
  · exact .inl h2
  · refine .inr ⟨g, cap, cur, rfl, hB, (ht.rest g (Array.getElem?_eq_some_iff.1 hg).1 (fun e => hap.1 (by simp [Value.ownBlock, e])) (fun e => hap.2 g e (by simp [Value.ownBlock]))).trans hg, hr⟩
theorem AncIs.grownRow {w w' : World} {B b : Nat} {m : Value} {had : List (List UInt8)} {row : Option Nat} (h : AncIs w B b m had) (hg : w.grownBy w' row) (hb : row ≠ some b) (hm : ∀ g, m = .map (some g) → row ≠ some g) : AncIs w' B b m had := by
  refine ⟨(hg.block b (Array.getElem?_eq_some_iff.1 h.blk).1 (fun e => hb e.symm)).trans h.blk, h.base, ?_⟩
  rcases h.map with h1 | ⟨g', n, D, e, hg', hm', r⟩
  · exact .inl h1
  · exact .inr ⟨g', n, D, e, hg', slMap_block hm' (hg.block g' hm'.lt (fun e2 => hm g' e e2.symm)), r⟩
def TellRel (w : World) (b len : Nat) (hv i : Value) (wr : World) : Prop := ∃ (k : Nat) (m : Value) (had : List (List UInt8)), i = .int .i64 k ∧ k ≤ len ∧ had.length = k ∧ AncIs wr w.heap.size b m had ∧ wr.ownsRow w.heap.size 9 1 hv had.length (strs had) ∧ Below w.heap.size w wr

set_option maxHeartbeats 8000000 in
theorem slugTells_walk (w : World) (h7 : Tabs w) (A0 : Option Addr) (c0 : Nat) (z0 : List ByteArray) (r0 : RowOf w A0 c0 (z0.map Value.string)) (w0 : ∀ s ∈ z0, s.size ≤ maxLen) (a1 : ByteArray) (w1 : a1.size ≤ maxLen) :
    Calls Tryd.prog 3 #[.slice A0 z0.length c0, .string a1] w fun e w' => e = .returned (.bool true) ∧ Below w.heap.size w w' := by
  have CA := Lib.hid (alive16_any w)
  have hle : z0.length ≤ c0 := by have := r0.1; simpa using this
  have hcap := r0.2.1
  unfold maxLen at hcap w1
  have wa := w1
  clear w0 w1
  by_cases hz : 40 < z0.length
  · go_enter Tryd.func3, Tryd.ntmps3
    go_wp2_with fail
    refine CA.out.mono ?_
    rintro e w1 ⟨rfl, b1⟩
    go_wp2
    go_ret
    exact ⟨rfl, b1⟩
  by_cases hz1 : 100 < a1.size
  · have hz0 : z0.length ≤ 40 := by omega
    clear hz
    go_enter Tryd.func3, Tryd.ntmps3
    go_wp2_with fail
    refine CA.out.mono ?_
    rintro e w1 ⟨rfl, b1⟩
    go_wp2
    go_ret
    exact ⟨rfl, b1⟩
  · have hz0 : z0.length ≤ 40 := by omega
    have hz2 : a1.size ≤ 100 := by omega
    clear hz hz1 wa
    have R0 := Lib.hid r0
    have HT := Lib.hid h7
    clear r0 h7
    go_enter Tryd.func3, Tryd.ntmps3
    go_wp2_with fail
    refine CA.out.mono ?_
    rintro e w1 ⟨rfl, b1⟩
    have hsz1 := b1.size
    have h0 : AncIs (w1.alloc (.cells #[.map none] 27)) w.heap.size w1.heap.size (.map none) [] := AncIs.new (heap_alloc_new _ _) hsz1
    have HH := Lib.hid h0
    have HB := Lib.hid (b1.alloc hsz1 (.cells #[.map none] 27))
    clear h0 b1
    go_wp2_with fail
    go_loopw [6, 28] (fun hv i wr => TellRel w w1.heap.size z0.length hv i wr) (fun _ i _ => z0.length - (intOf i).toNat)
    case atStart => exact ⟨0, _, _, rfl, Nat.zero_le _, rfl, HH.out, World.ownsRow_nil _ _ _ _, HB.out⟩
    case round =>
      obtain ⟨k, m, had, rfl, hk, hhk, ha, how, hbw⟩ := hrel
      by_cases hlt : k < z0.length
      · obtain ⟨bb, off, hAe, hb2, hc⟩ := (R0.out.below hbw).at (by intro e; rw [List.map_eq_nil_iff.1 e] at hlt; simp at hlt)
        have hck := hc k (by simpa using hlt)
        rw [List.getElem_map] at hck
        subst hAe
        clear hc
        generalize hx0 : z0[k] = x at *
        clear hx0
        by_cases hx1 : 100 < x.size
        · have HBW := Lib.hid hbw
          clear hbw ha how
          go_wp2
          go_ret
          exact ⟨rfl, HBW.out⟩
        · have hx2 : x.size ≤ 100 := by omega
          clear hx1
          obtain ⟨A5, c5, rfl, hr5, hx8, hx9⟩ := RowOf.own how
          clear hx8 hx9
          have cA := refAnchor_any A5 c5 had x wr hr5 (by omega) (by omega) (HT.out.below hbw)
          have CN := fun (W : World) (h : AncIs W w.heap.size w1.heap.size m had) (hs : w.heap.size ≤ W.heap.size) => next_any hs h x (by omega) (by omega)
          have cO := fun W => of_any x W (by omega)
          have cS := fun (W : World) (hT : Tabs W) => refSlug_any x W (by omega) hT
          have hnl : (slNext had x.data.toList).length ≤ maxLen := by unfold maxLen; have := (slNext_ok had x.data.toList (by omega)).2.2.2.2; omega
          have hnew := slNext_new had x.data.toList (by omega)
          generalize slNext had x.data.toList = nx at *
          generalize slugL x.data.toList = sx at *
          have HA := Lib.hid ha
          have HO := Lib.hid how
          have HBW := Lib.hid hbw
          have C1 := Lib.hid cA
          have C2 := Lib.hid cO
          have C3 := Lib.hid cS
          have C4 := Lib.hid CN
          have HNEW := Lib.hid (And.intro hnew hhk)
          clear ha how hbw cA cO cS CN hr5 hnew hhk
          go_wp2_with fail
          refine C1.out.mono ?_
          rintro e w2 ⟨rfl, b2⟩
          have HA2 := Lib.hid (HA.out.below b2)
          have HO2 := Lib.hid (ownsRow_below HO.out b2)
          have HB2 := Lib.hid (HBW.out.then b2)
          clear b2 C1
          go_wp2_with fail
          refine (C2.out _).mono ?_
          rintro e w3 ⟨rfl, b3⟩
          have HA3 := Lib.hid (HA2.out.below b3)
          have HO3 := Lib.hid (ownsRow_below HO2.out b3)
          have HB3 := Lib.hid (HB2.out.then b3)
          clear b3 C2
          go_wp2_with fail
          refine (C3.out _ (HT.out.below HB3.out)).mono ?_
          rintro e w4 ⟨rfl, b4⟩
          have HA4 := Lib.hid (HA3.out.below b4)
          have HO4 := Lib.hid (ownsRow_below HO3.out b4)
          have HB4 := Lib.hid (HB3.out.then b4)
          have ch := has_any HA4.out nx hnl
          rw [decide_eq_false HNEW.out.1] at ch
          have CH := Lib.hid ch
          have cn := C4.out w4 HA4.out HB4.out.size
          have CN := Lib.hid cn
          clear b4 C3 C4 ch cn
          go_wp2_with fail
          refine CH.out.mono ?_
          rintro e w' ⟨rfl, rfl⟩
          go_wp2_with fail
          refine CN.out.mono ?_
          rintro e w5 ⟨rfl, ⟨m5, h5, hm5⟩, ht5, b5⟩
          have HO5 := Lib.hid (own_turn HO4.out HA4.out ht5)
          have HB5 := Lib.hid (HB4.out.trans b5)
          have ch5 := has_any h5 nx hnl
          rw [decide_eq_true (by simp)] at ch5
          have CH5 := Lib.hid ch5
          have H5 := Lib.hid h5
          clear h5 hm5 ht5 b5 ch5 CH CN
          go_wp2_with fail
          refine CH5.out.mono ?_
          rintro e w' ⟨rfl, rfl⟩
          have hal : Below w5.heap.size w5 (w5.alloc (.cells #[.string ⟨nx.toArray⟩] 9)) := (Below.refl _ _).alloc (Nat.le_refl _) _
          have HO6 := Lib.hid (ownsRow_below HO5.out hal)
          have HA6 := Lib.hid (H5.out.below hal)
          have HB6 := Lib.hid (HB5.out.then hal)
          have hlit : (w5.alloc (.cells #[.string ⟨nx.toArray⟩] 9)).ownsRow w5.heap.size 9 1 (.slice (some ⟨w5.heap.size, 0, none⟩) 1 1) 1 (strs [nx]) :=
            ⟨rfl, .inr ⟨w5.heap.size, 1, #[.string ⟨nx.toArray⟩], rfl, Nat.le_refl _, heap_alloc_new w5 _, Nat.le_refl _, by unfold maxLen; omega, rfl, rfl⟩⟩
          have hnr : RowOf (w5.alloc (.cells #[.string ⟨nx.toArray⟩] 9)) (some ⟨w5.heap.size, 0, none⟩) 1 (strs [nx]) := by
            obtain ⟨A9, c9, e9, hr9, _, _⟩ := RowOf.own hlit
            simp at e9
            obtain ⟨rfl, rfl⟩ := e9
            exact hr9
          have HNR := Lib.hid hnr
          have hap := slown_apart HO6.out HA6.out
          have HAP := Lib.hid hap
          clear hal hnr CH5 hlit hap
          go_wp2_with (at_builtin; refine append_strs rfl _ _ rfl w.heap.size (.slice A5 had.length c5) had rfl HO6.out (some ⟨w5.heap.size, 0, none⟩) 1 [nx] rfl HNR.out (fun h => by cases h) (by have := HNEW.out.2; simp; omega) HB6.out.size ?_)
          intro v7 w7 ho6 hg7
          have ho7 : w7.ownsRow w.heap.size 9 1 v7 (had ++ [nx]).length (strs (had ++ [nx])) := by
            rw [List.length_append]
            exact ho6
          clear ho6
          have hln : (had ++ [nx]).length = k + 1 := by have := HNEW.out.2; simp; omega
          have HLN := Lib.hid hln
          clear hln
          generalize had ++ [nx] = had7 at *
          have HA7 := Lib.hid (HA6.out.grownRow hg7 HAP.out.1 HAP.out.2)
          have HB7 := Lib.hid (HB6.out.trans (below_of_grown hg7 (fun g hg => (HO6.out.lt g hg).1) HB6.out.size))
          have cask := has_any HA7.out a1.data.toList (by rw [slSize]; unfold maxLen; omega)
          rw [Lib.mk_data a1] at cask
          have HO7 := Lib.hid ho7
          obtain ⟨A7, c7, rfl, hr7, hx8, hx9⟩ := RowOf.own ho7
          have cat := rat_all A7 c7 had7 a1 w7 hr7
          have hq := (idxL_neg had7 a1.data.toList).2
          generalize decide (a1.data.toList ∈ had7) = q at *
          generalize idxL had7 a1.data.toList = r at *
          have HREL := Lib.hid (And.intro HA7.out (And.intro HO7.out HB7.out))
          have CASK := Lib.hid cask
          have CAT := Lib.hid cat
          clear hr7 hx8 hx9 ho7 hg7 cask cat HA7 HO7 HB7 HAP HNR
          cases q with
          | true =>
            go_wp2_with fail
            refine CASK.out.mono ?_
            rintro e w' ⟨rfl, rfl⟩
            go_wp2_with fail
            refine CAT.out.mono ?_
            rintro e w' ⟨rfl, rfl⟩
            go_wp2
            all_goals first
              | exact ⟨⟨k + 1, m5, had7, by go_num, by omega, HLN.out, HREL.out⟩, by simp only [intOf]; omega⟩
              | (go_round
                 case rel => exact ⟨k + 1, m5, had7, by go_num, by omega, HLN.out, HREL.out⟩
                 case measure => simp [intOf]; omega)
          | false =>
            go_wp2_with fail
            refine CASK.out.mono ?_
            rintro e w' ⟨rfl, rfl⟩
            go_wp2_with fail
            refine CAT.out.mono ?_
            rintro e w' ⟨rfl, rfl⟩
            go_wp2
            all_goals first
              | exact ⟨⟨k + 1, m5, had7, by go_num, by omega, HLN.out, HREL.out⟩, by simp only [intOf]; omega⟩
              | (go_round
                 case rel => exact ⟨k + 1, m5, had7, by go_num, by omega, HLN.out, HREL.out⟩
                 case measure => simp [intOf]; omega)
      · have hge : k = z0.length := by omega
        have HBW := Lib.hid hbw
        clear hbw ha how
        have cN := fun W => next_none (⟨#[97]⟩ : ByteArray) W
        have cH := fun W => has_none (⟨#[97]⟩ : ByteArray) W
        go_wp2_with fail
        refine (cN _).mono ?_
        rintro e w' ⟨rfl, rfl⟩
        go_wp2_with fail
        refine (cH _).mono ?_
        rintro e w' ⟨rfl, rfl⟩
        go_wp2
        go_ret
        exact ⟨rfl, HBW.out⟩

end Go.Proofs.YthbgcpkgpmlolaaDoor

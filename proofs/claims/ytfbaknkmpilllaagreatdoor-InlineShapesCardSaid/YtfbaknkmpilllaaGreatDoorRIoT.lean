/- Texts joined: IoT. -/
import Derived.Test.YtfbaknkmpilllaaGreatDoorRIoD
import Derived.Test.YtfbaknkmpilllaaGreatDoorRDfO
namespace Go.Proofs.YtfbaknkmpilllaaGreatDoor
open Go.RowKit Go.Maps Go.ChangeShapes
set_option linter.unusedSimpArgs false
set_option linter.unusedVariables false
set_option maxRecDepth 100000
theorem TableIs.grown {w w' : World} {B b B' n : Nat} {v m iv : Value} {D : List Dfn} {xs : List Value} (h : TableIs w B b v m D) (hiv : w.ownsRow B' 43 5 iv n xs) (hg : w.grownBy w' iv.ownBlock)
    (hs : ∀ g, v.ownBlock = some g → iv.ownBlock ≠ some g) : TableIs w' B b v m D := by
  refine ⟨(hg.block b (Array.getElem?_eq_some_iff.1 h.blk).1 (fun e => own_ne hiv h.blk (by decide) e.symm)).trans h.blk, h.base, row_kept hg h.row hs, ?_, h.nm, h.uq⟩
  rcases h.map with h1 | ⟨g, e, hg1, hm⟩
  · exact .inl h1
  · exact .inr ⟨g, e, hg1, map_block hm (hg.block g hm.lt (fun e => row_ne_map hm hiv e.symm))⟩
structure TabSt (wr : World) (B b : Nat) (v m iv : Value) (D : List Dfn) : Prop where
  tab : TableIs wr B b v m D
  row : wr.ownsRow B 43 5 iv D.length (flt dfC D)
  apart : ∀ g, v.ownBlock = some g → iv.ownBlock ≠ some g
theorem TabSt.below {w w' : World} {B b : Nat} {v m iv : Value} {D : List Dfn} (h : TabSt w B b v m iv D) (hb : Below w.heap.size w w') : TabSt w' B b v m iv D :=
  ⟨h.tab.below hb, ownsRow_below h.row hb, h.apart⟩
/-- What Add leaves. -/
theorem TabSt.added {w w' : World} {B b : Nat} {v m iv v' m' : Value} {D D' : List Dfn} (h : TabSt w B b v m iv D) (ht : TableIs w' B b v' m' D') (hv : v'.ownBlock = v.ownBlock ∨ ∃ g, v'.ownBlock = some g ∧ w.heap.size ≤ g) (hk : TbTurn w w' v) :
    w'.ownsRow B 43 5 iv D.length (flt dfC D) ∧ ∀ g, v'.ownBlock = some g → iv.ownBlock ≠ some g := by
  refine ⟨hk.row h.row (by decide) (fun g e1 e2 => h.apart g e2 e1), fun g e1 e2 => ?_⟩
  rcases hv with e | ⟨g', e, hg⟩
  · exact h.apart g (e ▸ e1) e2
  · rw [e] at e1
    injection e1 with e1
    have := (h.row.lt g e2).2
    omega
set_option maxHeartbeats 8000000 in
theorem table15_any (A : Option Addr) (c : Nat) (z : List Dfn) (w : World) (hr : DefsAt w A c z) (hw : DfnsWf z) (hl : z.length ≤ 20) :
    Calls Tryz.prog 15 #[.slice A z.length c] w fun e w' => (∃ tbv iv D, e = .returned (.tuple #[tbv, iv]) ∧ TbAt w' tbv D ∧ D.length ≤ 20) ∧ Below w.heap.size w w' := by
  obtain ⟨i0, hi0, hz0, hz1, hz2⟩ := info_parts infoDef
  have hle : z.length ≤ c := hr.le
  have hcap := hr.cap
  unfold maxLen at hcap
  have HR := Lib.hid hr
  have HW := Lib.hid hw
  clear hr hw
  go_enter Tryz.func15, Tryz.ntmps15
  go_wp2_with fail
  go_loopw [5, 12] (fun iv i wr => ∃ (k : Nat) (v m : Value) (D : List Dfn), i = .int .i64 k ∧ k ≤ z.length ∧ TabSt wr w.heap.size w.heap.size v m iv D ∧ D.length ≤ k ∧ Below w.heap.size w wr) (fun _ i _ => z.length - (intOf i).toNat)
  case atStart =>
    exact ⟨0, _, _, [], rfl, Nat.zero_le _, ⟨TableIs.new (heap_alloc_new _ _) (Nat.le_refl _), World.ownsRow_nil _ _ _ _, fun g e => by simp [Value.ownBlock] at e⟩, Nat.le_refl _, (Below.refl _ w).alloc (Nat.le_refl _) _⟩
  case round =>
    obtain ⟨k, v, m, D, rfl, hk, hst, hD, hbw⟩ := hrel
    by_cases hp : k < z.length
    · obtain ⟨b, off, rfl, hb, c0, c1, c2, c3, c4⟩ := DefsAt.cells5 (EltsAt.below HR.out hbw) hp
      have hwf := (HW.out z[k] (List.getElem_mem hp)).1
      generalize z[k] = x at *
      have hbd : Below wr.heap.size wr (wr.alloc (.cells #[.string ⟨x.nm.toArray⟩, .string ⟨x.url.toArray⟩, .string ⟨x.ttl.toArray⟩, .string ⟨x.txt.toArray⟩, .bool x.nt] 43)) := (Below.refl _ _).alloc (Nat.le_refl _) _
      have hst2 := hst.below hbd
      have hbox := heap_alloc_new wr (.cells #[.string ⟨x.nm.toArray⟩, .string ⟨x.url.toArray⟩, .string ⟨x.ttl.toArray⟩, .string ⟨x.txt.toArray⟩, .bool x.nt] 43)
      have hB2 := hbw.alloc hbw.size (.cells #[.string ⟨x.nm.toArray⟩, .string ⟨x.url.toArray⟩, .string ⟨x.ttl.toArray⟩, .string ⟨x.txt.toArray⟩, .bool x.nt] 43)
      have hvb : v.ownBlock ≠ some wr.heap.size := fun e => by have := (hst.tab.row.lt _ e).2; omega
      have hPL := Lib.hid hp
      obtain ⟨X0, X1, X2, X3, X4⟩ := five_box hbox
      have HSZ := Lib.hid (show (wr.alloc (.cells #[.string ⟨x.nm.toArray⟩, .string ⟨x.url.toArray⟩, .string ⟨x.ttl.toArray⟩, .string ⟨x.txt.toArray⟩, .bool x.nt] 43)).heap.size = wr.heap.size + 1 from by simp)
      cases hd : dfHas D x.nm x.nt with
      | true =>
        have ca := add_twice hst2.tab x hwf hd
        unfold dfV' at ca
        have CD := Lib.hid ca
        have HST := Lib.hid hst2
        have HB2 := Lib.hid hB2
        clear ca hst hst2 hbw hB2 hbox hbd hd hvb
        go_wp2_with fail
        generalize wr.alloc (.cells #[.string ⟨x.nm.toArray⟩, .string ⟨x.url.toArray⟩, .string ⟨x.ttl.toArray⟩, .string ⟨x.txt.toArray⟩, .bool x.nt] 43) = w2 at *
        refine CD.out.mono ?_
        rintro e w3 ⟨rfl, b3⟩
        have HST3 := Lib.hid (HST.out.below b3)
        have HB3 := Lib.hid (HB2.out.then b3)
        clear b3
        go_wp2
        go_roundw
        case rel => exact ⟨k + 1, v, m, D, by go_num, hPL.out, HST3.out, by omega, HB3.out⟩
        case measure => have := hPL.out; simp [intOf]; omega
      | false =>
        have ca := add_new hB2.size hst2.tab x hwf hd (by omega)
        unfold dfV' at ca
        have CD := Lib.hid ca
        have HST := Lib.hid hst2
        have HB2 := Lib.hid hB2
        have HBX := Lib.hid hbox
        have HVB := Lib.hid hvb
        clear ca hst hst2 hbw hB2 hbox hbd hd hvb
        go_wp2_with fail
        generalize wr.alloc (.cells #[.string ⟨x.nm.toArray⟩, .string ⟨x.url.toArray⟩, .string ⟨x.ttl.toArray⟩, .string ⟨x.txt.toArray⟩, .bool x.nt] 43) = w2 at *
        refine CD.out.mono ?_
        rintro e w3 ⟨rfl, ⟨v', m', ht3, hv3⟩, ht, bB⟩
        obtain ⟨hrow3, hap3⟩ := HST.out.added ht3 hv3 ht
        have hbox3 := ht _ _ _ _ HBX.out (by decide) HVB.out
        obtain ⟨Y0, Y1, Y2, Y3, Y4⟩ := five_box hbox3
        have HR3 := Lib.hid hrow3
        have HAP := Lib.hid hap3
        have HT3 := Lib.hid ht3
        have HB3 := Lib.hid (HB2.out.trans bB)
        have hsz3 := HB3.out.size
        clear X0 X1 X2 X3 X4 CD HST ht3 hv3 ht bB hrow3 hap3 hbox3
        have HB4 := Lib.hid (HB3.out.alloc hsz3 (.cells #[.string ⟨x.nm.toArray⟩, .string ⟨x.url.toArray⟩, .string ⟨x.ttl.toArray⟩, .string ⟨x.txt.toArray⟩, .bool x.nt] 43))
        have hrow4 := HR3.out.alloc (.cells #[.string ⟨x.nm.toArray⟩, .string ⟨x.url.toArray⟩, .string ⟨x.ttl.toArray⟩, .string ⟨x.txt.toArray⟩, .bool x.nt] 43)
        have HR4 := Lib.hid hrow4
        have HT4 := Lib.hid (HT3.out.below ((Below.refl _ _).alloc (Nat.le_refl _) (.cells #[.string ⟨x.nm.toArray⟩, .string ⟨x.url.toArray⟩, .string ⟨x.ttl.toArray⟩, .string ⟨x.txt.toArray⟩, .bool x.nt] 43)))
        clear hrow4
        go_wp2_with (at_builtin; refine wpList_append_lies _ rfl _ _ 22 rfl w.heap.size 43 i0 (.agg #[.string ByteArray.empty, .string ByteArray.empty, .string ByteArray.empty, .string ByteArray.empty, .bool false]) 5 72 Tryz.underlying22 hi0 hz0 hz1 hz2 rfl (by decide) _ _ _ rfl HR4.out ⟨w3.heap.size, 0, none⟩ 1 1 (dfC x) rfl rfl (elt_cells w3 (dfC x) 43) (dfC_one _) (by omega) (by unfold maxLen; omega) (by omega) (by simp; omega) _ rfl ?_)
        intro g1 cap1 w6 hown6 hgrow6 hat6 hlt6
        have hT6 := HT4.out.grown HR4.out hgrow6 HAP.out
        have hB6 := HB4.out.grown hgrow6 HB4.out.size (fun r e => (HR4.out.lt r e).1)
        have hap6 : ∀ g, v'.ownBlock = some g → (Value.slice (some ⟨g1, 0, none⟩) (D.length + 1) cap1).ownBlock ≠ some g := fun g e1 e2 => by
          simp [Value.ownBlock] at e2
          subst e2
          rcases hat6 with e | e
          · exact HAP.out _ e1 e
          · have h4 := (HT4.out.row.lt _ e1).2
            simp only [alloc_size] at h4 e
            omega
        have hown6' : w6.ownsRow w.heap.size 43 5 (.slice (some ⟨g1, 0, none⟩) (D.length + 1) cap1) (D ++ [x]).length (flt dfC (D ++ [x])) := by
          rw [List.length_append, flt_append, flt_one]
          exact hown6
        have HST6 := Lib.hid (TabSt.mk hT6 hown6' hap6)
        have HB6 := Lib.hid hB6
        clear hT6 hB6 hap6 hown6 hown6' hgrow6 hat6 hlt6
        go_wp2
        go_roundw
        case rel => exact ⟨k + 1, v', m', D ++ [x], by go_num, hPL.out, HST6.out, by simp; omega, HB6.out⟩
        case measure => have := hPL.out; simp [intOf]; omega
    · obtain rfl : k = z.length := by omega
      have HT := Lib.hid hst.tab
      have HB := Lib.hid hbw
      clear hst hbw
      go_wp2
      go_ret2
      exact ⟨⟨_, _, D, rfl, Or.inr ⟨_, _, _, _, rfl, HT.out⟩, by omega⟩, HB.out⟩
end Go.Proofs.YtfbaknkmpilllaaGreatDoor

/-
  Package define: TablePlays: its walk.
-/
import Derived.Test.YtioolcnoiaoflaaGreatDoorTbE
import Derived.Test.YtioolcnoiaoflaaGreatDoorDnE
import Derived.Test.YtioolcnoiaoflaaGreatDoorDnZ
import Derived.Test.YtioolcnoiaoflaaGreatDoorDfO
import Derived.Laws.AppendOwnNone
namespace Go.Proofs.YtioolcnoiaoflaaGreatDoor
open Go.RowKit Go.Maps
set_option linter.unusedSimpArgs false
set_option linter.unusedVariables false
set_option maxRecDepth 100000

theorem dfHas_take {D : List Dfn} {n : List UInt8} {b : Bool} {j : Nat} (hj : j < D.length) : dfHas (D.take (j + 1)) n b = (dfHas (D.take j) n b || ((D[j].nm == n) && (D[j].nt == b))) := by
  unfold dfHas
  rw [List.take_succ_eq_append_getElem hj, List.any_append]
  have e : (D[j].nm == n) = decide (D[j].nm = n) := by by_cases h : D[j].nm = n <;> simp [h]
  rw [e]
  simp
def PlayInRel (D : List Dfn) (n : List UInt8) (b : Bool) (W : World) (t i : Value) (wr : World) : Prop := ∃ j : Nat, i = .int .i64 j ∧ t = .bool (dfHas (D.take j) n b) ∧ j ≤ D.length ∧ Below W.heap.size W wr
def PlayRel (w : World) (n bt bk : Nat) (h i : Value) (wr : World) : Prop := ∃ (k : Nat) (A : Option Addr) (c : Nat) (D : List Dfn), i = .int .i64 k ∧ h = .slice A D.length c ∧ k ≤ n ∧ D.length ≤ k ∧ (D = [] → A = none ∧ c = 0) ∧ PlaySt wr w.heap.size bt bk h D D k ∧ Below w.heap.size w wr
def PlayTwo (W : World) (i : Value) (wr : World) : Prop := ∃ j : Nat, i = .int .i64 j ∧ j ≤ 2 ∧ Below W.heap.size W wr

set_option maxHeartbeats 16000000 in
theorem tablePlays_in (w : World) (hv : Elz w) (A0 : Option Addr) (c0 : Nat) (z0 : List Dfn) (r0 : DefsAt w A0 c0 z0) (a1 : ByteArray) (h1 : z0.length ≤ 60) (h2 : a1.size ≤ 100) :
    Calls Tryz.prog 4 #[.slice A0 z0.length c0, .string a1] w fun e w' => e = .returned (.bool true) ∧ Below w.heap.size w w' := by
  obtain ⟨i0, hi, hz0, hz1, hz2⟩ := info_parts infoDef
  have ca := alive11_any w hv.ev
  have hcap := r0.le
  have hcm := r0.cap
  unfold maxLen at hcm
  have HV := Lib.hid hv
  have HR := Lib.hid r0
  clear hv r0
  go_enter Tryz.func4, Tryz.ntmps4
  go_wp2_with fail
  refine ca.mono ?_
  rintro e w1 ⟨rfl, b1⟩
  have HB1 := Lib.hid b1
  have hs1 := b1.size
  clear b1 ca
  go_wp2_with fail
  obtain ⟨w2, hw2⟩ : ∃ w2, w2 = (w1.alloc (Obj.cells #[.slice none 0 0, .map none] 49)).alloc (Obj.cells (dbookCells (.slice none 0 0) (.slice none 0 0)) 39) := ⟨_, rfl⟩
  have hp2 : PlaySt w2 w.heap.size w1.heap.size (w1.heap.size + 1) (.slice none 0 0) [] [] 0 := by
    have ht : (w1.alloc (Obj.cells #[.slice none 0 0, .map none] 49)).heap[w1.heap.size]? = some (.cells #[.slice none 0 0, .map none] 49 (0, 0)) := heap_alloc_new w1 _
    have hsz : (w1.alloc (Obj.cells #[.slice none 0 0, .map none] 49)).heap.size = w1.heap.size + 1 := by show (w1.heap.push _).size = _; simp
    have hb : w2.heap[w1.heap.size + 1]? = some (.cells (dbookCells (.slice none 0 0) (.slice none 0 0)) 39 (0, 0)) := by rw [hw2, ← hsz]; exact heap_alloc_new _ _
    have ht2 : w2.heap[w1.heap.size]? = some (.cells #[.slice none 0 0, .map none] 49 (0, 0)) := by rw [hw2, Below.heap_alloc _ _ _ (by omega)]; exact ht
    exact ⟨_, _, _, _, [], [], [], TableIs.new ht2 hs1, DBookIs.new hb (by omega), rfl, fun ls hls => by simp at hls, fun u hu => by simp at hu, World.ownsRow_nil _ _ _ _, fun g hg => by simp [Value.ownBlock] at hg⟩
  have HP2 := Lib.hid hp2
  have HB2 := Lib.hid (show Below w.heap.size w w2 from by rw [hw2]; exact (HB1.out.alloc hs1 _).alloc (by simp; omega) _)
  rw [show dbookCells (.slice none 0 0) (.slice none 0 0) = #[.slice none 0 0, .slice none 0 0, .slice none 0 0, .slice none 0 0, .slice none 0 0, .slice none 0 0, .slice none 0 0, .slice none 0 0, .slice none 0 0, .slice none 0 0, .slice none 0 0, .slice none 0 0, .slice none 0 0, .slice none 0 0, .slice none 0 0, .slice none 0 0] from rfl] at hw2
  rw [← hw2]
  clear hp2 hw2 HB1
  generalize w1.heap.size = bt at *
  go_loopw [6, 42] (fun h i wr => PlayRel w z0.length bt (bt + 1) h i wr) (fun _ i _ => z0.length - (intOf i).toNat)
  case atStart => exact ⟨0, none, 0, [], rfl, rfl, Nat.zero_le _, Nat.le_refl _, fun _ => ⟨rfl, rfl⟩, HP2.out, HB2.out⟩
  case round =>
    clear HP2 HB2
    obtain ⟨k, A, c, D, rfl, rfl, hk, hDk, hnil, hps, hbw⟩ := hrel
    generalize wr = wo at *
    have HNIL := Lib.hid hnil
    clear hnil
    by_cases hp : k < z0.length
    · obtain ⟨gb, off, hA, _, d0, d1, d2, d3, d4⟩ := DefsAt.cells5 (HR.out.below hbw) hp
      generalize z0[k] = x at *
      subst hA
      have hxs : (⟨x.nm.toArray⟩ : ByteArray).size = x.nm.length := str_size _
      have HPS := Lib.hid hps
      have HBW := Lib.hid hbw
      have hBw := hbw.size
      clear hps hbw
      by_cases h100 : x.nm.length ≤ 100
      · have hsw := alloc_size wo (.cells #[.string ⟨x.nm.toArray⟩, .string ⟨x.url.toArray⟩, .string ⟨x.ttl.toArray⟩, .string ⟨x.txt.toArray⟩, .bool x.nt] 26)
        have hz3 := dfAt_new wo x
        have HZ3 := Lib.hid hz3
        have HBA := Lib.hid ((Below.refl wo.heap.size wo).alloc (Nat.le_refl _) (.cells #[.string ⟨x.nm.toArray⟩, .string ⟨x.url.toArray⟩, .string ⟨x.ttl.toArray⟩, .string ⟨x.txt.toArray⟩, .bool x.nt] 26))
        clear hz3
        go_wp2_with fail
        generalize hW3 : wo.alloc (.cells #[.string ⟨x.nm.toArray⟩, .string ⟨x.url.toArray⟩, .string ⟨x.ttl.toArray⟩, .string ⟨x.txt.toArray⟩, .bool x.nt] 26) = w3 at *
        clear hW3
        have HPS3 := Lib.hid (HPS.out.below HBA.out)
        have HB3 := Lib.hid (HBW.out.then HBA.out)
        have hB3 := HB3.out.size
        have hgx : wo.heap.size < w3.heap.size := by omega
        have HBW2 := HBW
        clear d0 d1 d2 d3 d4 HBW
        go_loopw [10, 52] (fun t i wr => PlayInRel D x.nm x.nt w3 t i wr) (fun _ i _ => D.length - (intOf i).toNat)
        case atStart => exact ⟨0, rfl, rfl, Nat.zero_le _, Below.refl _ _⟩
        case round =>
          obtain ⟨j, rfl, rfl, hj, hb4⟩ := hrel
          by_cases hp2 : j < D.length
          · obtain ⟨Ah, ch, eh, hrow⟩ := EltsAt.own dfC_length (HPS3.out.below hb4).row
            cases eh
            obtain ⟨gh, oh, hAh, _, e0, e1, e2, e3, e4⟩ := DefsAt.cells5 hrow hp2
            subst hAh
            have hhc := hrow.le
            have htk := dfHas_take (n := x.nm) (b := x.nt) hp2
            have HTK := Lib.hid htk
            clear htk hrow
            have hz4 := (HZ3.out.below hb4).below ((Below.refl _ wr).alloc (Nat.le_refl _) (.cells #[.string ⟨D[j].nm.toArray⟩, .string ⟨D[j].url.toArray⟩, .string ⟨D[j].ttl.toArray⟩, .string ⟨D[j].txt.toArray⟩, .bool D[j].nt] 26))
            obtain ⟨k0, k1, k2, k3, k4, kf⟩ := hz4.cells
            have HB4 := Lib.hid hb4
            clear hz4 k1 k2 k3 kf hb4
            generalize D[j] = y at *
            have hcase : (y.nm == x.nm) = false ∨ (y.nm == x.nm) = true ∧ ((y.nt == x.nt) = false ∨ (y.nt == x.nt) = true) := by
              cases y.nm == x.nm
              · exact .inl rfl
              · cases y.nt == x.nt
                · exact .inr ⟨rfl, .inl rfl⟩
                · exact .inr ⟨rfl, .inr rfl⟩
            generalize dfHas (D.take j) x.nm x.nt = tb at *
            rcases tb with _ | _
            · rcases hcase with t1 | ⟨t1, t2 | t2⟩
              all_goals
                go_wp2
                go_roundw
                case rel => exact ⟨j + 1, by go_num, by rw [HTK.out]; simp [t1, *], by omega, HB4.out.alloc HB4.out.size _⟩
                case measure => simp [intOf]; omega
            · clear hcase
              go_wp2
              go_roundw
              case rel => exact ⟨j + 1, by go_num, by rw [HTK.out]; rfl, by omega, HB4.out.alloc HB4.out.size _⟩
              case measure => simp [intOf]; omega
          · obtain rfl : j = D.length := by omega
            rw [List.take_length] at *
            have hz4 := HZ3.out.below hb4
            obtain ⟨k0, k1, k2, k3, k4, kf⟩ := hz4.cells
            have HZ4 := Lib.hid hz4
            have HB4 := Lib.hid (HB3.out.then hb4)
            have hBo := HBW2.out.size
            obtain ⟨b, hb⟩ : ∃ b, dfHas D x.nm x.nt = b := ⟨_, rfl⟩
            have cadd := add_play hBo HPS.out (HBA.out.then hb4) x h100 (by omega) b hb
            unfold dfV' at cadd
            rw [hb]
            clear hz4 hb hb4 HPS3 HZ3 HB3 HBA HPS
            cases b with
            | true =>
              simp only [Bool.not_true, if_true] at cadd
              go_wp2_with fail
              refine cadd.mono ?_
              rintro e w5 ⟨rfl, hp5, b5, hk5⟩
              have hz5 := hk5 wo.heap.size x (Nat.le_refl _) HZ4.out
              have HPS5 := Lib.hid hp5
              have HB5 := Lib.hid (HB4.out.trans b5)
              have HZ5 := Lib.hid hz5
              have hs5 := HB5.out.size
              have hg5 := (Array.getElem?_eq_some_iff.1 hz5).1
              have HN6 := HNIL
              clear cadd hp5 b5 hk5 hz5 HZ4 HB4 HNIL hs5 hg5
              have HPS6 := HPS5
              have HB6 := HB5
              have HZ6 := HZ5
              have hD6k : D.length ≤ k + 1 := by omega
              clear HPS5 HB5 HZ5
              generalize hD6 : D = D6 at *
              generalize hA6 : A = A6 at *
              generalize c = c6 at *
              generalize w5 = w6 at *
              clear hD6 hA6
              have hs6 := HB6.out.size
              have call := all_play hs6 HPS6.out (by omega)
              go_wp2_with fail
              refine call.mono ?_
              rintro e w7 ⟨A7, c7, rfl, hall, b7⟩
              have cdef := defs_play hs6 hall (by omega) (by omega)
              have HZ7 := Lib.hid (HZ6.out.below b7)
              have HB7 := Lib.hid (HB6.out.then b7)
              clear call hall b7
              go_wp2_with fail
              refine cdef.mono ?_
              rintro e w8 ⟨rfl, hp8, hr8, b8, hk8⟩
              obtain ⟨A8, c8, e8, hrh⟩ := EltsAt.own dfC_length hp8.row
              cases e8
              have CS := Lib.hid (sameDefs_same A7 A6 c7 c6 D6 w8 hr8 hrh)
              have HZ8 := Lib.hid (hk8 _ _ HZ7.out)
              have HPS8 := Lib.hid hp8
              have HB8 := Lib.hid (HB7.out.trans b8)
              clear cdef hp8 hr8 b8 hk8 hrh
              go_wp2_with fail
              refine CS.out.mono ?_
              rintro e w9 ⟨rfl, nq, hw9⟩
              have q9 : Below w8.heap.size w8 w9 := by rw [hw9]; exact below_drewN' (Below.refl _ _) nq
              have HPS9 := Lib.hid (HPS8.out.below q9)
              have HB9 := Lib.hid (HB8.out.then q9)
              have hz9 := HZ8.out.below q9
              have HZ9 := Lib.hid hz9
              obtain ⟨k0, k1, k2, k3, k4, kf⟩ := hz9.cells
              clear hw9 q9 CS hz9 k1 k2 k3 k4 kf
              go_wp2_with fail
              have b10 := (Below.refl w9.heap.size w9).alloc (Nat.le_refl _) (.cells #[.string a1, .string ⟨x.nm.toArray⟩] 9)
              have ht10 : (w9.alloc (.cells #[.string a1, .string ⟨x.nm.toArray⟩] 9)).cell? ⟨w9.heap.size, 0, none⟩ = some (.string a1) ∧ (w9.alloc (.cells #[.string a1, .string ⟨x.nm.toArray⟩] 9)).cell? ⟨w9.heap.size, 1, none⟩ = some (.string ⟨x.nm.toArray⟩) :=
                ⟨(cell_of_row _ _ 0 _ _ (0, 0) (heap_alloc_new w9 _)).trans rfl, (cell_of_row _ _ 1 _ _ (0, 0) (heap_alloc_new w9 _)).trans rfl⟩
              have hs10 := alloc_size w9 (.cells #[.string a1, .string ⟨x.nm.toArray⟩] 9)
              have HPS10 := Lib.hid (HPS9.out.below b10)
              have HB10 := Lib.hid (HB9.out.then b10)
              have HZ10 := Lib.hid (HZ9.out.below b10)
              have HT10 := Lib.hid ht10
              clear b10 ht10 k0
              generalize w9.alloc (.cells #[.string a1, .string ⟨x.nm.toArray⟩] 9) = w10 at *
              generalize w9.heap.size = gt at *
              have hgt : gt < w10.heap.size := by omega
              go_loopw [98] (fun i wr => PlayTwo w10 i wr) (fun i _ => 2 - (intOf i).toNat)
              case atStart => exact ⟨0, rfl, by omega, Below.refl _ _⟩
              case round =>
                obtain ⟨j, rfl, hj2, hb11⟩ := hrel
                generalize wr = w11 at *
                have HB11 := Lib.hid hb11
                have hs11 := hb11.size
                clear hb11
                match j, hj2 with
                | 0, _ =>
                  have hcells : w11.cell? ⟨gt, 0, none⟩ = some (.string a1) := (HB11.out.cell (p := ⟨gt, 0, none⟩) hgt).trans HT10.out.1
                  obtain ⟨k0, k1, k2, k3, k4, kf⟩ := (HZ10.out.below HB11.out).cells
                  have cf := find_play (HPS10.out.below HB11.out) a1 x.nt (by omega) (by omega)
                  have crf : ∀ W, Below w10.heap.size w10 W → Calls Tryz.prog 18 #[.slice A6 D6.length c6, .string a1, .bool x.nt] W fun e w' => e = .returned (dfTib (findL D6 a1.data.toList x.nt)) ∧ Below W.heap.size W w' := fun W hb => by
                    obtain ⟨Ax, cx, ex, hrx⟩ := EltsAt.own dfC_length (HPS10.out.below hb).row
                    cases ex
                    exact rfind_any (HV.out.below (HB10.out.then hb)).tb A6 c6 D6 hrx a1 x.nt (by omega) (by omega)
                  generalize findL D6 a1.data.toList x.nt = r at *
                  obtain ⟨d, ok⟩ := r
                  unfold dfTib dfV at cf crf
                  simp only at cf crf
                  have CRF := Lib.hid crf
                  clear crf k1 k2 k3 kf
                  go_wp2_with fail
                  refine cf.mono ?_
                  rintro e w12 ⟨rfl, b12⟩
                  have HB12 := Lib.hid ((HB11.out.then b12).alloc (HB11.out.then b12).size (.cells #[.string ⟨d.nm.toArray⟩, .string ⟨d.url.toArray⟩, .string ⟨d.ttl.toArray⟩, .string ⟨d.txt.toArray⟩, .bool d.nt] 26))
                  have HZ12 := Lib.hid (dfAt_new w12 d)
                  have hs12 := alloc_size w12 (.cells #[.string ⟨d.nm.toArray⟩, .string ⟨d.url.toArray⟩, .string ⟨d.ttl.toArray⟩, .string ⟨d.txt.toArray⟩, .bool d.nt] 26)
                  obtain ⟨k0, k1, k2, k3, k4, kf⟩ := (HZ10.out.below HB12.out).cells
                  clear cf b12 hcells k0 k1 k2 k3 kf
                  go_wp2_with fail
                  refine (CRF.out _ HB12.out).mono ?_
                  rintro e w13 ⟨rfl, b13⟩
                  have hz5 := HZ12.out.below b13
                  have hz6 := hz5.below ((Below.refl _ w13).alloc (Nat.le_refl _) (.cells #[.string ⟨d.nm.toArray⟩, .string ⟨d.url.toArray⟩, .string ⟨d.ttl.toArray⟩, .string ⟨d.txt.toArray⟩, .bool d.nt] 26))
                  obtain ⟨k0, k1, k2, k3, k4, kf⟩ := hz6.cells
                  have hz7 := dfAt_new w13 d
                  obtain ⟨l0, l1, l2, l3, l4, lf⟩ := hz7.cells
                  have HB13 := Lib.hid ((HB12.out.then b13).alloc (HB12.out.then b13).size (.cells #[.string ⟨d.nm.toArray⟩, .string ⟨d.url.toArray⟩, .string ⟨d.ttl.toArray⟩, .string ⟨d.txt.toArray⟩, .bool d.nt] 26))
                  clear hz5 hz6 hz7 b13 CRF
                  cases ok
                  all_goals
                    go_wp2
                    go_roundw
                    case rel => exact ⟨1, by go_num, by omega, HB13.out⟩
                    case measure => simp [intOf]
                | 1, _ =>
                  have hcells : w11.cell? ⟨gt, 1, none⟩ = some (.string (⟨x.nm.toArray⟩ : ByteArray)) := (HB11.out.cell (p := ⟨gt, 1, none⟩) hgt).trans HT10.out.2
                  obtain ⟨k0, k1, k2, k3, k4, kf⟩ := (HZ10.out.below HB11.out).cells
                  have cf := find_play (HPS10.out.below HB11.out) (⟨x.nm.toArray⟩ : ByteArray) x.nt (by rw [hxs]; omega) (by omega)
                  have crf : ∀ W, Below w10.heap.size w10 W → Calls Tryz.prog 18 #[.slice A6 D6.length c6, .string (⟨x.nm.toArray⟩ : ByteArray), .bool x.nt] W fun e w' => e = .returned (dfTib (findL D6 (⟨x.nm.toArray⟩ : ByteArray).data.toList x.nt)) ∧ Below W.heap.size W w' := fun W hb => by
                    obtain ⟨Ax, cx, ex, hrx⟩ := EltsAt.own dfC_length (HPS10.out.below hb).row
                    cases ex
                    exact rfind_any (HV.out.below (HB10.out.then hb)).tb A6 c6 D6 hrx (⟨x.nm.toArray⟩ : ByteArray) x.nt (by rw [hxs]; omega) (by omega)
                  generalize findL D6 (⟨x.nm.toArray⟩ : ByteArray).data.toList x.nt = r at *
                  obtain ⟨d, ok⟩ := r
                  unfold dfTib dfV at cf crf
                  simp only at cf crf
                  have CRF := Lib.hid crf
                  clear crf k1 k2 k3 kf
                  go_wp2_with fail
                  refine cf.mono ?_
                  rintro e w12 ⟨rfl, b12⟩
                  have HB12 := Lib.hid ((HB11.out.then b12).alloc (HB11.out.then b12).size (.cells #[.string ⟨d.nm.toArray⟩, .string ⟨d.url.toArray⟩, .string ⟨d.ttl.toArray⟩, .string ⟨d.txt.toArray⟩, .bool d.nt] 26))
                  have HZ12 := Lib.hid (dfAt_new w12 d)
                  have hs12 := alloc_size w12 (.cells #[.string ⟨d.nm.toArray⟩, .string ⟨d.url.toArray⟩, .string ⟨d.ttl.toArray⟩, .string ⟨d.txt.toArray⟩, .bool d.nt] 26)
                  obtain ⟨k0, k1, k2, k3, k4, kf⟩ := (HZ10.out.below HB12.out).cells
                  clear cf b12 hcells k0 k1 k2 k3 kf
                  go_wp2_with fail
                  refine (CRF.out _ HB12.out).mono ?_
                  rintro e w13 ⟨rfl, b13⟩
                  have hz5 := HZ12.out.below b13
                  have hz6 := hz5.below ((Below.refl _ w13).alloc (Nat.le_refl _) (.cells #[.string ⟨d.nm.toArray⟩, .string ⟨d.url.toArray⟩, .string ⟨d.ttl.toArray⟩, .string ⟨d.txt.toArray⟩, .bool d.nt] 26))
                  obtain ⟨k0, k1, k2, k3, k4, kf⟩ := hz6.cells
                  have hz7 := dfAt_new w13 d
                  obtain ⟨l0, l1, l2, l3, l4, lf⟩ := hz7.cells
                  have HB13 := Lib.hid ((HB12.out.then b13).alloc (HB12.out.then b13).size (.cells #[.string ⟨d.nm.toArray⟩, .string ⟨d.url.toArray⟩, .string ⟨d.ttl.toArray⟩, .string ⟨d.txt.toArray⟩, .bool d.nt] 26))
                  clear hz5 hz6 hz7 b13 CRF
                  cases ok
                  all_goals
                    go_wp2
                    go_roundw
                    case rel => exact ⟨2, by go_num, by omega, HB13.out⟩
                    case measure => simp [intOf]
                | 2, _ =>
                  go_wp2
                  go_roundw
                  case rel => exact ⟨k + 1, A6, c6, D6, by go_num, rfl, by omega, by omega, HN6.out, HPS10.out.below HB11.out, HB10.out.then HB11.out⟩
                  case measure => simp [intOf]; omega
                | j + 3, h3 => omega
            | false =>
              simp only [Bool.not_false, Bool.false_eq_true, if_false] at cadd
              go_wp2_with fail
              refine cadd.mono ?_
              rintro e w5 ⟨rfl, hp5, b5, hk5⟩
              have hz5 := hk5 wo.heap.size x (Nat.le_refl _) HZ4.out
              have HPS5 := Lib.hid hp5
              have HB5 := Lib.hid (HB4.out.trans b5)
              have HZ5 := Lib.hid hz5
              have hs5 := HB5.out.size
              have hg5 := (Array.getElem?_eq_some_iff.1 hz5).1
              clear cadd hp5 b5 hk5 hz5 HZ4 HB4 k0 k1 k2 k3 k4 kf
              go_wp2_with fail
              by_cases hD0 : D = []
              · obtain ⟨rfl, rfl⟩ := HNIL.out hD0
                have hrn : ∀ W : World, (Builtin.append_ #[40, 40] 40 #[.slice none 0 0, .slice none 0 0]).run Tryz.prog W = .ok (.slice none 0 0) W := fun W => run_append_owned_none (w := W) 0 _ _ 26 i0 5 Tryz.underlying40 hi _ 0 [] (World.ownsRow_nil _ _ _ _)
                have hD1 : D.length = 0 := by rw [hD0]; rfl
                refine wp_region_N (fun W => W.cell? ⟨wo.heap.size, 0, none⟩ = some (.string ⟨x.nm.toArray⟩) ∧ W.cell? ⟨wo.heap.size, 1, none⟩ = some (.string ⟨x.url.toArray⟩) ∧ W.cell? ⟨wo.heap.size, 2, none⟩ = some (.string ⟨x.ttl.toArray⟩) ∧ W.cell? ⟨wo.heap.size, 3, none⟩ = some (.string ⟨x.txt.toArray⟩) ∧ W.cell? ⟨wo.heap.size, 4, none⟩ = some (.bool x.nt)) (fun i => decide (i < 4)) (by kernel_rfl) ?_
                have HPSd := Lib.hid (HPS5.out.below (w' := w5.drew) (Below.refl _ w5).drew)
                have HBd := Lib.hid (HB5.out.then (w2 := w5.drew) (Below.refl _ w5).drew)
                have HZd := Lib.hid (HZ5.out.below (w' := w5.drew) (Below.refl _ w5).drew)
                clear HPS5 HB5 HZ5 hs5 hg5
                generalize w5.drew = wd at *
                have hBd := HBd.out.size
                have hgd := (Array.getElem?_eq_some_iff.1 HZd.out).1
                obtain ⟨x0, x1, x2, x3, x4, _⟩ := HZd.out.cells
                have HXd := Lib.hid (show _ ∧ _ ∧ _ ∧ _ ∧ _ from ⟨x0, x1, x2, x3, x4⟩)
                clear x0 x1 x2 x3 x4
                have HD1 := Lib.hid hD1
                simp only [hD1]
                refine wpAnyN_take_at 0 79 (v := ?_) rfl rfl (by kernel_rfl) (by kernel_rfl) (by kernel_rfl) (by kernel_rfl) (by kernel_rfl) (fun _ _ _ h => h) (by rfl) ?_ HXd.out ?_
                rotate_left
                · intro W hSw; (try dsimp only at hSw); go_simp; (try with_reducible rfl)
                simp only [Act.put, List.setIfInBounds_toArray, List.set_cons_zero, List.set_cons_succ]
                refine wpAnyN_take_at 1 80 (v := ?_) rfl rfl (by kernel_rfl) (by kernel_rfl) (by kernel_rfl) (by kernel_rfl) (by kernel_rfl) (fun _ _ _ h => h) (by rfl) ?_ HXd.out ?_
                rotate_left
                · intro W hSw; (try dsimp only at hSw); go_simp; (try with_reducible rfl)
                simp only [Act.put, List.setIfInBounds_toArray, List.set_cons_zero, List.set_cons_succ]
                refine wpAnyN_take_at 2 81 (v := ?_) rfl rfl (by kernel_rfl) (by kernel_rfl) (by kernel_rfl) (by kernel_rfl) (by kernel_rfl) (fun _ _ _ h => h) (by rfl) ?_ HXd.out ?_
                rotate_left
                · intro W hSw; (try dsimp only at hSw); obtain ⟨q0, q1, q2, q3, q4⟩ := hSw; go_simp; (try with_reducible rfl)
                simp only [Act.put, List.setIfInBounds_toArray, List.set_cons_zero, List.set_cons_succ]
                refine wpAnyN_one (i := 3) rfl (by kernel_rfl) (fun K hK => ?_)
                go_simp
                have bal := (Below.refl wd.heap.size wd).alloc (Nat.le_refl _) (.cells #[.string ⟨x.nm.toArray⟩, .string ⟨x.url.toArray⟩, .string ⟨x.ttl.toArray⟩, .string ⟨x.txt.toArray⟩, .bool x.nt] 26)
                have hsa := alloc_size wd (.cells #[.string ⟨x.nm.toArray⟩, .string ⟨x.url.toArray⟩, .string ⟨x.ttl.toArray⟩, .string ⟨x.txt.toArray⟩, .bool x.nt] 26)
                refine hK _ _ (fun _ => ⟨(bal.cell (p := ⟨wo.heap.size, 0, none⟩) hgd).trans HXd.out.1, (bal.cell (p := ⟨wo.heap.size, 1, none⟩) hgd).trans HXd.out.2.1, (bal.cell (p := ⟨wo.heap.size, 2, none⟩) hgd).trans HXd.out.2.2.1, (bal.cell (p := ⟨wo.heap.size, 3, none⟩) hgd).trans HXd.out.2.2.2.1, (bal.cell (p := ⟨wo.heap.size, 4, none⟩) hgd).trans HXd.out.2.2.2.2⟩) ?_
                clear hK
                (try simp only [Act.put, List.setIfInBounds_toArray, List.set_cons_zero, List.set_cons_succ])
                refine wpAnyN_one (i := 4) rfl (by kernel_rfl) (fun K hK => ?_)
                rw [if_pos (by rfl)]
                refine wp_append_lies _ (.tmp 80) (.tmp 82) 40 rfl wd.heap.size 26 i0 (.agg #[.string ByteArray.empty, .string ByteArray.empty, .string ByteArray.empty, .string ByteArray.empty, .bool false]) 5 72 Tryz.underlying40 hi hz0 hz1 hz2 rfl (by decide) (.slice none 0 0) 0 [] (by rfl) (World.ownsRow_nil _ _ _ _) ⟨wd.heap.size, 0, none⟩ 1 1 (dfC x) (by rfl) rfl (elt_cells wd (dfC x) 26) (dfC_one _) (by omega) (by unfold maxLen; omega) (by omega) (by first | omega | (simp; omega)) _ rfl ?_
                intro g6 cap6 w6 hown6 hgrow6 hat6 hlt6
                have HBt := Lib.hid (bal.grown hgrow6 (by omega) (fun k hk => by simp [Value.ownBlock] at hk))
                refine hK _ _ (fun h => absurd h (by decide)) ?_
                clear hK hgrow6 hat6 hlt6 bal hsa
                (try simp only [Act.put, List.setIfInBounds_toArray, List.set_cons_zero, List.set_cons_succ])
                refine wpAnyN_rest 5 [_] rfl (by kernel_rfl) (by rfl) ?_
                have hown6 : w6.ownsRow wd.heap.size 26 5 (.slice (some ⟨g6, 0, none⟩) (D.length + 1) cap6) (D.length + 1) (flt dfC D ++ dfC x) := by rw [hD0]; exact hown6
                have hD1 := HD1.out
                rw [show (0 + 1 : Nat) = D.length + 1 from by omega]
                obtain ⟨D6, hD6⟩ : ∃ D6, D6 = D ++ [x] := ⟨_, rfl⟩
                have hl6 : D.length + 1 = D6.length := by rw [hD6]; simp
                have hps6 : PlaySt w6 w.heap.size bt (bt + 1) (.slice (some ⟨g6, 0, none⟩) D6.length cap6) D6 D6 k := by
                  have hr6 : w6.ownsRow wd.heap.size 26 5 (.slice (some ⟨g6, 0, none⟩) D6.length cap6) D6.length (flt dfC D6) := by
                    rw [← hl6, hD6, flt_append, flt_one]
                    exact hown6
                  rw [hD6] at hr6 ⊢
                  exact PlaySt.have' HPSd.out HBt.out hBd hr6
                have HPS6 := Lib.hid hps6
                have HB6 := Lib.hid (HBd.out.then HBt.out)
                have HZ6 := Lib.hid (HZd.out.below HBt.out)
                have HN6 := Lib.hid (show D6 = [] → some (⟨g6, 0, none⟩ : Addr) = none ∧ cap6 = 0 from fun e => by rw [hD6] at e; simp at e)
                have hD6k : D6.length ≤ k + 1 := by omega
                (try simp only [Act.put, List.setIfInBounds_toArray, List.set_cons_zero, List.set_cons_succ])
                rw [hl6]
                clear hps6 hown6 HPSd HBd HZd HXd HBt hD6 hl6 hBd hgd
                generalize (some (⟨g6, 0, none⟩ : Addr)) = A6 at *
                generalize cap6 = c6 at *
                go_wp2_with fail
                have hs6 := HB6.out.size
                have call := all_play hs6 HPS6.out (by omega)
                go_wp2_with fail
                refine call.mono ?_
                rintro e w7 ⟨A7, c7, rfl, hall, b7⟩
                have cdef := defs_play hs6 hall (by omega) (by omega)
                have HZ7 := Lib.hid (HZ6.out.below b7)
                have HB7 := Lib.hid (HB6.out.then b7)
                clear call hall b7
                go_wp2_with fail
                refine cdef.mono ?_
                rintro e w8 ⟨rfl, hp8, hr8, b8, hk8⟩
                obtain ⟨A8, c8, e8, hrh⟩ := EltsAt.own dfC_length hp8.row
                cases e8
                have CS := Lib.hid (sameDefs_same A7 A6 c7 c6 D6 w8 hr8 hrh)
                have HZ8 := Lib.hid (hk8 _ _ HZ7.out)
                have HPS8 := Lib.hid hp8
                have HB8 := Lib.hid (HB7.out.trans b8)
                clear cdef hp8 hr8 b8 hk8 hrh
                go_wp2_with fail
                refine CS.out.mono ?_
                rintro e w9 ⟨rfl, nq, hw9⟩
                have q9 : Below w8.heap.size w8 w9 := by rw [hw9]; exact below_drewN' (Below.refl _ _) nq
                have HPS9 := Lib.hid (HPS8.out.below q9)
                have HB9 := Lib.hid (HB8.out.then q9)
                have hz9 := HZ8.out.below q9
                have HZ9 := Lib.hid hz9
                obtain ⟨k0, k1, k2, k3, k4, kf⟩ := hz9.cells
                clear hw9 q9 CS hz9 k1 k2 k3 k4 kf
                go_wp2_with fail
                have b10 := (Below.refl w9.heap.size w9).alloc (Nat.le_refl _) (.cells #[.string a1, .string ⟨x.nm.toArray⟩] 9)
                have ht10 : (w9.alloc (.cells #[.string a1, .string ⟨x.nm.toArray⟩] 9)).cell? ⟨w9.heap.size, 0, none⟩ = some (.string a1) ∧ (w9.alloc (.cells #[.string a1, .string ⟨x.nm.toArray⟩] 9)).cell? ⟨w9.heap.size, 1, none⟩ = some (.string ⟨x.nm.toArray⟩) :=
                  ⟨(cell_of_row _ _ 0 _ _ (0, 0) (heap_alloc_new w9 _)).trans rfl, (cell_of_row _ _ 1 _ _ (0, 0) (heap_alloc_new w9 _)).trans rfl⟩
                have hs10 := alloc_size w9 (.cells #[.string a1, .string ⟨x.nm.toArray⟩] 9)
                have HPS10 := Lib.hid (HPS9.out.below b10)
                have HB10 := Lib.hid (HB9.out.then b10)
                have HZ10 := Lib.hid (HZ9.out.below b10)
                have HT10 := Lib.hid ht10
                clear b10 ht10 k0
                generalize w9.alloc (.cells #[.string a1, .string ⟨x.nm.toArray⟩] 9) = w10 at *
                generalize w9.heap.size = gt at *
                have hgt : gt < w10.heap.size := by omega
                go_loopw [98] (fun i wr => PlayTwo w10 i wr) (fun i _ => 2 - (intOf i).toNat)
                case atStart => exact ⟨0, rfl, by omega, Below.refl _ _⟩
                case round =>
                  obtain ⟨j, rfl, hj2, hb11⟩ := hrel
                  generalize wr = w11 at *
                  have HB11 := Lib.hid hb11
                  have hs11 := hb11.size
                  clear hb11
                  match j, hj2 with
                  | 0, _ =>
                    have hcells : w11.cell? ⟨gt, 0, none⟩ = some (.string a1) := (HB11.out.cell (p := ⟨gt, 0, none⟩) hgt).trans HT10.out.1
                    obtain ⟨k0, k1, k2, k3, k4, kf⟩ := (HZ10.out.below HB11.out).cells
                    have cf := find_play (HPS10.out.below HB11.out) a1 x.nt (by omega) (by omega)
                    have crf : ∀ W, Below w10.heap.size w10 W → Calls Tryz.prog 18 #[.slice A6 D6.length c6, .string a1, .bool x.nt] W fun e w' => e = .returned (dfTib (findL D6 a1.data.toList x.nt)) ∧ Below W.heap.size W w' := fun W hb => by
                      obtain ⟨Ax, cx, ex, hrx⟩ := EltsAt.own dfC_length (HPS10.out.below hb).row
                      cases ex
                      exact rfind_any (HV.out.below (HB10.out.then hb)).tb A6 c6 D6 hrx a1 x.nt (by omega) (by omega)
                    generalize findL D6 a1.data.toList x.nt = r at *
                    obtain ⟨d, ok⟩ := r
                    unfold dfTib dfV at cf crf
                    simp only at cf crf
                    have CRF := Lib.hid crf
                    clear crf k1 k2 k3 kf
                    go_wp2_with fail
                    refine cf.mono ?_
                    rintro e w12 ⟨rfl, b12⟩
                    have HB12 := Lib.hid ((HB11.out.then b12).alloc (HB11.out.then b12).size (.cells #[.string ⟨d.nm.toArray⟩, .string ⟨d.url.toArray⟩, .string ⟨d.ttl.toArray⟩, .string ⟨d.txt.toArray⟩, .bool d.nt] 26))
                    have HZ12 := Lib.hid (dfAt_new w12 d)
                    have hs12 := alloc_size w12 (.cells #[.string ⟨d.nm.toArray⟩, .string ⟨d.url.toArray⟩, .string ⟨d.ttl.toArray⟩, .string ⟨d.txt.toArray⟩, .bool d.nt] 26)
                    obtain ⟨k0, k1, k2, k3, k4, kf⟩ := (HZ10.out.below HB12.out).cells
                    clear cf b12 hcells k0 k1 k2 k3 kf
                    go_wp2_with fail
                    refine (CRF.out _ HB12.out).mono ?_
                    rintro e w13 ⟨rfl, b13⟩
                    have hz5 := HZ12.out.below b13
                    have hz6 := hz5.below ((Below.refl _ w13).alloc (Nat.le_refl _) (.cells #[.string ⟨d.nm.toArray⟩, .string ⟨d.url.toArray⟩, .string ⟨d.ttl.toArray⟩, .string ⟨d.txt.toArray⟩, .bool d.nt] 26))
                    obtain ⟨k0, k1, k2, k3, k4, kf⟩ := hz6.cells
                    have hz7 := dfAt_new w13 d
                    obtain ⟨l0, l1, l2, l3, l4, lf⟩ := hz7.cells
                    have HB13 := Lib.hid ((HB12.out.then b13).alloc (HB12.out.then b13).size (.cells #[.string ⟨d.nm.toArray⟩, .string ⟨d.url.toArray⟩, .string ⟨d.ttl.toArray⟩, .string ⟨d.txt.toArray⟩, .bool d.nt] 26))
                    clear hz5 hz6 hz7 b13 CRF
                    cases ok
                    all_goals
                      go_wp2
                      go_roundw
                      case rel => exact ⟨1, by go_num, by omega, HB13.out⟩
                      case measure => simp [intOf]
                  | 1, _ =>
                    have hcells : w11.cell? ⟨gt, 1, none⟩ = some (.string (⟨x.nm.toArray⟩ : ByteArray)) := (HB11.out.cell (p := ⟨gt, 1, none⟩) hgt).trans HT10.out.2
                    obtain ⟨k0, k1, k2, k3, k4, kf⟩ := (HZ10.out.below HB11.out).cells
                    have cf := find_play (HPS10.out.below HB11.out) (⟨x.nm.toArray⟩ : ByteArray) x.nt (by rw [hxs]; omega) (by omega)
                    have crf : ∀ W, Below w10.heap.size w10 W → Calls Tryz.prog 18 #[.slice A6 D6.length c6, .string (⟨x.nm.toArray⟩ : ByteArray), .bool x.nt] W fun e w' => e = .returned (dfTib (findL D6 (⟨x.nm.toArray⟩ : ByteArray).data.toList x.nt)) ∧ Below W.heap.size W w' := fun W hb => by
                      obtain ⟨Ax, cx, ex, hrx⟩ := EltsAt.own dfC_length (HPS10.out.below hb).row
                      cases ex
                      exact rfind_any (HV.out.below (HB10.out.then hb)).tb A6 c6 D6 hrx (⟨x.nm.toArray⟩ : ByteArray) x.nt (by rw [hxs]; omega) (by omega)
                    generalize findL D6 (⟨x.nm.toArray⟩ : ByteArray).data.toList x.nt = r at *
                    obtain ⟨d, ok⟩ := r
                    unfold dfTib dfV at cf crf
                    simp only at cf crf
                    have CRF := Lib.hid crf
                    clear crf k1 k2 k3 kf
                    go_wp2_with fail
                    refine cf.mono ?_
                    rintro e w12 ⟨rfl, b12⟩
                    have HB12 := Lib.hid ((HB11.out.then b12).alloc (HB11.out.then b12).size (.cells #[.string ⟨d.nm.toArray⟩, .string ⟨d.url.toArray⟩, .string ⟨d.ttl.toArray⟩, .string ⟨d.txt.toArray⟩, .bool d.nt] 26))
                    have HZ12 := Lib.hid (dfAt_new w12 d)
                    have hs12 := alloc_size w12 (.cells #[.string ⟨d.nm.toArray⟩, .string ⟨d.url.toArray⟩, .string ⟨d.ttl.toArray⟩, .string ⟨d.txt.toArray⟩, .bool d.nt] 26)
                    obtain ⟨k0, k1, k2, k3, k4, kf⟩ := (HZ10.out.below HB12.out).cells
                    clear cf b12 hcells k0 k1 k2 k3 kf
                    go_wp2_with fail
                    refine (CRF.out _ HB12.out).mono ?_
                    rintro e w13 ⟨rfl, b13⟩
                    have hz5 := HZ12.out.below b13
                    have hz6 := hz5.below ((Below.refl _ w13).alloc (Nat.le_refl _) (.cells #[.string ⟨d.nm.toArray⟩, .string ⟨d.url.toArray⟩, .string ⟨d.ttl.toArray⟩, .string ⟨d.txt.toArray⟩, .bool d.nt] 26))
                    obtain ⟨k0, k1, k2, k3, k4, kf⟩ := hz6.cells
                    have hz7 := dfAt_new w13 d
                    obtain ⟨l0, l1, l2, l3, l4, lf⟩ := hz7.cells
                    have HB13 := Lib.hid ((HB12.out.then b13).alloc (HB12.out.then b13).size (.cells #[.string ⟨d.nm.toArray⟩, .string ⟨d.url.toArray⟩, .string ⟨d.ttl.toArray⟩, .string ⟨d.txt.toArray⟩, .bool d.nt] 26))
                    clear hz5 hz6 hz7 b13 CRF
                    cases ok
                    all_goals
                      go_wp2
                      go_roundw
                      case rel => exact ⟨2, by go_num, by omega, HB13.out⟩
                      case measure => simp [intOf]
                  | 2, _ =>
                    go_wp2
                    go_roundw
                    case rel => exact ⟨k + 1, A6, c6, D6, by go_num, rfl, by omega, by omega, HN6.out, HPS10.out.below HB11.out, HB10.out.then HB11.out⟩
                    case measure => simp [intOf]; omega
                  | j + 3, h3 => omega
              · have hD1 : 0 < D.length := by
                  cases D with
                  | nil => exact absurd rfl hD0
                  | cons y l => simp
                obtain ⟨gh, eA⟩ : ∃ gh, A = some ⟨gh, 0, none⟩ := by
                  rcases HPS5.out.row.2 with ⟨e, e2⟩ | ⟨g, cap, cur, e, _⟩
                  · omega
                  · cases e; exact ⟨g, rfl⟩
                subst eA
                refine wp_region_N (fun W => W.cell? ⟨wo.heap.size, 0, none⟩ = some (.string ⟨x.nm.toArray⟩) ∧ W.cell? ⟨wo.heap.size, 1, none⟩ = some (.string ⟨x.url.toArray⟩) ∧ W.cell? ⟨wo.heap.size, 2, none⟩ = some (.string ⟨x.ttl.toArray⟩) ∧ W.cell? ⟨wo.heap.size, 3, none⟩ = some (.string ⟨x.txt.toArray⟩) ∧ W.cell? ⟨wo.heap.size, 4, none⟩ = some (.bool x.nt)) (fun i => decide (i < 4)) (by kernel_rfl) ?_
                have HPSd := Lib.hid (HPS5.out.below (w' := w5.drew) (Below.refl _ w5).drew)
                have HBd := Lib.hid (HB5.out.then (w2 := w5.drew) (Below.refl _ w5).drew)
                have HZd := Lib.hid (HZ5.out.below (w' := w5.drew) (Below.refl _ w5).drew)
                clear HPS5 HB5 HZ5 hs5 hg5
                generalize w5.drew = wd at *
                have hBd := HBd.out.size
                have hgd := (Array.getElem?_eq_some_iff.1 HZd.out).1
                obtain ⟨x0, x1, x2, x3, x4, _⟩ := HZd.out.cells
                have HXd := Lib.hid (show _ ∧ _ ∧ _ ∧ _ ∧ _ from ⟨x0, x1, x2, x3, x4⟩)
                clear x0 x1 x2 x3 x4
                have hrd := HPSd.out.row
                have hcl : ∀ W, Below wd.heap.size wd W → ∀ (j : Nat) (u : Value), (flt dfC D)[j]? = some u → W.cell? ((⟨gh, 0, none⟩ : Addr).add j) = some u := fun W hb j u hu => (ownsRow_below hrd hb).cells (g := gh) rfl j u hu
                have HCL := Lib.hid hcl
                clear hrd hcl
                refine wpAnyN_take_at 0 79 (v := ?_) rfl rfl (by kernel_rfl) (by kernel_rfl) (by kernel_rfl) (by kernel_rfl) (by kernel_rfl) (fun _ _ _ h => h) (by rfl) ?_ HXd.out ?_
                rotate_left
                · intro W hSw; (try dsimp only at hSw); go_simp; (try with_reducible rfl)
                simp only [Act.put, List.setIfInBounds_toArray, List.set_cons_zero, List.set_cons_succ]
                refine wpAnyN_take_at 2 81 (v := ?_) rfl rfl (by kernel_rfl) (by kernel_rfl) (by kernel_rfl) (by kernel_rfl) (by kernel_rfl) (fun _ _ _ h => h) (by rfl) ?_ HXd.out ?_
                rotate_left
                · intro W hSw; (try dsimp only at hSw); obtain ⟨q0, q1, q2, q3, q4⟩ := hSw; go_simp; (try with_reducible rfl)
                simp only [Act.put, List.setIfInBounds_toArray, List.set_cons_zero, List.set_cons_succ]
                refine wpAnyN_two (i := 1) (j := 3) rfl rfl (by kernel_rfl) (fun K hK => ?_) (fun K hK => ?_)
                · rw [if_pos (by rfl)]
                  refine wp_append_lies _ (.const (.slice none 0 0)) (.tmp 79) 40 rfl wd.heap.size 26 i0 (.agg #[.string ByteArray.empty, .string ByteArray.empty, .string ByteArray.empty, .string ByteArray.empty, .bool false]) 5 72 Tryz.underlying40 hi hz0 hz1 hz2 rfl (by decide) (.slice none 0 0) 0 [] (by rfl) (World.ownsRow_nil _ _ _ _) ⟨gh, 0, none⟩ D.length c (flt dfC D) (by rfl) (flt_length dfC_length D) (fun j u hu => HCL.out _ (Below.refl _ _) j u hu) (dfs_one D) (by omega) (by unfold maxLen; omega) (by omega) (by first | omega | (simp; omega)) _ rfl ?_
                  intro g5 cap5 w5a hown5 hgrow5 hat5 hlt5
                  have bb5 := (Below.refl wd.heap.size wd).grown hgrow5 (Nat.le_refl _) (fun k hk => by simp [Value.ownBlock] at hk)
                  have hsb5 := bb5.size
                  rw [Nat.zero_add, List.nil_append] at hown5
                  rw [Nat.zero_add]
                  refine hK _ _ (fun _ => ⟨(bb5.cell (p := ⟨wo.heap.size, 0, none⟩) hgd).trans HXd.out.1, (bb5.cell (p := ⟨wo.heap.size, 1, none⟩) hgd).trans HXd.out.2.1, (bb5.cell (p := ⟨wo.heap.size, 2, none⟩) hgd).trans HXd.out.2.2.1, (bb5.cell (p := ⟨wo.heap.size, 3, none⟩) hgd).trans HXd.out.2.2.2.1, (bb5.cell (p := ⟨wo.heap.size, 4, none⟩) hgd).trans HXd.out.2.2.2.2⟩) ?_
                  clear hK hgrow5 hat5
                  (try simp only [Act.put, List.setIfInBounds_toArray, List.set_cons_zero, List.set_cons_succ])
                  refine wpAnyN_one (i := 3) rfl (by kernel_rfl) (fun K hK => ?_)
                  go_simp
                  have bal := bb5.alloc hsb5 (.cells #[.string ⟨x.nm.toArray⟩, .string ⟨x.url.toArray⟩, .string ⟨x.ttl.toArray⟩, .string ⟨x.txt.toArray⟩, .bool x.nt] 26)
                  have hsa := alloc_size w5a (.cells #[.string ⟨x.nm.toArray⟩, .string ⟨x.url.toArray⟩, .string ⟨x.ttl.toArray⟩, .string ⟨x.txt.toArray⟩, .bool x.nt] 26)
                  refine hK _ _ (fun _ => ⟨(bal.cell (p := ⟨wo.heap.size, 0, none⟩) hgd).trans HXd.out.1, (bal.cell (p := ⟨wo.heap.size, 1, none⟩) hgd).trans HXd.out.2.1, (bal.cell (p := ⟨wo.heap.size, 2, none⟩) hgd).trans HXd.out.2.2.1, (bal.cell (p := ⟨wo.heap.size, 3, none⟩) hgd).trans HXd.out.2.2.2.1, (bal.cell (p := ⟨wo.heap.size, 4, none⟩) hgd).trans HXd.out.2.2.2.2⟩) ?_
                  clear hK
                  (try simp only [Act.put, List.setIfInBounds_toArray, List.set_cons_zero, List.set_cons_succ])
                  refine wpAnyN_one (i := 4) rfl (by kernel_rfl) (fun K hK => ?_)
                  rw [if_pos (by rfl)]
                  refine wp_append_lies _ (.tmp 80) (.tmp 82) 40 rfl wd.heap.size 26 i0 (.agg #[.string ByteArray.empty, .string ByteArray.empty, .string ByteArray.empty, .string ByteArray.empty, .bool false]) 5 72 Tryz.underlying40 hi hz0 hz1 hz2 rfl (by decide) (.slice (some ⟨g5, 0, none⟩) D.length cap5) D.length (flt dfC D) (by rfl) (hown5.alloc _) ⟨w5a.heap.size, 0, none⟩ 1 1 (dfC x) (by rfl) rfl (elt_cells w5a (dfC x) 26) (dfC_one _) (by omega) (by unfold maxLen; omega) (by omega) (by first | omega | (simp; omega)) _ rfl ?_
                  intro g6 cap6 w6 hown6 hgrow6 hat6 hlt6
                  have HBt := Lib.hid (bal.grown hgrow6 (by omega) (fun k hk => (hown5.lt k hk).1))
                  refine hK _ _ (fun h => absurd h (by decide)) ?_
                  clear hK hgrow6 hat6 hlt6 bal hsa hown5 bb5 hsb5 hlt5
                  (try simp only [Act.put, List.setIfInBounds_toArray, List.set_cons_zero, List.set_cons_succ])
                  refine wpAnyN_rest 5 [_] rfl (by kernel_rfl) (by rfl) ?_
                  obtain ⟨D6, hD6⟩ : ∃ D6, D6 = D ++ [x] := ⟨_, rfl⟩
                  have hl6 : D.length + 1 = D6.length := by rw [hD6]; simp
                  have hps6 : PlaySt w6 w.heap.size bt (bt + 1) (.slice (some ⟨g6, 0, none⟩) D6.length cap6) D6 D6 k := by
                    have hr6 : w6.ownsRow wd.heap.size 26 5 (.slice (some ⟨g6, 0, none⟩) D6.length cap6) D6.length (flt dfC D6) := by
                      rw [← hl6, hD6, flt_append, flt_one]
                      exact hown6
                    rw [hD6] at hr6 ⊢
                    exact PlaySt.have' HPSd.out HBt.out hBd hr6
                  have HPS6 := Lib.hid hps6
                  have HB6 := Lib.hid (HBd.out.then HBt.out)
                  have HZ6 := Lib.hid (HZd.out.below HBt.out)
                  have HN6 := Lib.hid (show D6 = [] → some (⟨g6, 0, none⟩ : Addr) = none ∧ cap6 = 0 from fun e => by rw [hD6] at e; simp at e)
                  have hD6k : D6.length ≤ k + 1 := by omega
                  (try simp only [Act.put, List.setIfInBounds_toArray, List.set_cons_zero, List.set_cons_succ])
                  rw [hl6]
                  clear hps6 hown6 HPSd HBd HZd HXd HBt hD6 hl6 hBd hgd
                  generalize (some (⟨g6, 0, none⟩ : Addr)) = A6 at *
                  generalize cap6 = c6 at *
                  go_wp2_with fail
                  have hs6 := HB6.out.size
                  have call := all_play hs6 HPS6.out (by omega)
                  go_wp2_with fail
                  refine call.mono ?_
                  rintro e w7 ⟨A7, c7, rfl, hall, b7⟩
                  have cdef := defs_play hs6 hall (by omega) (by omega)
                  have HZ7 := Lib.hid (HZ6.out.below b7)
                  have HB7 := Lib.hid (HB6.out.then b7)
                  clear call hall b7
                  go_wp2_with fail
                  refine cdef.mono ?_
                  rintro e w8 ⟨rfl, hp8, hr8, b8, hk8⟩
                  obtain ⟨A8, c8, e8, hrh⟩ := EltsAt.own dfC_length hp8.row
                  cases e8
                  have CS := Lib.hid (sameDefs_same A7 A6 c7 c6 D6 w8 hr8 hrh)
                  have HZ8 := Lib.hid (hk8 _ _ HZ7.out)
                  have HPS8 := Lib.hid hp8
                  have HB8 := Lib.hid (HB7.out.trans b8)
                  clear cdef hp8 hr8 b8 hk8 hrh
                  go_wp2_with fail
                  refine CS.out.mono ?_
                  rintro e w9 ⟨rfl, nq, hw9⟩
                  have q9 : Below w8.heap.size w8 w9 := by rw [hw9]; exact below_drewN' (Below.refl _ _) nq
                  have HPS9 := Lib.hid (HPS8.out.below q9)
                  have HB9 := Lib.hid (HB8.out.then q9)
                  have hz9 := HZ8.out.below q9
                  have HZ9 := Lib.hid hz9
                  obtain ⟨k0, k1, k2, k3, k4, kf⟩ := hz9.cells
                  clear hw9 q9 CS hz9 k1 k2 k3 k4 kf
                  go_wp2_with fail
                  have b10 := (Below.refl w9.heap.size w9).alloc (Nat.le_refl _) (.cells #[.string a1, .string ⟨x.nm.toArray⟩] 9)
                  have ht10 : (w9.alloc (.cells #[.string a1, .string ⟨x.nm.toArray⟩] 9)).cell? ⟨w9.heap.size, 0, none⟩ = some (.string a1) ∧ (w9.alloc (.cells #[.string a1, .string ⟨x.nm.toArray⟩] 9)).cell? ⟨w9.heap.size, 1, none⟩ = some (.string ⟨x.nm.toArray⟩) :=
                    ⟨(cell_of_row _ _ 0 _ _ (0, 0) (heap_alloc_new w9 _)).trans rfl, (cell_of_row _ _ 1 _ _ (0, 0) (heap_alloc_new w9 _)).trans rfl⟩
                  have hs10 := alloc_size w9 (.cells #[.string a1, .string ⟨x.nm.toArray⟩] 9)
                  have HPS10 := Lib.hid (HPS9.out.below b10)
                  have HB10 := Lib.hid (HB9.out.then b10)
                  have HZ10 := Lib.hid (HZ9.out.below b10)
                  have HT10 := Lib.hid ht10
                  clear b10 ht10 k0
                  generalize w9.alloc (.cells #[.string a1, .string ⟨x.nm.toArray⟩] 9) = w10 at *
                  generalize w9.heap.size = gt at *
                  have hgt : gt < w10.heap.size := by omega
                  go_loopw [98] (fun i wr => PlayTwo w10 i wr) (fun i _ => 2 - (intOf i).toNat)
                  case atStart => exact ⟨0, rfl, by omega, Below.refl _ _⟩
                  case round =>
                    obtain ⟨j, rfl, hj2, hb11⟩ := hrel
                    generalize wr = w11 at *
                    have HB11 := Lib.hid hb11
                    have hs11 := hb11.size
                    clear hb11
                    match j, hj2 with
                    | 0, _ =>
                      have hcells : w11.cell? ⟨gt, 0, none⟩ = some (.string a1) := (HB11.out.cell (p := ⟨gt, 0, none⟩) hgt).trans HT10.out.1
                      obtain ⟨k0, k1, k2, k3, k4, kf⟩ := (HZ10.out.below HB11.out).cells
                      have cf := find_play (HPS10.out.below HB11.out) a1 x.nt (by omega) (by omega)
                      have crf : ∀ W, Below w10.heap.size w10 W → Calls Tryz.prog 18 #[.slice A6 D6.length c6, .string a1, .bool x.nt] W fun e w' => e = .returned (dfTib (findL D6 a1.data.toList x.nt)) ∧ Below W.heap.size W w' := fun W hb => by
                        obtain ⟨Ax, cx, ex, hrx⟩ := EltsAt.own dfC_length (HPS10.out.below hb).row
                        cases ex
                        exact rfind_any (HV.out.below (HB10.out.then hb)).tb A6 c6 D6 hrx a1 x.nt (by omega) (by omega)
                      generalize findL D6 a1.data.toList x.nt = r at *
                      obtain ⟨d, ok⟩ := r
                      unfold dfTib dfV at cf crf
                      simp only at cf crf
                      have CRF := Lib.hid crf
                      clear crf k1 k2 k3 kf
                      go_wp2_with fail
                      refine cf.mono ?_
                      rintro e w12 ⟨rfl, b12⟩
                      have HB12 := Lib.hid ((HB11.out.then b12).alloc (HB11.out.then b12).size (.cells #[.string ⟨d.nm.toArray⟩, .string ⟨d.url.toArray⟩, .string ⟨d.ttl.toArray⟩, .string ⟨d.txt.toArray⟩, .bool d.nt] 26))
                      have HZ12 := Lib.hid (dfAt_new w12 d)
                      have hs12 := alloc_size w12 (.cells #[.string ⟨d.nm.toArray⟩, .string ⟨d.url.toArray⟩, .string ⟨d.ttl.toArray⟩, .string ⟨d.txt.toArray⟩, .bool d.nt] 26)
                      obtain ⟨k0, k1, k2, k3, k4, kf⟩ := (HZ10.out.below HB12.out).cells
                      clear cf b12 hcells k0 k1 k2 k3 kf
                      go_wp2_with fail
                      refine (CRF.out _ HB12.out).mono ?_
                      rintro e w13 ⟨rfl, b13⟩
                      have hz5 := HZ12.out.below b13
                      have hz6 := hz5.below ((Below.refl _ w13).alloc (Nat.le_refl _) (.cells #[.string ⟨d.nm.toArray⟩, .string ⟨d.url.toArray⟩, .string ⟨d.ttl.toArray⟩, .string ⟨d.txt.toArray⟩, .bool d.nt] 26))
                      obtain ⟨k0, k1, k2, k3, k4, kf⟩ := hz6.cells
                      have hz7 := dfAt_new w13 d
                      obtain ⟨l0, l1, l2, l3, l4, lf⟩ := hz7.cells
                      have HB13 := Lib.hid ((HB12.out.then b13).alloc (HB12.out.then b13).size (.cells #[.string ⟨d.nm.toArray⟩, .string ⟨d.url.toArray⟩, .string ⟨d.ttl.toArray⟩, .string ⟨d.txt.toArray⟩, .bool d.nt] 26))
                      clear hz5 hz6 hz7 b13 CRF
                      cases ok
                      all_goals
                        go_wp2
                        go_roundw
                        case rel => exact ⟨1, by go_num, by omega, HB13.out⟩
                        case measure => simp [intOf]
                    | 1, _ =>
                      have hcells : w11.cell? ⟨gt, 1, none⟩ = some (.string (⟨x.nm.toArray⟩ : ByteArray)) := (HB11.out.cell (p := ⟨gt, 1, none⟩) hgt).trans HT10.out.2
                      obtain ⟨k0, k1, k2, k3, k4, kf⟩ := (HZ10.out.below HB11.out).cells
                      have cf := find_play (HPS10.out.below HB11.out) (⟨x.nm.toArray⟩ : ByteArray) x.nt (by rw [hxs]; omega) (by omega)
                      have crf : ∀ W, Below w10.heap.size w10 W → Calls Tryz.prog 18 #[.slice A6 D6.length c6, .string (⟨x.nm.toArray⟩ : ByteArray), .bool x.nt] W fun e w' => e = .returned (dfTib (findL D6 (⟨x.nm.toArray⟩ : ByteArray).data.toList x.nt)) ∧ Below W.heap.size W w' := fun W hb => by
                        obtain ⟨Ax, cx, ex, hrx⟩ := EltsAt.own dfC_length (HPS10.out.below hb).row
                        cases ex
                        exact rfind_any (HV.out.below (HB10.out.then hb)).tb A6 c6 D6 hrx (⟨x.nm.toArray⟩ : ByteArray) x.nt (by rw [hxs]; omega) (by omega)
                      generalize findL D6 (⟨x.nm.toArray⟩ : ByteArray).data.toList x.nt = r at *
                      obtain ⟨d, ok⟩ := r
                      unfold dfTib dfV at cf crf
                      simp only at cf crf
                      have CRF := Lib.hid crf
                      clear crf k1 k2 k3 kf
                      go_wp2_with fail
                      refine cf.mono ?_
                      rintro e w12 ⟨rfl, b12⟩
                      have HB12 := Lib.hid ((HB11.out.then b12).alloc (HB11.out.then b12).size (.cells #[.string ⟨d.nm.toArray⟩, .string ⟨d.url.toArray⟩, .string ⟨d.ttl.toArray⟩, .string ⟨d.txt.toArray⟩, .bool d.nt] 26))
                      have HZ12 := Lib.hid (dfAt_new w12 d)
                      have hs12 := alloc_size w12 (.cells #[.string ⟨d.nm.toArray⟩, .string ⟨d.url.toArray⟩, .string ⟨d.ttl.toArray⟩, .string ⟨d.txt.toArray⟩, .bool d.nt] 26)
                      obtain ⟨k0, k1, k2, k3, k4, kf⟩ := (HZ10.out.below HB12.out).cells
                      clear cf b12 hcells k0 k1 k2 k3 kf
                      go_wp2_with fail
                      refine (CRF.out _ HB12.out).mono ?_
                      rintro e w13 ⟨rfl, b13⟩
                      have hz5 := HZ12.out.below b13
                      have hz6 := hz5.below ((Below.refl _ w13).alloc (Nat.le_refl _) (.cells #[.string ⟨d.nm.toArray⟩, .string ⟨d.url.toArray⟩, .string ⟨d.ttl.toArray⟩, .string ⟨d.txt.toArray⟩, .bool d.nt] 26))
                      obtain ⟨k0, k1, k2, k3, k4, kf⟩ := hz6.cells
                      have hz7 := dfAt_new w13 d
                      obtain ⟨l0, l1, l2, l3, l4, lf⟩ := hz7.cells
                      have HB13 := Lib.hid ((HB12.out.then b13).alloc (HB12.out.then b13).size (.cells #[.string ⟨d.nm.toArray⟩, .string ⟨d.url.toArray⟩, .string ⟨d.ttl.toArray⟩, .string ⟨d.txt.toArray⟩, .bool d.nt] 26))
                      clear hz5 hz6 hz7 b13 CRF
                      cases ok
                      all_goals
                        go_wp2
                        go_roundw
                        case rel => exact ⟨2, by go_num, by omega, HB13.out⟩
                        case measure => simp [intOf]
                    | 2, _ =>
                      go_wp2
                      go_roundw
                      case rel => exact ⟨k + 1, A6, c6, D6, by go_num, rfl, by omega, by omega, HN6.out, HPS10.out.below HB11.out, HB10.out.then HB11.out⟩
                      case measure => simp [intOf]; omega
                    | j + 3, h3 => omega
                · go_simp
                  have bal := (Below.refl wd.heap.size wd).alloc (Nat.le_refl _) (.cells #[.string ⟨x.nm.toArray⟩, .string ⟨x.url.toArray⟩, .string ⟨x.ttl.toArray⟩, .string ⟨x.txt.toArray⟩, .bool x.nt] 26)
                  have hsa := alloc_size wd (.cells #[.string ⟨x.nm.toArray⟩, .string ⟨x.url.toArray⟩, .string ⟨x.ttl.toArray⟩, .string ⟨x.txt.toArray⟩, .bool x.nt] 26)
                  refine hK _ _ (fun _ => ⟨(bal.cell (p := ⟨wo.heap.size, 0, none⟩) hgd).trans HXd.out.1, (bal.cell (p := ⟨wo.heap.size, 1, none⟩) hgd).trans HXd.out.2.1, (bal.cell (p := ⟨wo.heap.size, 2, none⟩) hgd).trans HXd.out.2.2.1, (bal.cell (p := ⟨wo.heap.size, 3, none⟩) hgd).trans HXd.out.2.2.2.1, (bal.cell (p := ⟨wo.heap.size, 4, none⟩) hgd).trans HXd.out.2.2.2.2⟩) ?_
                  clear hK
                  (try simp only [Act.put, List.setIfInBounds_toArray, List.set_cons_zero, List.set_cons_succ])
                  refine wpAnyN_one (i := 1) rfl (by kernel_rfl) (fun K hK => ?_)
                  rw [if_pos (by rfl)]
                  refine wp_append_lies _ (.const (.slice none 0 0)) (.tmp 79) 40 rfl wd.heap.size 26 i0 (.agg #[.string ByteArray.empty, .string ByteArray.empty, .string ByteArray.empty, .string ByteArray.empty, .bool false]) 5 72 Tryz.underlying40 hi hz0 hz1 hz2 rfl (by decide) (.slice none 0 0) 0 [] (by rfl) (World.ownsRow_nil _ _ _ _) ⟨gh, 0, none⟩ D.length c (flt dfC D) (by rfl) (flt_length dfC_length D) (fun j u hu => HCL.out _ bal j u hu) (dfs_one D) (by omega) (by unfold maxLen; omega) (by omega) (by first | omega | (simp; omega)) _ rfl ?_
                  intro g5 cap5 w5a hown5 hgrow5 hat5 hlt5
                  have bb5 := bal.grown hgrow5 (by omega) (fun k hk => by simp [Value.ownBlock] at hk)
                  have hnw : ∀ (j : Nat) (u : Value), (dfC x)[j]? = some u → w5a.cell? ((⟨wd.heap.size, 0, none⟩ : Addr).add j) = some u := fun j u hu => hgrow5.cell (elt_cells wd (dfC x) 26 j u hu) (by simp [Value.ownBlock])
                  have hsb5 := bb5.size
                  rw [Nat.zero_add, List.nil_append] at hown5
                  rw [Nat.zero_add]
                  refine hK _ _ (fun _ => ⟨(bb5.cell (p := ⟨wo.heap.size, 0, none⟩) hgd).trans HXd.out.1, (bb5.cell (p := ⟨wo.heap.size, 1, none⟩) hgd).trans HXd.out.2.1, (bb5.cell (p := ⟨wo.heap.size, 2, none⟩) hgd).trans HXd.out.2.2.1, (bb5.cell (p := ⟨wo.heap.size, 3, none⟩) hgd).trans HXd.out.2.2.2.1, (bb5.cell (p := ⟨wo.heap.size, 4, none⟩) hgd).trans HXd.out.2.2.2.2⟩) ?_
                  clear hK hgrow5 hat5
                  (try simp only [Act.put, List.setIfInBounds_toArray, List.set_cons_zero, List.set_cons_succ])
                  refine wpAnyN_one (i := 4) rfl (by kernel_rfl) (fun K hK => ?_)
                  rw [if_pos (by rfl)]
                  refine wp_append_lies _ (.tmp 80) (.tmp 82) 40 rfl wd.heap.size 26 i0 (.agg #[.string ByteArray.empty, .string ByteArray.empty, .string ByteArray.empty, .string ByteArray.empty, .bool false]) 5 72 Tryz.underlying40 hi hz0 hz1 hz2 rfl (by decide) (.slice (some ⟨g5, 0, none⟩) D.length cap5) D.length (flt dfC D) (by rfl) hown5 ⟨wd.heap.size, 0, none⟩ 1 1 (dfC x) (by rfl) rfl hnw (dfC_one _) (by omega) (by unfold maxLen; omega) (by omega) (by first | omega | (simp; omega)) _ rfl ?_
                  intro g6 cap6 w6 hown6 hgrow6 hat6 hlt6
                  have HBt := Lib.hid (bb5.grown hgrow6 (by omega) (fun k hk => (hown5.lt k hk).1))
                  refine hK _ _ (fun h => absurd h (by decide)) ?_
                  clear hK hgrow6 hat6 hlt6 bal hsa hown5 bb5 hsb5 hlt5 hnw
                  (try simp only [Act.put, List.setIfInBounds_toArray, List.set_cons_zero, List.set_cons_succ])
                  refine wpAnyN_rest 5 [_] rfl (by kernel_rfl) (by rfl) ?_
                  obtain ⟨D6, hD6⟩ : ∃ D6, D6 = D ++ [x] := ⟨_, rfl⟩
                  have hl6 : D.length + 1 = D6.length := by rw [hD6]; simp
                  have hps6 : PlaySt w6 w.heap.size bt (bt + 1) (.slice (some ⟨g6, 0, none⟩) D6.length cap6) D6 D6 k := by
                    have hr6 : w6.ownsRow wd.heap.size 26 5 (.slice (some ⟨g6, 0, none⟩) D6.length cap6) D6.length (flt dfC D6) := by
                      rw [← hl6, hD6, flt_append, flt_one]
                      exact hown6
                    rw [hD6] at hr6 ⊢
                    exact PlaySt.have' HPSd.out HBt.out hBd hr6
                  have HPS6 := Lib.hid hps6
                  have HB6 := Lib.hid (HBd.out.then HBt.out)
                  have HZ6 := Lib.hid (HZd.out.below HBt.out)
                  have HN6 := Lib.hid (show D6 = [] → some (⟨g6, 0, none⟩ : Addr) = none ∧ cap6 = 0 from fun e => by rw [hD6] at e; simp at e)
                  have hD6k : D6.length ≤ k + 1 := by omega
                  (try simp only [Act.put, List.setIfInBounds_toArray, List.set_cons_zero, List.set_cons_succ])
                  rw [hl6]
                  clear hps6 hown6 HPSd HBd HZd HXd HBt hD6 hl6 hBd hgd
                  generalize (some (⟨g6, 0, none⟩ : Addr)) = A6 at *
                  generalize cap6 = c6 at *
                  go_wp2_with fail
                  have hs6 := HB6.out.size
                  have call := all_play hs6 HPS6.out (by omega)
                  go_wp2_with fail
                  refine call.mono ?_
                  rintro e w7 ⟨A7, c7, rfl, hall, b7⟩
                  have cdef := defs_play hs6 hall (by omega) (by omega)
                  have HZ7 := Lib.hid (HZ6.out.below b7)
                  have HB7 := Lib.hid (HB6.out.then b7)
                  clear call hall b7
                  go_wp2_with fail
                  refine cdef.mono ?_
                  rintro e w8 ⟨rfl, hp8, hr8, b8, hk8⟩
                  obtain ⟨A8, c8, e8, hrh⟩ := EltsAt.own dfC_length hp8.row
                  cases e8
                  have CS := Lib.hid (sameDefs_same A7 A6 c7 c6 D6 w8 hr8 hrh)
                  have HZ8 := Lib.hid (hk8 _ _ HZ7.out)
                  have HPS8 := Lib.hid hp8
                  have HB8 := Lib.hid (HB7.out.trans b8)
                  clear cdef hp8 hr8 b8 hk8 hrh
                  go_wp2_with fail
                  refine CS.out.mono ?_
                  rintro e w9 ⟨rfl, nq, hw9⟩
                  have q9 : Below w8.heap.size w8 w9 := by rw [hw9]; exact below_drewN' (Below.refl _ _) nq
                  have HPS9 := Lib.hid (HPS8.out.below q9)
                  have HB9 := Lib.hid (HB8.out.then q9)
                  have hz9 := HZ8.out.below q9
                  have HZ9 := Lib.hid hz9
                  obtain ⟨k0, k1, k2, k3, k4, kf⟩ := hz9.cells
                  clear hw9 q9 CS hz9 k1 k2 k3 k4 kf
                  go_wp2_with fail
                  have b10 := (Below.refl w9.heap.size w9).alloc (Nat.le_refl _) (.cells #[.string a1, .string ⟨x.nm.toArray⟩] 9)
                  have ht10 : (w9.alloc (.cells #[.string a1, .string ⟨x.nm.toArray⟩] 9)).cell? ⟨w9.heap.size, 0, none⟩ = some (.string a1) ∧ (w9.alloc (.cells #[.string a1, .string ⟨x.nm.toArray⟩] 9)).cell? ⟨w9.heap.size, 1, none⟩ = some (.string ⟨x.nm.toArray⟩) :=
                    ⟨(cell_of_row _ _ 0 _ _ (0, 0) (heap_alloc_new w9 _)).trans rfl, (cell_of_row _ _ 1 _ _ (0, 0) (heap_alloc_new w9 _)).trans rfl⟩
                  have hs10 := alloc_size w9 (.cells #[.string a1, .string ⟨x.nm.toArray⟩] 9)
                  have HPS10 := Lib.hid (HPS9.out.below b10)
                  have HB10 := Lib.hid (HB9.out.then b10)
                  have HZ10 := Lib.hid (HZ9.out.below b10)
                  have HT10 := Lib.hid ht10
                  clear b10 ht10 k0
                  generalize w9.alloc (.cells #[.string a1, .string ⟨x.nm.toArray⟩] 9) = w10 at *
                  generalize w9.heap.size = gt at *
                  have hgt : gt < w10.heap.size := by omega
                  go_loopw [98] (fun i wr => PlayTwo w10 i wr) (fun i _ => 2 - (intOf i).toNat)
                  case atStart => exact ⟨0, rfl, by omega, Below.refl _ _⟩
                  case round =>
                    obtain ⟨j, rfl, hj2, hb11⟩ := hrel
                    generalize wr = w11 at *
                    have HB11 := Lib.hid hb11
                    have hs11 := hb11.size
                    clear hb11
                    match j, hj2 with
                    | 0, _ =>
                      have hcells : w11.cell? ⟨gt, 0, none⟩ = some (.string a1) := (HB11.out.cell (p := ⟨gt, 0, none⟩) hgt).trans HT10.out.1
                      obtain ⟨k0, k1, k2, k3, k4, kf⟩ := (HZ10.out.below HB11.out).cells
                      have cf := find_play (HPS10.out.below HB11.out) a1 x.nt (by omega) (by omega)
                      have crf : ∀ W, Below w10.heap.size w10 W → Calls Tryz.prog 18 #[.slice A6 D6.length c6, .string a1, .bool x.nt] W fun e w' => e = .returned (dfTib (findL D6 a1.data.toList x.nt)) ∧ Below W.heap.size W w' := fun W hb => by
                        obtain ⟨Ax, cx, ex, hrx⟩ := EltsAt.own dfC_length (HPS10.out.below hb).row
                        cases ex
                        exact rfind_any (HV.out.below (HB10.out.then hb)).tb A6 c6 D6 hrx a1 x.nt (by omega) (by omega)
                      generalize findL D6 a1.data.toList x.nt = r at *
                      obtain ⟨d, ok⟩ := r
                      unfold dfTib dfV at cf crf
                      simp only at cf crf
                      have CRF := Lib.hid crf
                      clear crf k1 k2 k3 kf
                      go_wp2_with fail
                      refine cf.mono ?_
                      rintro e w12 ⟨rfl, b12⟩
                      have HB12 := Lib.hid ((HB11.out.then b12).alloc (HB11.out.then b12).size (.cells #[.string ⟨d.nm.toArray⟩, .string ⟨d.url.toArray⟩, .string ⟨d.ttl.toArray⟩, .string ⟨d.txt.toArray⟩, .bool d.nt] 26))
                      have HZ12 := Lib.hid (dfAt_new w12 d)
                      have hs12 := alloc_size w12 (.cells #[.string ⟨d.nm.toArray⟩, .string ⟨d.url.toArray⟩, .string ⟨d.ttl.toArray⟩, .string ⟨d.txt.toArray⟩, .bool d.nt] 26)
                      obtain ⟨k0, k1, k2, k3, k4, kf⟩ := (HZ10.out.below HB12.out).cells
                      clear cf b12 hcells k0 k1 k2 k3 kf
                      go_wp2_with fail
                      refine (CRF.out _ HB12.out).mono ?_
                      rintro e w13 ⟨rfl, b13⟩
                      have hz5 := HZ12.out.below b13
                      have hz6 := hz5.below ((Below.refl _ w13).alloc (Nat.le_refl _) (.cells #[.string ⟨d.nm.toArray⟩, .string ⟨d.url.toArray⟩, .string ⟨d.ttl.toArray⟩, .string ⟨d.txt.toArray⟩, .bool d.nt] 26))
                      obtain ⟨k0, k1, k2, k3, k4, kf⟩ := hz6.cells
                      have hz7 := dfAt_new w13 d
                      obtain ⟨l0, l1, l2, l3, l4, lf⟩ := hz7.cells
                      have HB13 := Lib.hid ((HB12.out.then b13).alloc (HB12.out.then b13).size (.cells #[.string ⟨d.nm.toArray⟩, .string ⟨d.url.toArray⟩, .string ⟨d.ttl.toArray⟩, .string ⟨d.txt.toArray⟩, .bool d.nt] 26))
                      clear hz5 hz6 hz7 b13 CRF
                      cases ok
                      all_goals
                        go_wp2
                        go_roundw
                        case rel => exact ⟨1, by go_num, by omega, HB13.out⟩
                        case measure => simp [intOf]
                    | 1, _ =>
                      have hcells : w11.cell? ⟨gt, 1, none⟩ = some (.string (⟨x.nm.toArray⟩ : ByteArray)) := (HB11.out.cell (p := ⟨gt, 1, none⟩) hgt).trans HT10.out.2
                      obtain ⟨k0, k1, k2, k3, k4, kf⟩ := (HZ10.out.below HB11.out).cells
                      have cf := find_play (HPS10.out.below HB11.out) (⟨x.nm.toArray⟩ : ByteArray) x.nt (by rw [hxs]; omega) (by omega)
                      have crf : ∀ W, Below w10.heap.size w10 W → Calls Tryz.prog 18 #[.slice A6 D6.length c6, .string (⟨x.nm.toArray⟩ : ByteArray), .bool x.nt] W fun e w' => e = .returned (dfTib (findL D6 (⟨x.nm.toArray⟩ : ByteArray).data.toList x.nt)) ∧ Below W.heap.size W w' := fun W hb => by
                        obtain ⟨Ax, cx, ex, hrx⟩ := EltsAt.own dfC_length (HPS10.out.below hb).row
                        cases ex
                        exact rfind_any (HV.out.below (HB10.out.then hb)).tb A6 c6 D6 hrx (⟨x.nm.toArray⟩ : ByteArray) x.nt (by rw [hxs]; omega) (by omega)
                      generalize findL D6 (⟨x.nm.toArray⟩ : ByteArray).data.toList x.nt = r at *
                      obtain ⟨d, ok⟩ := r
                      unfold dfTib dfV at cf crf
                      simp only at cf crf
                      have CRF := Lib.hid crf
                      clear crf k1 k2 k3 kf
                      go_wp2_with fail
                      refine cf.mono ?_
                      rintro e w12 ⟨rfl, b12⟩
                      have HB12 := Lib.hid ((HB11.out.then b12).alloc (HB11.out.then b12).size (.cells #[.string ⟨d.nm.toArray⟩, .string ⟨d.url.toArray⟩, .string ⟨d.ttl.toArray⟩, .string ⟨d.txt.toArray⟩, .bool d.nt] 26))
                      have HZ12 := Lib.hid (dfAt_new w12 d)
                      have hs12 := alloc_size w12 (.cells #[.string ⟨d.nm.toArray⟩, .string ⟨d.url.toArray⟩, .string ⟨d.ttl.toArray⟩, .string ⟨d.txt.toArray⟩, .bool d.nt] 26)
                      obtain ⟨k0, k1, k2, k3, k4, kf⟩ := (HZ10.out.below HB12.out).cells
                      clear cf b12 hcells k0 k1 k2 k3 kf
                      go_wp2_with fail
                      refine (CRF.out _ HB12.out).mono ?_
                      rintro e w13 ⟨rfl, b13⟩
                      have hz5 := HZ12.out.below b13
                      have hz6 := hz5.below ((Below.refl _ w13).alloc (Nat.le_refl _) (.cells #[.string ⟨d.nm.toArray⟩, .string ⟨d.url.toArray⟩, .string ⟨d.ttl.toArray⟩, .string ⟨d.txt.toArray⟩, .bool d.nt] 26))
                      obtain ⟨k0, k1, k2, k3, k4, kf⟩ := hz6.cells
                      have hz7 := dfAt_new w13 d
                      obtain ⟨l0, l1, l2, l3, l4, lf⟩ := hz7.cells
                      have HB13 := Lib.hid ((HB12.out.then b13).alloc (HB12.out.then b13).size (.cells #[.string ⟨d.nm.toArray⟩, .string ⟨d.url.toArray⟩, .string ⟨d.ttl.toArray⟩, .string ⟨d.txt.toArray⟩, .bool d.nt] 26))
                      clear hz5 hz6 hz7 b13 CRF
                      cases ok
                      all_goals
                        go_wp2
                        go_roundw
                        case rel => exact ⟨2, by go_num, by omega, HB13.out⟩
                        case measure => simp [intOf]
                    | 2, _ =>
                      go_wp2
                      go_roundw
                      case rel => exact ⟨k + 1, A6, c6, D6, by go_num, rfl, by omega, by omega, HN6.out, HPS10.out.below HB11.out, HB10.out.then HB11.out⟩
                      case measure => simp [intOf]; omega
                    | j + 3, h3 => omega
      · have h101 : 100 < x.nm.length := by omega
        clear h100
        go_wp2
        go_ret
        exact ⟨rfl, HBW.out.alloc HBW.out.size _⟩
    · obtain rfl : k = z0.length := by omega
      have cf := fun W => find_none ⟨#[97]⟩ false W (by decide)
      have cad := fun W => add_none ⟨[97], [], [], [], false⟩ W
      have cal := fun W => all_nil W
      unfold dfTib dfV noDfn at cf
      unfold dfV' at cad
      simp only at cf cad
      have HPS := Lib.hid hps
      have HB := Lib.hid hbw
      clear hps hbw
      go_wp2_with fail
      refine (cf _).mono ?_
      rintro e w5 ⟨rfl, b5⟩
      have b5a := (Below.refl w5.heap.size w5).alloc (Nat.le_refl _) (.cells #[.string ⟨#[]⟩, .string ⟨#[]⟩, .string ⟨#[]⟩, .string ⟨#[]⟩, .bool false] 26)
      have HPS5 := Lib.hid ((HPS.out.below b5).below b5a)
      have HB5 := Lib.hid ((HB.out.then b5).then b5a)
      clear b5 b5a cf
      go_wp2_with fail
      refine (cad _).mono ?_
      rintro e w6 ⟨rfl, b6⟩
      have HPS6 := Lib.hid (HPS5.out.below b6)
      have HB6 := Lib.hid (HB5.out.then b6)
      clear b6 cad HPS5 HB5
      go_wp2_with fail
      refine (cal _).mono ?_
      rintro e w7 ⟨rfl, hw7⟩
      subst hw7
      have cap := apart_play HB6.out.size HPS6.out h1
      clear cal
      go_wp2_with fail
      refine cap.mono ?_
      rintro e w8 ⟨rfl, b8⟩
      go_wp2
      go_ret
      exact ⟨rfl, HB6.out.trans b8⟩

set_option maxHeartbeats 2000000 in
theorem tablePlays_walk (w : World) (hv : Elz w) (A0 : Option Addr) (c0 : Nat) (z0 : List Dfn) (r0 : DefsAt w A0 c0 z0) (w0 : DfnsWf z0) (a1 : ByteArray) (w1 : a1.size ≤ maxLen) :
    Calls Tryz.prog 4 #[.slice A0 z0.length c0, .string a1] w fun e w' => e = .returned (.bool true) ∧ Below w.heap.size w w' := by
  by_cases h : z0.length ≤ 60 ∧ a1.size ≤ 100
  · exact tablePlays_in w hv A0 c0 z0 r0 a1 h.1 h.2
  · unfold maxLen at w1
    have hc1 := r0.le
    have hc2 := r0.cap
    unfold maxLen at hc2
    have ca := alive11_any w hv.ev
    have hcase : 60 < z0.length ∨ z0.length ≤ 60 ∧ 100 < a1.size := by omega
    clear hv h r0 w0
    rcases hcase with h | ⟨h, h2⟩
    all_goals
      go_enter Tryz.func4, Tryz.ntmps4
      go_wp2_with (go_at_call 5; refine ca.mono ?_; rintro e w1 ⟨rfl, b1⟩)
      go_ret
      exact ⟨rfl, b1⟩

end Go.Proofs.YtioolcnoiaoflaaGreatDoor

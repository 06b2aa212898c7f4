/-
  The document's own reader (bowdlerref1's Seer): with, Line: what each answers, in plain words.
-/
import Derived.Test.YtkcmhdkhdjmjeaaGreatDoorRfE
import Derived.Test.YtkcmhdkhdjmjeaaGreatDoorRfC
import Derived.Test.YtkcmhdkhdjmjeaaGreatDoorRfS
import Derived.Test.YtkcmhdkhdjmjeaaGreatDoorSerC
import Derived.Laws.AppendOwnNone
namespace Go.Proofs.YtkcmhdkhdjmjeaaGreatDoor
open Go.RowKit
set_option linter.unusedSimpArgs false
set_option linter.unusedVariables false
set_option maxRecDepth 100000

theorem str_cells (w : World) (x : ByteArray) : ∀ (j : Nat) (u : Value), ([.string x] : List Value)[j]? = some u → (w.alloc (.cells #[.string x] 9)).cell? ((⟨w.heap.size, 0, none⟩ : Addr).add j) = some u := by
  intro j u hj
  rw [addr_add, cell_of_row _ _ _ _ 9 (0, 0) (heap_alloc_new w _), Nat.zero_add]
  simpa using hj
theorem strs_snoc (ls : List (List UInt8)) (x : ByteArray) : strs ls ++ [Value.string x] = strs (ls ++ [x.data.toList]) := by
  rw [strs_append]
  congr 1

set_option maxHeartbeats 8000000 in
theorem rwith_any (A : Option Addr) (cap : Nat) (ls : List (List UInt8)) (x : ByteArray) (w : World) (hrow : RowOf w A cap (strs ls)) (hn : ls.length ≤ 1000000) :
    Calls Tryz.prog 44 #[.slice A ls.length cap, .string x] w fun e w' => ∃ v, e = .returned v ∧ w'.ownsRow w.heap.size 9 1 v (ls ++ [x.data.toList]).length (strs (ls ++ [x.data.toList])) ∧ Below w.heap.size w w' := by
  obtain ⟨i0, hi, hz0, hz1, hz2⟩ := info_parts infoString
  have hl := strs_length ls
  have h1 := strs_one' ls
  have hone : ∀ u ∈ ([.string x] : List Value), u.oneCell' = true := by intro u hu; simp at hu; rw [hu]; rfl
  rcases A with _ | ad
  · have h0 : ls = [] := by
      rcases hrow.2.2 with h | ⟨b, off, e, _⟩
      · exact List.map_eq_nil_iff.1 h
      · cases e
    subst h0
    have hs1 := alloc_size w (.cells #[.string x] 9)
    have hn2 := str_cells w x
    have HBB := Lib.hid ((Below.refl w.heap.size w).alloc (Nat.le_refl _) (.cells #[.string x] 9))
    have HP := Lib.hid (strs_snoc [] x)
    go_enter Tryz.func44, Tryz.ntmps44
    go_wp2_with (at_builtin; refine wpList_append_own _ rfl _ _ 22 rfl w.heap.size 9 i0 (.string ByteArray.empty) 1 16 Tryz.underlying22 hi hz0 hz1 hz2 rfl (by decide) _ 0 [] rfl (World.ownsRow_nil _ _ _ _) ⟨w.heap.size, 0, none⟩ 1 1 [.string x] rfl rfl hn2 hone (by unfold maxLen; omega) (by omega) (by omega) ?_)
    intro v7 w7 hown' hgrow _
    have HB7 := Lib.hid (HBB.out.trans (below_of_grown (B := w.heap.size) hgrow (fun g hg => by simp [Value.ownBlock] at hg) (by omega)))
    have HO7 := Lib.hid hown'
    clear hown' hgrow hn2
    go_wp2
    go_ret
    exact ⟨_, rfl, by have h := HO7.out; rw [show ([Value.string x] : List Value) = strs [x.data.toList] from HP.out] at h; exact h, HB7.out⟩
  · have hc := hrow.cells
    have HL := Lib.hid hl
    have HP := Lib.hid (strs_snoc ls x)
    have HLE := Lib.hid (show (ls ++ [x.data.toList]).length = ls.length + 1 from by simp)
    clear hl
    go_enter Tryz.func44, Tryz.ntmps44
    go_wp2_with (at_builtin; refine wpList_append_own _ rfl _ _ 22 rfl w.heap.size 9 i0 (.string ByteArray.empty) 1 16 Tryz.underlying22 hi hz0 hz1 hz2 rfl (by decide) _ 0 [] rfl (World.ownsRow_nil _ _ _ _) ad ls.length cap (strs ls) rfl (by rw [HL.out]; omega) hc h1 (by unfold maxLen; omega) (by omega) (Nat.le_refl _) ?_)
    intro v' w2 hown' hgrow _
    have hb := (Below.refl w.heap.size w).grown hgrow (Nat.le_refl _) (fun k hk => by simp [Value.ownBlock] at hk)
    have h2 := hown'.alloc (.cells #[.string x] 9)
    have hs1 := alloc_size w2 (.cells #[.string x] 9)
    have hn2 := str_cells w2 x
    have hbs := hb.size
    have HBB := Lib.hid (hb.alloc hbs (.cells #[.string x] 9))
    clear hown' hgrow hb hc
    go_wp2_with (at_builtin; refine wpList_append_own _ rfl _ _ 22 rfl w.heap.size 9 i0 (.string ByteArray.empty) 1 16 Tryz.underlying22 hi hz0 hz1 hz2 rfl (by decide) _ _ _ rfl h2 ⟨w2.heap.size, 0, none⟩ 1 1 [.string x] rfl rfl hn2 hone (by unfold maxLen; omega) (by omega) (by simp; omega) ?_)
    intro v7 w7 hown7 hgrow _
    have HB7 := Lib.hid (HBB.out.trans (below_of_grown (B := w.heap.size) hgrow (fun g hg => (h2.lt g hg).1) (by omega)))
    have HO7 := Lib.hid hown7
    clear hown7 hgrow hn2
    go_wp2
    go_ret
    exact ⟨_, rfl, by rw [HLE.out, ← HP.out]; simpa using HO7.out, HB7.out⟩

theorem PcAt.own1 {w : World} {B : Nat} {v : Value} {P : List Pc} (h : w.ownsRow B 90 3 v P.length (pcsC P)) : ∃ A cap, v = .slice A P.length cap ∧ PcAt w A cap P := by
  by_cases h0 : P.length = 0
  · obtain ⟨hl, hr⟩ := h
    have hx := List.eq_nil_of_length_eq_zero h0
    rcases hr with ⟨e1, _⟩ | ⟨g, cap, cur, e1, hb, hg, hnc, hcm, _⟩
    · exact ⟨none, 0, by rw [e1, h0], by omega, Nat.zero_le _, Or.inl hx⟩
    · exact ⟨_, cap, e1, hnc, hcm, Or.inl hx⟩
  · obtain ⟨g, cap, cur, e, hb, hlt, hnc, hcm, hg, hc⟩ := own_block h (by omega)
    exact ⟨_, cap, e, hnc, hcm, Or.inr ⟨g, 0, rfl, hlt, fun k hk j u hu => by rw [Nat.zero_add]; exact hc _ _ (pcsC_get P k hk j u hu)⟩⟩
def RLnRel (p : Sv) (P : List Pc) (v : Value) (w : World) (i : Value) (wr : World) : Prop :=
  ∃ k : Nat, i = .int .i64 k ∧ k ≤ P.length ∧ wr.ownsRow w.heap.size 90 3 v P.length (pcsC (qL p P k)) ∧ Below w.heap.size w wr
theorem sees_snoc {ns : List Txt} {R : Rel} {me : Nat} (h : Lat ns.length R) (hn : 1 ≤ ns.length) (hm : me < ns.length) (ls : List Txt) (x : Txt) : seesL ns R me (ls ++ [x]) = underP ns R me ls x := by
  unfold underP
  rw [seesL_all h hn hm, seesL_all h hn hm]
  simp
theorem sees_snoc2 {ns : List Txt} {R : Rel} {me : Nat} (h : Lat ns.length R) (hn : 1 ≤ ns.length) (hm : me < ns.length) (ls : List Txt) (lab x : Txt) (hl : underP ns R me ls lab = true) : seesL ns R me ((ls ++ [lab]) ++ [x]) = underP ns R me ls x := by
  rw [sees_snoc h hn hm]
  have e := sees_snoc h hn hm ls lab
  rw [hl] at e
  unfold underP at hl ⊢
  rw [Bool.and_eq_true] at hl
  rw [e, hl.1]
theorem head_sign {s t0 lab : Txt} (h : headingL s = some (t0, lab)) : hdSign t0 = s.take (bN (trimR s)) ++ [32] := by
  obtain ⟨c1, c2, c3, c4, c5, c6, c7, c8⟩ := heading_conds h
  have h0 := heading_found (s := s) (k := t0.length) c1 c2 (by omega) c5 c4 (by rw [c7, List.getElem?_append_right (Nat.le_refl _), Nat.sub_self]; rfl) (by rw [c7, List.getElem?_append_right (by omega), show t0.length + 1 - t0.length = 1 from by omega]; rfl) c6 (by
    rw [c7, show t0 ++ (headB ++ (lab ++ [125])) = (t0 ++ headB) ++ (lab ++ [125]) from by simp, List.drop_left' (by simp [headB])]
    simpa using c8)
  have h1 := h0.2
  rw [c7, List.take_left] at h1
  rw [h1, ← c7]

theorem sum4 (a lab : Txt) : (((⟨a.toArray⟩ : ByteArray) ++ ⟨#[32, 123, 61]⟩) ++ ⟨lab.toArray⟩) ++ ⟨#[125]⟩ = ⟨(a ++ ([32, 123, 61] ++ (lab ++ [125]))).toArray⟩ := by
  rw [← Lib.mk_data ((((⟨a.toArray⟩ : ByteArray) ++ ⟨#[32, 123, 61]⟩) ++ ⟨lab.toArray⟩) ++ ⟨#[125]⟩)]
  simp [ByteArray.data_append]
section
variable {w w' : World} {b : Nat} {A : Option Addr} {ca : Nat} {p : OPlace} {ns : List (List UInt8)} {R : Rel} {me : Nat}
set_option maxHeartbeats 16000000 in
theorem rline_any (h : RSeer w b A ca p ns R me) (l : ByteArray) (hs : l.size ≤ 100000) (B : Option Addr) (cb : Nat) (ls : List Txt) (hrow : RowOf w B cb (strs ls)) (hn : ls.length ≤ 100000) :
    Calls Tryz.prog 15 #[.pointer (some ⟨b, 0, none⟩), .string l, .slice B ls.length cb] w fun e w' => e = .returned (.string ⟨(lineL (underP ns R me ls) l.data.toList).toArray⟩) ∧ Below w.heap.size w w' := by
  have hl : l.data.toList.length = l.size := by simp
  have ch := rheaded_any l w (by omega)
  have hsn := fun ls => sees_snoc (me := me) h.lat h.pos h.lt ls
  have hsn2 := fun lab x => sees_snoc2 (me := me) h.lat h.pos h.lt ls lab x
  have HS := Lib.hid h
  have HR := Lib.hid hrow
  clear h hrow
  go_enter Tryz.func15, Tryz.ntmps15
  rcases line_cases l.data.toList with ⟨hno, hp⟩ | ⟨t, lab, kk, he, hb1, hb2, hh, hp⟩
  · rw [hno] at ch
    unfold rheadV at ch
    dsimp only at ch
    have HF3 := Lib.hid (hp (underP ns R me ls))
    have HF2 := Lib.hid (show lineL (underP ns R me ls) l.data.toList = unspanL ((spansL l.data.toList).map (empPc (underP ns R me ls))) from hp _)
    have hPU := hsn ls
    clear hno hp hsn hsn2
    go_wp2_with fail
    refine ch.mono ?_
    rintro e w2 ⟨rfl, b2⟩
    have HS2 := Lib.hid (HS.out.below b2)
    have HR2 := Lib.hid (HR.out.below b2)
    have HB2 := Lib.hid b2
    clear b2 ch
    have hBW := HB2.out.size
    have cp := rspans_any l w2 hs
    go_wp2_with fail
    refine cp.mono ?_
    rintro e wp ⟨vp, rfl, hown, bp⟩
    obtain ⟨A3, c3, rfl, hat3⟩ := PcAt.own1 hown
    have hle3 := hat3.le
    have hcm3 := hat3.cap
    unfold maxLen at hcm3
    have HLe := Lib.hid (empL_len (underP ns R me ls) _ l.data.toList (Nat.le_refl _))
    clear hat3 cp
    generalize hPP : spansL l.data.toList = P at *
    have HPP := Lib.hid hPP
    clear hPP
    go_wp2_with fail
    go_loopw [12] (fun i wr => RLnRel (underP ns R me ls) P (.slice A3 P.length c3) w2 i wr) (fun i _ => P.length - (intOf i).toNat)
    case atStart => exact ⟨0, rfl, Nat.zero_le _, by rw [qL_zero]; exact hown, bp⟩
    case round =>
      obtain ⟨k, rfl, hk, hown, hbw⟩ := hrel
      by_cases hp : k < P.length
      · obtain ⟨g, cap, cur, e, hBg, hglt, hnc, hcm, hblk, hcell⟩ := own_block hown (by omega)
        cases e
        have hqk : (qL (underP ns R me ls) P k)[k]'(by rw [qL_len]; exact hp) = P[k] := qL_get _ _ _ hp
        have hq0 := pcsC_get (qL (underP ns R me ls) P k) k (by rw [qL_len]; exact hp)
        rw [hqk] at hq0
        have x0 := hcell _ _ (hq0 0 _ rfl)
        have x1 := hcell _ _ (hq0 1 _ rfl)
        have x2 := hcell _ _ (hq0 2 _ rfl)
        have HSr := Lib.hid (HS2.out.below hbw)
        have HRr := Lib.hid (HR2.out.below hbw)
        have HBw := Lib.hid hbw
        have HOw := Lib.hid hown
        have HBlk := Lib.hid hblk
        have HSu := Lib.hid (qL_succ (underP ns R me ls) P k hp)
        have HSm := Lib.hid (qL_same (underP ns R me ls) P k hp)
        have HSt := Lib.hid (fun u => by
          have h1 := pcsC_set (qL (underP ns R me ls) P k) k (by rw [qL_len]; exact hp) u
          rw [hqk] at h1
          exact h1)
        have hlen3 : k * 3 + 2 < (pcsC (qL (underP ns R me ls) P k)).length := by rw [pcsC_length, qL_len]; omega
        have HL3 := Lib.hid hlen3
        clear hown hblk hcell hq0 hbw hqk hlen3
        generalize P[k] = x at *
        obtain ⟨sp, plab, ptxt⟩ := x
        simp only [Nat.add_zero] at x0 x1 x2
        cases sp with
        | false =>
          go_wp2_with fail
          refine ⟨⟨k + 1, by go_num, by omega, ?_, HBw.out⟩, by simp [intOf]; omega⟩
          rw [HSm.out (by simp [empPc])]
          exact HOw.out
        | true =>
          have cw := rwith_any B cb ls ⟨plab.toArray⟩ wr HRr.out (by first | omega | (simp; omega))
          rw [show (⟨plab.toArray⟩ : ByteArray).data.toList = plab from rfl] at cw
          have HEm := Lib.hid (show empPc (underP ns R me ls) ⟨true, plab, ptxt⟩ = ⟨true, plab, if (underP ns R me ls) plab then ptxt else []⟩ from by rw [empPc_span]; rfl)
          have HPU := Lib.hid (hPU plab)
          generalize hU : ls ++ [plab] = U at *
          have HU := Lib.hid hU
          clear hU
          go_wp2_with fail
          refine cw.mono ?_
          rintro e w6 ⟨v6, rfl, ho6, b6⟩
          obtain ⟨A7, c7, rfl, hr7, _, _⟩ := RowOf.own ho6
          have cs := rsees_any (HSr.out.below b6) A7 c7 U hr7
          rw [HPU.out] at cs
          have HB6 := Lib.hid (HBw.out.then b6)
          have hblk6 := (b6.block g hglt).trans HBlk.out
          have x26 := (b6.cell (p := ⟨g, k * 3 + 2, none⟩) hglt).trans x2
          have HOw6 := Lib.hid (ownsRow_below HOw.out b6)
          clear ho6 b6 hr7 cw
          go_wp2_with fail
          refine cs.mono ?_
          rintro e w7 ⟨rfl, b7⟩
          have HB7 := Lib.hid (HB6.out.then b7)
          have hblk7 := (b7.block g (Array.getElem?_eq_some_iff.1 hblk6).1).trans hblk6
          have HOw7 := Lib.hid (ownsRow_below HOw6.out b7)
          have x27 := (b7.cell (p := ⟨g, k * 3 + 2, none⟩) (Array.getElem?_eq_some_iff.1 hblk6).1).trans x26
          clear b7 cs hblk6
          cases hsv : (underP ns R me ls) plab with
          | true =>
            have HFin := Lib.hid (HSm.out (by rw [HEm.out, hsv]; rfl))
            clear hsv hblk7
            go_wp2_with fail
            refine ⟨⟨k + 1, by go_num, by omega, ?_, HB7.out⟩, by simp [intOf]; omega⟩
            rw [HFin.out]
            exact HOw7.out
          | false =>
            have HFin := Lib.hid (show pcsC (qL (underP ns R me ls) P (k + 1)) = (pcsC (qL (underP ns R me ls) P k)).set (k * 3 + 2) (.string ⟨#[]⟩) from by
              rw [HSu.out, HEm.out, ← HSt.out, hsv]
              rfl)
            have hfz7 := own_frozen hblk7 (k * 3 + 2)
            have hglt7 := (Array.getElem?_eq_some_iff.1 hblk7).1
            clear hsv
            go_wp2_with fail
            refine ⟨⟨k + 1, by go_num, by omega, ?_, HB7.out.setCell (p := ⟨g, k * 3 + 2, none⟩) hBg _⟩, by simp [intOf]; omega⟩
            rw [HFin.out]
            exact own_store HOw7.out HL3.out _
      · obtain rfl : k = P.length := by omega
        rw [qL_end] at hown
        have hlen : (P.map (empPc (underP ns R me ls))).length = P.length := by simp
        rw [← hlen] at hown
        obtain ⟨A8, c8, e5, hat5⟩ := PcAt.own1 hown
        have cu := runspan_any A8 c8 _ wr hat5 (by rw [← HF2.out]; have := HLe.out; rw [← HF3.out] at this; omega)
        rw [← HF2.out, hlen] at cu
        rw [hlen] at e5
        rw [← e5] at cu
        clear hown hlen hat5
        go_wp2_with fail
        refine cu.mono ?_
        rintro e w9 ⟨rfl, b9⟩
        go_wp2
        go_ret
        exact ⟨rfl, (HB2.out.then hbw).then b9⟩
  · rw [hh] at ch
    unfold rheadV at ch
    dsimp only at ch
    have HP := Lib.hid (hp (underP ns R me ls))
    have HT := Lib.hid (head_sign hh)
    have hc := heading_conds hh
    have HC := Lib.hid hc
    have hNl : bN (trimR l.data.toList) ≤ l.size := by
      have h1 := bN_le (trimR l.data.toList)
      obtain ⟨k, hk⟩ := trimR_more l.data.toList
      have := congrArg List.length hk
      rw [List.length_append] at this
      omega
    have HSg := Lib.hid (show hdSign t = (l.data.toList.take (bN (trimR l.data.toList))) ++ [32] from HT.out)
    have hsg := hsn ls lab
    generalize hN : bN (trimR l.data.toList) = N at *
    have hext : l.extract 0 N = ⟨(l.data.toList.take N).toArray⟩ := by rw [← ext_head l N (by omega)]
    have hsl : ∀ W, (Instr.slice 9 (.string l) none (some (.int .i64 (N : Int))) none).run Tryz.prog W = .ok (.string (l.extract 0 N)) W := fun W => by
      have := run_slice_string_h (P := Tryz.prog) W 9 l Tryz.underlying9 .i64 (N : Int) (by omega) (by omega)
      rw [Int.toNat_natCast] at this
      exact this
    have hLl : lab.length ≤ 40 := by
      have := hb2
      unfold isLab labOk at this
      simp at this
      exact this.2.2
    obtain ⟨LB, hLB⟩ : ∃ LB : ByteArray, LB = ⟨lab.toArray⟩ := ⟨_, rfl⟩
    have hLz : LB.size = lab.length := by rw [hLB]; exact str_size lab
    have HLB := Lib.hid hLB
    rw [← hLB] at ch
    have cw := rwith_any B cb ls LB
    rw [show LB.data.toList = lab from by rw [hLB]] at cw
    have hU0l : (ls ++ [lab]).length ≤ 100001 := by rw [List.length_append, List.length_singleton]; omega
    have HEq := Lib.hid (fun hv => funext fun x => (hsn (ls ++ [lab]) x).symm.trans (hsn2 lab x hv))
    have hPU := hsn (ls ++ [lab])
    clear hsn hsn2 hh hp hc hb1 hb2 he hLB
    generalize hU : ls ++ [lab] = U0 at *
    have HU := Lib.hid hU
    clear hU hN
    go_wp2_with fail
    refine ch.mono ?_
    rintro e w2 ⟨rfl, b2⟩
    have HS2 := Lib.hid (HS.out.below b2)
    have HR2 := Lib.hid (HR.out.below b2)
    have HB2 := Lib.hid b2
    clear b2 ch
    go_wp2_with fail
    refine (cw w2 HR2.out (by omega)).mono ?_
    rintro e w3 ⟨v3, rfl, ho3, b3⟩
    obtain ⟨A3, c3, rfl, hr3, _, _⟩ := RowOf.own ho3
    have cs := rsees_any (HS2.out.below b3) A3 c3 U0 hr3
    rw [hsg] at cs
    have HS3 := Lib.hid (HS2.out.below b3)
    have HR3 := Lib.hid (HR2.out.below b3)
    have HB3 := Lib.hid (HB2.out.then b3)
    clear ho3 b3 hr3
    go_wp2_with fail
    refine cs.mono ?_
    rintro e w4 ⟨rfl, b4⟩
    have HS4 := Lib.hid (HS3.out.below b4)
    have HR4 := Lib.hid (HR3.out.below b4)
    have HB4 := Lib.hid (HB3.out.then b4)
    clear b4 cs
    cases hsv : (underP ns R me ls) lab with
    | false =>
      have HNo := Lib.hid (show lineL (underP ns R me ls) l.data.toList = l.data.toList.take N ++ ([32, 123, 61] ++ (lab ++ [125])) from by
        rw [HP.out, if_neg (by rw [hsv]; simp), HSg.out]
        simp [labTail, headB])
      have hc1 := fun W => run_string_add_sum (P := Tryz.prog) W (l.extract 0 N) ⟨#[32, 123, 61]⟩ (by rw [ByteArray.size_extract]; show _ + 3 ≤ _; omega)
      have z1 : ((l.extract 0 N) ++ (⟨#[32, 123, 61]⟩ : ByteArray)).size ≤ 100003 := by rw [ByteArray.size_append, ByteArray.size_extract]; show _ + 3 ≤ _; omega
      generalize (l.extract 0 N) ++ (⟨#[32, 123, 61]⟩ : ByteArray) = X1 at *
      have hc2 := fun W => run_string_add_sum (P := Tryz.prog) W X1 LB (by omega)
      have z2 : (X1 ++ LB).size ≤ 100043 := by rw [ByteArray.size_append]; omega
      generalize X1 ++ LB = X2 at *
      have hc3 := fun W => run_string_add_sum (P := Tryz.prog) W X2 ⟨#[125]⟩ (by show _ + 1 ≤ _; omega)
      generalize X2 ++ (⟨#[125]⟩ : ByteArray) = X3 at *
      clear hsv
      go_wp2
      go_ret
      exact ⟨ret_string (by rw [HNo.out, HLB.out]; exact sum4 _ _), HB4.out⟩
    | true =>
      have HF3 := Lib.hid (show lineL (underP ns R me ls) l.data.toList = empL (underP ns R me U0) l.data.toList from by
        rw [HP.out, if_pos hsv, HEq.out hsv])
      have HF2 := Lib.hid (show lineL (underP ns R me ls) l.data.toList = unspanL ((spansL l.data.toList).map (empPc (underP ns R me U0))) from HF3.out)
      clear hsv
      go_wp2_with fail
      refine (cw w4 HR4.out (by omega)).mono ?_
      rintro e w5 ⟨v5, rfl, ho5, b5⟩
      obtain ⟨A5, c5, rfl, hr5, _, _⟩ := RowOf.own ho5
      have HS5 := Lib.hid (HS4.out.below b5)
      have HR5 := Lib.hid hr5
      have HB5 := Lib.hid (HB4.out.then b5)
      clear ho5 b5 hr5
      have hBW := HB5.out.size
      have cp := rspans_any l w5 hs
      go_wp2_with fail
      refine cp.mono ?_
      rintro e wp ⟨vp, rfl, hown, bp⟩
      obtain ⟨A3, c3, rfl, hat3⟩ := PcAt.own1 hown
      have hle3 := hat3.le
      have hcm3 := hat3.cap
      unfold maxLen at hcm3
      have HLe := Lib.hid (empL_len (underP ns R me U0) _ l.data.toList (Nat.le_refl _))
      clear hat3 cp
      generalize hPP : spansL l.data.toList = P at *
      have HPP := Lib.hid hPP
      clear hPP
      go_wp2_with fail
      go_loopw [12] (fun i wr => RLnRel (underP ns R me U0) P (.slice A3 P.length c3) w5 i wr) (fun i _ => P.length - (intOf i).toNat)
      case atStart => exact ⟨0, rfl, Nat.zero_le _, by rw [qL_zero]; exact hown, bp⟩
      case round =>
        obtain ⟨k, rfl, hk, hown, hbw⟩ := hrel
        by_cases hp : k < P.length
        · obtain ⟨g, cap, cur, e, hBg, hglt, hnc, hcm, hblk, hcell⟩ := own_block hown (by omega)
          cases e
          have hqk : (qL (underP ns R me U0) P k)[k]'(by rw [qL_len]; exact hp) = P[k] := qL_get _ _ _ hp
          have hq0 := pcsC_get (qL (underP ns R me U0) P k) k (by rw [qL_len]; exact hp)
          rw [hqk] at hq0
          have x0 := hcell _ _ (hq0 0 _ rfl)
          have x1 := hcell _ _ (hq0 1 _ rfl)
          have x2 := hcell _ _ (hq0 2 _ rfl)
          have HSr := Lib.hid (HS5.out.below hbw)
          have HRr := Lib.hid (HR5.out.below hbw)
          have HBw := Lib.hid hbw
          have HOw := Lib.hid hown
          have HBlk := Lib.hid hblk
          have HSu := Lib.hid (qL_succ (underP ns R me U0) P k hp)
          have HSm := Lib.hid (qL_same (underP ns R me U0) P k hp)
          have HSt := Lib.hid (fun u => by
            have h1 := pcsC_set (qL (underP ns R me U0) P k) k (by rw [qL_len]; exact hp) u
            rw [hqk] at h1
            exact h1)
          have hlen3 : k * 3 + 2 < (pcsC (qL (underP ns R me U0) P k)).length := by rw [pcsC_length, qL_len]; omega
          have HL3 := Lib.hid hlen3
          clear hown hblk hcell hq0 hbw hqk hlen3
          generalize P[k] = x at *
          obtain ⟨sp, plab, ptxt⟩ := x
          simp only [Nat.add_zero] at x0 x1 x2
          cases sp with
          | false =>
            go_wp2_with fail
            refine ⟨⟨k + 1, by go_num, by omega, ?_, HBw.out⟩, by simp [intOf]; omega⟩
            rw [HSm.out (by simp [empPc])]
            exact HOw.out
          | true =>
            have cw := rwith_any A5 c5 U0 ⟨plab.toArray⟩ wr HRr.out (by first | omega | (simp; omega))
            rw [show (⟨plab.toArray⟩ : ByteArray).data.toList = plab from rfl] at cw
            have HEm := Lib.hid (show empPc (underP ns R me U0) ⟨true, plab, ptxt⟩ = ⟨true, plab, if (underP ns R me U0) plab then ptxt else []⟩ from by rw [empPc_span]; rfl)
            have HPU := Lib.hid (hPU plab)
            generalize hU : U0 ++ [plab] = U at *
            have HU := Lib.hid hU
            clear hU
            go_wp2_with fail
            refine cw.mono ?_
            rintro e w6 ⟨v6, rfl, ho6, b6⟩
            obtain ⟨A7, c7, rfl, hr7, _, _⟩ := RowOf.own ho6
            have cs := rsees_any (HSr.out.below b6) A7 c7 U hr7
            rw [HPU.out] at cs
            have HB6 := Lib.hid (HBw.out.then b6)
            have hblk6 := (b6.block g hglt).trans HBlk.out
            have x26 := (b6.cell (p := ⟨g, k * 3 + 2, none⟩) hglt).trans x2
            have HOw6 := Lib.hid (ownsRow_below HOw.out b6)
            clear ho6 b6 hr7 cw
            go_wp2_with fail
            refine cs.mono ?_
            rintro e w7 ⟨rfl, b7⟩
            have HB7 := Lib.hid (HB6.out.then b7)
            have hblk7 := (b7.block g (Array.getElem?_eq_some_iff.1 hblk6).1).trans hblk6
            have HOw7 := Lib.hid (ownsRow_below HOw6.out b7)
            have x27 := (b7.cell (p := ⟨g, k * 3 + 2, none⟩) (Array.getElem?_eq_some_iff.1 hblk6).1).trans x26
            clear b7 cs hblk6
            cases hsv : (underP ns R me U0) plab with
            | true =>
              have HFin := Lib.hid (HSm.out (by rw [HEm.out, hsv]; rfl))
              clear hsv hblk7
              go_wp2_with fail
              refine ⟨⟨k + 1, by go_num, by omega, ?_, HB7.out⟩, by simp [intOf]; omega⟩
              rw [HFin.out]
              exact HOw7.out
            | false =>
              have HFin := Lib.hid (show pcsC (qL (underP ns R me U0) P (k + 1)) = (pcsC (qL (underP ns R me U0) P k)).set (k * 3 + 2) (.string ⟨#[]⟩) from by
                rw [HSu.out, HEm.out, ← HSt.out, hsv]
                rfl)
              have hfz7 := own_frozen hblk7 (k * 3 + 2)
              have hglt7 := (Array.getElem?_eq_some_iff.1 hblk7).1
              clear hsv
              go_wp2_with fail
              refine ⟨⟨k + 1, by go_num, by omega, ?_, HB7.out.setCell (p := ⟨g, k * 3 + 2, none⟩) hBg _⟩, by simp [intOf]; omega⟩
              rw [HFin.out]
              exact own_store HOw7.out HL3.out _
        · obtain rfl : k = P.length := by omega
          rw [qL_end] at hown
          have hlen : (P.map (empPc (underP ns R me U0))).length = P.length := by simp
          rw [← hlen] at hown
          obtain ⟨A8, c8, e5, hat5⟩ := PcAt.own1 hown
          have cu := runspan_any A8 c8 _ wr hat5 (by rw [← HF2.out]; have := HLe.out; rw [← HF3.out] at this; omega)
          rw [← HF2.out, hlen] at cu
          rw [hlen] at e5
          rw [← e5] at cu
          clear hown hlen hat5
          go_wp2_with fail
          refine cu.mono ?_
          rintro e w9 ⟨rfl, b9⟩
          go_wp2
          go_ret
          exact ⟨rfl, (HB5.out.then hbw).then b9⟩
end

end Go.Proofs.YtkcmhdkhdjmjeaaGreatDoor

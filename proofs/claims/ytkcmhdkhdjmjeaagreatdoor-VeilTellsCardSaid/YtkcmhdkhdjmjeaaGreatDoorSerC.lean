/-
  Package veil: headSign, Line: what each answers, in plain words.
  Package veil: Line: a line, emptied.
  Package veil: emptiedLines: lines, emptied.
-/
import Derived.Test.YtkcmhdkhdjmjeaaGreatDoorSerA
import Derived.Test.YtkcmhdkhdjmjeaaGreatDoorSpnC
import Derived.Test.YtkcmhdkhdjmjeaaGreatDoorPla
namespace Go.Proofs.YtkcmhdkhdjmjeaaGreatDoor
open Go.RowKit
set_option linter.unusedSimpArgs false
set_option linter.unusedVariables false
set_option maxRecDepth 100000

/-! ### headSign -/
theorem hd_high : ∀ (xs l : Txt) (r : Bool), (∀ b ∈ xs, 128 ≤ b.toNat) → xs ≠ [] → hdSignF r (xs ++ l) = xs ++ hdSignF false l
  | [], _, _, _, h => absurd rfl h
  | b :: xs, l, r, hb, _ => by
    have h1 : b ≠ 32 := by intro e; have := hb b (by simp); rw [e] at this; simp at this
    have h2 : b ≠ 35 := by intro e; have := hb b (by simp); rw [e] at this; simp at this
    have h3 : (b == 35) = false := by simpa using h2
    have e1 : hdSignF r (b :: (xs ++ l)) = b :: hdSignF false (xs ++ l) := by simp [hdSignF, h1, h3]
    rw [List.cons_append, e1]
    cases xs with
    | nil => rfl
    | cons c xs => rw [hd_high (c :: xs) l false (fun x hx => hb x (by simp [hx])) (by simp)]; rfl
/-- What is left of a heading's signs from a rune on. -/
theorem hd_step (s : ByteArray) (k : Nat) (h : k < s.size) (r : Bool) :
    (r = true ∧ (Utf8.decode s k).1 = 32 → s.data.toList.take k ++ hdSignF r (s.data.toList.drop k) = s.data.toList.take (k + 1)) ∧
    (¬ (r = true ∧ (Utf8.decode s k).1 = 32) → s.data.toList.take k ++ hdSignF r (s.data.toList.drop k) = s.data.toList.take (k + (Utf8.decode s k).2) ++ hdSignF (decide ((Utf8.decode s k).1 = 35)) (s.data.toList.drop (k + (Utf8.decode s k).2))) := by
  have hl := get_list s k h
  have hlen : s.data.toList.length = s.size := by simp
  have ht : s.data.toList.take (k + 1) = s.data.toList.take k ++ [s[k]] := by
    rw [List.take_succ_eq_append_getElem (by omega)]; rfl
  by_cases ha : s[k].toNat < 128
  · have hd := decode_ascii s k h ha
    rw [hd]
    simp only
    have e32 : (s[k].toNat = 32) ↔ s[k] = 32 := ⟨fun e => UInt8.toNat_inj.1 e, fun e => by rw [e]; rfl⟩
    have e35 : (s[k].toNat = 35) ↔ s[k] = 35 := ⟨fun e => UInt8.toNat_inj.1 e, fun e => by rw [e]; rfl⟩
    rw [e32, show decide (s[k].toNat = 35) = (s[k] == 35) from by rw [Bool.eq_iff_iff]; simp only [decide_eq_true_eq, beq_iff_eq]; exact e35, hl, ht]
    constructor
    · rintro ⟨rfl, e⟩
      rw [e]; simp [hdSignF]
    · intro hn
      have e1 : hdSignF r (s[k] :: s.data.toList.drop (k + 1)) = s[k] :: hdSignF (s[k] == 35) (s.data.toList.drop (k + 1)) := by
        have : (r && s[k] == 32) = false := by
          rw [Bool.and_eq_false_iff]
          by_cases hr : r = true
          · right; simp; exact fun e => hn ⟨hr, e⟩
          · left; simpa using hr
        simp only [hdSignF, this, Bool.false_eq_true, if_false]
      rw [e1]
      simp
  · have hh := decode_high s k h (by omega)
    have hd := decode_tail s k h
    have n32 : ¬ (Utf8.decode s k).1 = 32 := by omega
    have n35 : ¬ (Utf8.decode s k).1 = 35 := by omega
    refine ⟨fun e => absurd e.2 n32, fun _ => ?_⟩
    have hs : s.data.toList.drop k = (s.data.toList.drop k).take (Utf8.decode s k).2 ++ s.data.toList.drop (k + (Utf8.decode s k).2) := by
      rw [← List.drop_drop, List.take_append_drop]
    have hx : ∀ b ∈ (s.data.toList.drop k).take (Utf8.decode s k).2, 128 ≤ b.toNat := by
      intro b hb
      obtain ⟨j, hj, rfl⟩ := List.mem_iff_getElem.1 hb
      rw [List.length_take, List.length_drop] at hj
      rw [List.getElem_take, List.getElem_drop]
      by_cases h0 : j = 0
      · subst h0
        have e : s.data.toList[k + 0]'(by omega) = s[k] := rfl
        rw [e]; omega
      · have := hd.2 j (by omega) (by omega)
        rw [get!_list s (k + j) (by omega)] at this
        exact this
    have hne : (s.data.toList.drop k).take (Utf8.decode s k).2 ≠ [] := by
      intro e
      have := congrArg List.length e
      rw [List.length_take, List.length_drop, List.length_nil] at this
      have := decode_pos s k h
      omega
    rw [decide_eq_false n35]
    conv => lhs; rw [hs]
    rw [hd_high _ _ r hx hne, ← List.append_assoc]
    congr 1
    rw [List.take_add]
def HdRel (s : ByteArray) (w : World) (I : Nat) (v : Value) (wr : World) : Prop :=
  ∃ (k : Nat) (r : Bool), v = .bool r ∧ k ≤ s.size ∧ wr.heap[I]? = some (.stringIter s k) ∧ Below w.heap.size w wr ∧ s.data.toList.take k ++ hdSignF r (s.data.toList.drop k) = hdSign s.data.toList
set_option maxHeartbeats 2000000 in
theorem headSign_any (s : ByteArray) (w : World) (hs : s.size ≤ 140737488355328) :
    Calls Tryz.prog 37 #[.string s] w fun e w' => e = .returned (.string ⟨(hdSign s.data.toList).toArray⟩) ∧ Below w.heap.size w w' := by
  go_enter Tryz.func37, Tryz.ntmps37
  go_wp2_with fail
  go_loopw [3] (fun v wr => HdRel s w w.heap.size v wr) (fun _ wr => s.size - wr.iterPos w.heap.size)
  case atStart => exact ⟨0, false, rfl, Nat.zero_le _, World.iter_heap w s 0, (Below.refl _ w).alloc (Nat.le_refl _) _, by simp [hdSign]⟩
  case round =>
    obtain ⟨k, r, rfl, hk, hit, hbw, hF⟩ := hrel
    by_cases hp : k < s.size
    · have hnx : ∀ ty, (Instr.next (.pointer (some ⟨w.heap.size, 0, none⟩)) true ty).run Tryz.prog wr = _ := fun ty => Lib.run_next_any_at wr w.heap.size s k ty hit hp
      have hit2 := Lib.iterAt_heap wr w.heap.size s k (k + (Utf8.decode s k).2) hit
      have hbw2 := Lib.below_iterAt hbw (k := w.heap.size) (by omega) s (k + (Utf8.decode s k).2)
      have hst := hd_step s k hp r
      have hwd := (decode_tail s k hp).1
      have hpos := decode_pos s k hp
      have Hit := Lib.hid hit
      have HS := Lib.hid hF
      clear hit hbw hF
      cases r with
      | true =>
        by_cases h32 : (Utf8.decode s k).1 = 32
        · have f32 : (((Utf8.decode s k).1 : Int) == 32) = true := by simp; omega
          have HT := Lib.hid (hst.1 ⟨rfl, h32⟩)
          have HE := Lib.hid (show s.extract 0 (k + 1) = ⟨(s.data.toList.take (k + 1)).toArray⟩ from by rw [← ext_head s (k + 1) (by omega)])
          clear hst h32
          go_wp2
          go_ret
          exact ⟨by rw [HE.out, ← HT.out, HS.out]; rfl, hbw2⟩
        · have f32 : (((Utf8.decode s k).1 : Int) == 32) = false := by simp; omega
          have HT := Lib.hid (hst.2 (fun e => h32 e.2))
          clear hst h32
          by_cases h35 : (Utf8.decode s k).1 = 35
          · have f35 : (((Utf8.decode s k).1 : Int) == 35) = true := by simp; omega
            rw [decide_eq_true h35] at HT
            clear h35
            go_wp2
            go_roundw
            case rel => exact ⟨_, true, rfl, hwd, hit2, hbw2, by rw [← HT.out]; exact HS.out⟩
            case measure => simp only [World.iterPos, hit2, Hit.out]; omega
          · have f35 : (((Utf8.decode s k).1 : Int) == 35) = false := by simp; omega
            rw [decide_eq_false h35] at HT
            clear h35
            go_wp2
            go_roundw
            case rel => exact ⟨_, false, rfl, hwd, hit2, hbw2, by rw [← HT.out]; exact HS.out⟩
            case measure => simp only [World.iterPos, hit2, Hit.out]; omega
      | false =>
        have HT := Lib.hid (hst.2 (fun e => by cases e.1))
        clear hst
        by_cases h35 : (Utf8.decode s k).1 = 35
        · have f35 : (((Utf8.decode s k).1 : Int) == 35) = true := by simp; omega
          rw [decide_eq_true h35] at HT
          clear h35
          go_wp2
          go_roundw
          case rel => exact ⟨_, true, rfl, hwd, hit2, hbw2, by rw [← HT.out]; exact HS.out⟩
          case measure => simp only [World.iterPos, hit2, Hit.out]; omega
        · have f35 : (((Utf8.decode s k).1 : Int) == 35) = false := by simp; omega
          rw [decide_eq_false h35] at HT
          clear h35
          go_wp2
          go_roundw
          case rel => exact ⟨_, false, rfl, hwd, hit2, hbw2, by rw [← HT.out]; exact HS.out⟩
          case measure => simp only [World.iterPos, hit2, Hit.out]; omega
    · have hnx : ∀ ty, (Instr.next (.pointer (some ⟨w.heap.size, 0, none⟩)) true ty).run Tryz.prog wr = _ := fun ty => Lib.run_next_end_at wr w.heap.size s k ty hit hp
      obtain rfl : k = s.size := by omega
      have hl : s.data.toList.length = s.size := by simp
      have HF := Lib.hid (show s = ⟨(hdSign s.data.toList).toArray⟩ from by
        rw [List.take_of_length_le (by omega), List.drop_eq_nil_of_le (by omega)] at hF
        rw [show hdSignF r [] = [] from by cases r <;> rfl, List.append_nil] at hF
        rw [← hF])
      clear hF
      go_wp2
      go_ret
      exact ⟨by rw [← HF.out]; rfl, hbw⟩

end Go.Proofs.YtkcmhdkhdjmjeaaGreatDoor

namespace Go.Proofs.YtkcmhdkhdjmjeaaGreatDoor
open Go.RowKit
set_option linter.unusedSimpArgs false
set_option linter.unusedVariables false
set_option maxRecDepth 100000

section
variable {w w' : World} {b ca lb me : Nat} {A : Option Addr} {ns : List Txt} {R : Rel}
theorem sees_one (h : SeerAt w b A ca lb ns R me) (x : Txt) :
    Calls Tryz.prog 8 #[.pointer (some ⟨b, 0, none⟩), .slice (some ⟨w.heap.size, 0, none⟩) 1 1] (w.alloc (.cells #[.string ⟨x.toArray⟩] 9)) fun e w' => e = .returned (.bool (svL ns R me x)) ∧ Below w.heap.size w w' := by
  have b0 : Below w.heap.size w (w.alloc (.cells #[.string ⟨x.toArray⟩] 9)) := (Below.refl _ w).alloc (Nat.le_refl _) _
  have hr := rowOf_lit w 9 (strs [x]) (by rw [strs_length]; show 1 ≤ maxLen; decide)
  have h1 := h.below b0
  rw [← seesL_one h.L h.pos h.lt]
  exact (sees_any h1 (some ⟨w.heap.size, 0, none⟩) 1 [x] hr).mono fun e w' ⟨he, hb⟩ => ⟨he, b0.then hb⟩
/-- What is seen within labels. -/
def underP (ns : List Txt) (R : Rel) (me : Nat) (ls : List Txt) : Sv := fun x => seesL ns R me ls && svL ns R me x

/-! ### The pieces, as they are emptied -/
def qL (p : Sv) (P : List Pc) (k : Nat) : List Pc := (P.take k).map (empPc p) ++ P.drop k
theorem qL_zero (p : Sv) (P : List Pc) : qL p P 0 = P := by simp [qL]
theorem qL_end (p : Sv) (P : List Pc) : qL p P P.length = P.map (empPc p) := by simp [qL]
theorem qL_len (p : Sv) (P : List Pc) (k : Nat) : (qL p P k).length = P.length := by simp [qL]; omega
theorem qL_get (p : Sv) (P : List Pc) (k : Nat) (h : k < P.length) : (qL p P k)[k]'(by rw [qL_len]; exact h) = P[k] := by
  unfold qL
  rw [List.getElem_append_right (by simp; omega)]
  simp [Nat.min_eq_left (Nat.le_of_lt h)]
theorem qL_succ (p : Sv) (P : List Pc) (k : Nat) (h : k < P.length) : qL p P (k + 1) = (qL p P k).set k (empPc p P[k]) := by
  unfold qL
  rw [List.take_succ_eq_append_getElem h, List.map_append, List.append_assoc, List.set_append_right _ _ (by simp; omega)]
  congr 1
  rw [List.length_map, List.length_take, Nat.min_eq_left (Nat.le_of_lt h), Nat.sub_self, List.drop_eq_getElem_cons h]
  rfl
theorem qL_same (p : Sv) (P : List Pc) (k : Nat) (h : k < P.length) (he : empPc p P[k] = P[k]) : qL p P (k + 1) = qL p P k := by
  rw [qL_succ p P k h, he]
  have h2 := @List.set_getElem_self _ (qL p P k) k (by rw [qL_len]; exact h)
  rw [qL_get p P k h] at h2
  exact h2
theorem pcsC_set : ∀ (P : List Pc) (k : Nat) (h : k < P.length) (u : Txt), pcsC (P.set k { P[k] with txt := u }) = (pcsC P).set (k * 3 + 2) (.string ⟨u.toArray⟩)
  | x :: P, 0, h, u => rfl
  | x :: P, k + 1, h, u => by
    have ih := pcsC_set P k (by simpa using h) u
    have e : ∀ (x : Pc) (P : List Pc), pcsC (x :: P) = .bool x.sp :: .string ⟨x.lab.toArray⟩ :: .string ⟨x.txt.toArray⟩ :: pcsC P := fun x P => rfl
    rw [List.set_cons_succ, e, e, show (k + 1) * 3 + 2 = (k * 3 + 2) + 1 + 1 + 1 from by omega]
    simp only [List.set_cons_succ, List.getElem_cons_succ]
    rw [ih]
def LnRel (p : Sv) (P : List Pc) (v : Value) (w : World) (i : Value) (wr : World) : Prop :=
  ∃ k : Nat, i = .int .i64 k ∧ k ≤ P.length ∧ wr.ownsRow w.heap.size 76 3 v P.length (pcsC (qL p P k)) ∧ Below w.heap.size w wr

set_option maxHeartbeats 8000000 in
theorem line_any (h : SeerAt w b A ca lb ns R me) (hml : MaxL w) (l : ByteArray) (hs : l.size ≤ 100000) (B : Option Addr) (cb : Nat) (ls : List Txt) (hrow : RowOf w B cb (strs ls)) :
    Calls Tryz.prog 11 #[.pointer (some ⟨b, 0, none⟩), .string l, .slice B ls.length cb] w fun e w' => e = .returned (.string ⟨(lineL (underP ns R me ls) l.data.toList).toArray⟩) ∧ Below w.heap.size w w' := by
  have cn := isNone_any h
  have cs := sees_any h B cb ls hrow
  have hl : l.data.toList.length = l.size := by simp
  have HS := Lib.hid h
  have HM := Lib.hid hml
  clear h hml
  go_enter Tryz.func11, Tryz.ntmps11
  go_wp2_with fail
  refine cn.mono ?_
  rintro e w1 ⟨rfl, hw1⟩
  have hw1 := hw1.symm
  subst hw1
  go_wp2_with fail
  refine cs.mono ?_
  rintro e w1 ⟨rfl, b1⟩
  have HS1 := Lib.hid (HS.out.below b1)
  have HM1 := Lib.hid (HM.out.below b1)
  have HB1 := Lib.hid b1
  clear b1 cs cn
  have ch := heading_any l w1 (by omega)
  generalize hin : seesL ns R me ls = ins at *
  rcases line_cases l.data.toList with ⟨hn, hp⟩ | ⟨t, lab, k, he, hb1, hb2, hh, hp⟩
  · rw [hn] at ch
    unfold headV at ch
    dsimp only at ch
    have HF := Lib.hid (hp (underP ns R me ls))
    clear hn hp
    go_wp2_with fail
    refine ch.mono ?_
    rintro e w2 ⟨rfl, b2⟩
    have HS2 := Lib.hid (HS1.out.below b2)
    have HB2 := Lib.hid (HB1.out.then b2)
    have cp := spans_any l w2 hs (HM1.out.below b2)
    clear b2 ch
    go_wp2_with fail
    refine cp.mono ?_
    rintro e w3 ⟨v, rfl, hown, b3⟩
    have HB3 := Lib.hid (HB2.out.then b3)
    have hB2 := HB2.out.size
    obtain ⟨A3, c3, rfl, hat3⟩ := PcAt.own hown
    have hle3 := hat3.le
    have hcm3 := hat3.cap
    unfold maxLen at hcm3
    have hown3 := own_low hown hB2
    have HF2 := Lib.hid (show lineL (underP ns R me ls) l.data.toList = unspanL ((spansL l.data.toList).map (empPc (underP ns R me ls))) from HF.out)
    have HLe := Lib.hid (empL_len (underP ns R me ls) _ l.data.toList (Nat.le_refl _))
    clear hown b3 hat3 cp
    generalize hPP : spansL l.data.toList = P at *
    have HPP := Lib.hid hPP
    clear hPP
    go_wp2_with fail
    go_loopw [48] (fun i wr => LnRel (underP ns R me ls) P (.slice A3 P.length c3) w i wr) (fun i _ => P.length - (intOf i).toNat)
    case atStart => exact ⟨0, rfl, Nat.zero_le _, by rw [qL_zero]; exact hown3, HB3.out⟩
    case round =>
      obtain ⟨k, rfl, hk, hown, hbw⟩ := hrel
      by_cases hp : k < P.length
      · obtain ⟨g, cap, cur, e, hBg, hglt, hnc, hcm, hblk, hcell⟩ := own_block hown (by omega)
        cases e
        have hqk : (qL (underP ns R me ls) P k)[k]'(by rw [qL_len]; exact hp) = P[k] := qL_get _ _ _ hp
        have hq0 := pcsC_get (qL (underP ns R me ls) P k) k (by rw [qL_len]; exact hp)
        rw [hqk] at hq0
        have x0 := hcell _ _ (hq0 0 _ rfl)
        have x1 := hcell _ _ (hq0 1 _ rfl)
        have x2 := hcell _ _ (hq0 2 _ rfl)
        have HSr := Lib.hid (HS.out.below hbw)
        have HBw := Lib.hid hbw
        have HOw := Lib.hid hown
        have HBlk := Lib.hid hblk
        have HSu := Lib.hid (qL_succ (underP ns R me ls) P k hp)
        have HSm := Lib.hid (qL_same (underP ns R me ls) P k hp)
        have HSt := Lib.hid (fun u => by
          have h1 := pcsC_set (qL (underP ns R me ls) P k) k (by rw [qL_len]; exact hp) u
          rw [hqk] at h1
          exact h1)
        clear hown hblk hcell hq0 hbw hown3 hqk
        generalize P[k] = x at *
        obtain ⟨sp, plab, ptxt⟩ := x
        simp only [Nat.add_zero] at x0 x1 x2
        cases sp with
        | false =>
          go_wp2_with fail
          refine ⟨⟨k + 1, by go_num, by omega, ?_, HBw.out.alloc HBw.out.size _⟩, by simp [intOf]; omega⟩
          rw [HSm.out (by simp [empPc])]
          exact HOw.out.alloc _
        | true =>
          have hb0 : Below wr.heap.size wr (wr.alloc (.cells #[.bool true, .string ⟨plab.toArray⟩, .string ⟨ptxt.toArray⟩] 76)) := (Below.refl _ wr).alloc (Nat.le_refl _) _
          have hs0 := alloc_size wr (.cells #[.bool true, .string ⟨plab.toArray⟩, .string ⟨ptxt.toArray⟩] 76)
          have hB0 := hb0
          rw [← alloc_size wr (.cells #[.bool true, .string ⟨plab.toArray⟩, .string ⟨ptxt.toArray⟩] 76)] at hs0
          have hbx := box3 (w := wr) (a := .bool true) (b := .string ⟨plab.toArray⟩) (c := .string ⟨ptxt.toArray⟩) (t := 76) (Below.refl _ _)
          have HS0 := Lib.hid (HSr.out.below hb0)
          have HOw0 := Lib.hid (HOw.out.alloc (.cells #[.bool true, .string ⟨plab.toArray⟩, .string ⟨ptxt.toArray⟩] 76))
          have HBw0 := Lib.hid (HBw.out.then hb0)
          have HBlk0 := Lib.hid ((hb0.block g hglt).trans HBlk.out)
          have hglt0 : g < (wr.alloc (.cells #[.bool true, .string ⟨plab.toArray⟩, .string ⟨ptxt.toArray⟩] 76)).heap.size := by rw [alloc_size]; omega
          have hlen3 : k * 3 + 2 < (pcsC (qL (underP ns R me ls) P k)).length := by rw [pcsC_length, qL_len]; omega
          have HEm := Lib.hid (show empPc (underP ns R me ls) ⟨true, plab, ptxt⟩ = ⟨true, plab, if ins && svL ns R me plab then ptxt else []⟩ from by rw [empPc_span]; unfold empT underP; rw [hin])
          have hfz0 := own_frozen HBlk0.out (k * 3 + 2)
          have hx20 := (hb0.cell (p := ⟨g, k * 3 + 2, none⟩) hglt).trans x2
          have HSt2 := Lib.hid (show (svL ns R me plab && ins) = false → pcsC (qL (underP ns R me ls) P (k + 1)) = (pcsC (qL (underP ns R me ls) P k)).set (k * 3 + 2) (.string ⟨#[]⟩) from by
            intro e
            rw [HSu.out, HEm.out, ← HSt.out, show (ins && svL ns R me plab) = false from by rw [Bool.and_comm]; exact e]
            rfl)
          clear hb0 hB0
          cases ins with
          | false =>
            have HFin := Lib.hid (HSt2.out (by simp))
            go_wp2_with fail
            refine ⟨⟨k + 1, by go_num, by omega, ?_, (HBw.out.setCell (p := ⟨g, k * 3 + 2, none⟩) hBg _).alloc (HBw.out.setCell (p := ⟨g, k * 3 + 2, none⟩) hBg (.string ⟨#[]⟩)).size _⟩, by simp [intOf]; omega⟩
            rw [HFin.out]
            exact (own_store HOw.out hlen3 _).alloc _
          | true =>
            have co := sees_one HS0.out plab
            rw [alloc_size wr] at co
            cases hsv : svL ns R me plab with
            | true =>
              rw [hsv] at co
              have HFin := Lib.hid (HSm.out (by rw [HEm.out, hsv]; rfl))
              clear hsv
              go_wp2_with fail
              refine co.mono ?_
              rintro e w4 ⟨rfl, b4⟩
              rw [← alloc_size wr (.cells #[.bool true, .string ⟨plab.toArray⟩, .string ⟨ptxt.toArray⟩] 76)] at b4
              go_wp2_with fail
              refine ⟨⟨k + 1, by go_num, by omega, ?_, HBw0.out.then b4⟩, by simp [intOf]; omega⟩
              rw [HFin.out]
              exact ownsRow_below HOw0.out b4
            | false =>
              rw [hsv] at co
              have HFin := Lib.hid (HSt2.out (by rw [hsv]; rfl))
              clear hsv
              go_wp2_with fail
              refine co.mono ?_
              rintro e w4 ⟨rfl, b4⟩
              rw [← alloc_size wr (.cells #[.bool true, .string ⟨plab.toArray⟩, .string ⟨ptxt.toArray⟩] 76)] at b4
              have hblk4 := (b4.block g hglt0).trans HBlk0.out
              have hfz4 := own_frozen hblk4 (k * 3 + 2)
              have hx24 := (b4.cell (p := ⟨g, k * 3 + 2, none⟩) hglt0).trans hx20
              have HB4 := Lib.hid (HBw0.out.then b4)
              have HO4 := Lib.hid (ownsRow_below HOw0.out b4)
              clear b4 hblk4
              go_wp2_with fail
              refine ⟨⟨k + 1, by go_num, by omega, ?_, HB4.out.setCell (p := ⟨g, k * 3 + 2, none⟩) hBg _⟩, by simp [intOf]; omega⟩
              rw [HFin.out]
              exact own_store HO4.out hlen3 _
      · obtain rfl : k = P.length := by omega
        rw [qL_end] at hown
        have hlen : (P.map (empPc (underP ns R me ls))).length = P.length := by simp
        rw [← hlen] at hown
        obtain ⟨A5, c5, e5, hat5⟩ := PcAt.own hown
        have cu := unspan_any A5 c5 _ wr hat5 (by rw [← HF2.out, HF.out]; have := HLe.out; omega)
        rw [← HF2.out, hlen] at cu
        rw [hlen] at e5
        rw [← e5] at cu
        clear hown hlen hat5
        go_wp2_with fail
        refine cu.mono ?_
        rintro e w5 ⟨rfl, b5⟩
        go_wp2
        go_ret
        exact ⟨rfl, hbw.then b5⟩
  · rw [hh] at ch
    unfold headV at ch
    dsimp only at ch
    have HP := Lib.hid (hp (underP ns R me ls))
    have HE := Lib.hid he
    have HB := Lib.hid hb1
    have htl : t.length ≤ l.size := by
      have := congrArg List.length he
      rw [List.length_append] at this
      omega
    have HNo := Lib.hid (show (ins && svL ns R me lab) = false → lineL (underP ns R me ls) l.data.toList = hdSign t ++ labTail lab 0 from by
      intro e
      rw [HP.out, if_neg]
      unfold underP
      rw [hin, e]; simp)
    have HYes := Lib.hid (show (ins && svL ns R me lab) = true → lineL (underP ns R me ls) l.data.toList = empL (underP ns R me ls) l.data.toList from by
      intro e
      rw [HP.out, if_pos]
      unfold underP
      rw [hin, e])
    have HLab := Lib.hid hb2
    clear he hb1 hb2 hh hp
    have hsz := str_size t
    have csg := fun w' => headSign_any ⟨t.toArray⟩ w' (by omega)
    rw [show (⟨t.toArray⟩ : ByteArray).data.toList = t from rfl] at csg
    have hex := ext_tail l t.length
    have hez := ext_size_le l t.length l.size
    have HTail := Lib.hid (show trimR (l.extract t.length l.size).data.toList = labTail lab 0 from by rw [hex, HE.out, List.drop_left, trimR_tail])
    have ctr := fun w' => Tryz.strings_TrimRight_one (l.extract t.length l.size) 32 (by decide) w' (by omega)
    rw [show Lib.trimRightB (l.extract t.length l.size).data.toList 32 = trimR (l.extract t.length l.size).data.toList from rfl, HTail.out] at ctr
    have hsl : ∀ W, (Instr.slice 9 (.string l) (some (.int .i64 (t.length : Int))) none none).run Tryz.prog W = .ok (.string (l.extract t.length l.size)) W := fun W => by
      have := run_slice_string_l (P := Tryz.prog) W 9 l Tryz.underlying9 .i64 (t.length : Int) (by omega) (by omega)
      rw [Int.toNat_natCast] at this
      exact this
    have hcat := fun W => run_string_add_sum (P := Tryz.prog) W (⟨(hdSign t).toArray⟩ : ByteArray) (⟨(labTail lab 0).toArray⟩ : ByteArray) (by
      obtain ⟨_, _, ⟨r, hr⟩, _⟩ := hdSign_shape HB.out
      have h1 := congrArg List.length hr
      have h2 := congrArg List.length HE.out
      rw [List.length_append] at h1 h2
      rw [str_size, str_size]
      simp only [labTail, List.length_append, List.length_cons, List.length_replicate, List.length_nil] at h2 ⊢
      omega)
    clear hex hez
    cases ins with
    | false =>
      have HF := Lib.hid (HNo.out rfl)
      go_wp2_with fail
      refine ch.mono ?_
      rintro e w2 ⟨rfl, b2⟩
      have HB2 := Lib.hid (HB1.out.then b2)
      clear b2 ch
      have hS := (Below.refl w2.heap.size w2).drew
      have HC1 := Lib.hid (fun W (hW : Below w2.heap.size w2 W) => (csg W).mono fun e w' (h : e = _ ∧ Below W.heap.size W w') => (⟨h.1, hW.then h.2⟩ : e = _ ∧ Below w2.heap.size w2 w'))
      have HC2 := Lib.hid (fun W (hW : Below w2.heap.size w2 W) => (ctr W).mono fun e w' (h : e = _ ∧ w' = W) => (⟨h.1, by rw [h.2]; exact hW⟩ : e = _ ∧ Below w2.heap.size w2 w'))
      clear csg ctr
      go_wp2_with fail
      go_region_held3 (fun W => Below w2.heap.size w2 W) (assumption) (first | (go_at_call 37; (with_reducible refine (HC1.out _ (by assumption)).mono ?_); rintro e w5 ⟨rfl, hS5⟩) | (go_at_call 38; (with_reducible refine (HC2.out _ (by assumption)).mono ?_); rintro e w6 ⟨rfl, hS6⟩))
      go_wp2
      go_ret
      exact ⟨by rw [HF.out]; exact ret_string (by rw [str_append]), HB2.out.then hS6⟩
    | true =>
      go_wp2_with fail
      refine ch.mono ?_
      rintro e w2 ⟨rfl, b2⟩
      have HB2 := Lib.hid (HB1.out.then b2)
      have co := sees_one (HS1.out.below b2) lab
      cases hsv : svL ns R me lab with
      | false =>
        have HF := Lib.hid (HNo.out (by rw [hsv]; rfl))
        rw [hsv] at co
        clear b2 ch hsv
        go_wp2_with fail
        refine co.mono ?_
        rintro e w3 ⟨rfl, b3⟩
        have HB3 := Lib.hid (HB2.out.then b3)
        clear b3 co
        have hS := (Below.refl w3.heap.size w3).drew
        have HC1 := Lib.hid (fun W (hW : Below w3.heap.size w3 W) => (csg W).mono fun e w' (h : e = _ ∧ Below W.heap.size W w') => (⟨h.1, hW.then h.2⟩ : e = _ ∧ Below w3.heap.size w3 w'))
        have HC2 := Lib.hid (fun W (hW : Below w3.heap.size w3 W) => (ctr W).mono fun e w' (h : e = _ ∧ w' = W) => (⟨h.1, by rw [h.2]; exact hW⟩ : e = _ ∧ Below w3.heap.size w3 w'))
        clear csg ctr
        go_wp2_with fail
        go_region_held3 (fun W => Below w3.heap.size w3 W) (assumption) (first | (go_at_call 37; (with_reducible refine (HC1.out _ (by assumption)).mono ?_); rintro e w5 ⟨rfl, hS5⟩) | (go_at_call 38; (with_reducible refine (HC2.out _ (by assumption)).mono ?_); rintro e w6 ⟨rfl, hS6⟩))
        go_wp2
        go_ret
        exact ⟨by rw [HF.out]; exact ret_string (by rw [str_append]), HB3.out.then hS6⟩
      | true =>
        have HF := Lib.hid (HYes.out (by rw [hsv]; rfl))
        rw [hsv] at co
        clear csg ctr hsl
        have b2x := b2
        clear b2 ch hsv
        go_wp2_with fail
        refine co.mono ?_
        rintro e w9 ⟨rfl, b9x⟩
        have b9 := b2x.then b9x
        clear b9x b2x HB2 co
        have HS2 := Lib.hid (HS1.out.below b9)
        have HB2 := Lib.hid (HB1.out.then b9)
        have cp := spans_any l w9 hs (HM1.out.below b9)
        clear b9
        go_wp2_with fail
        refine cp.mono ?_
        rintro e w3 ⟨v, rfl, hown, b3⟩
        have HB3 := Lib.hid (HB2.out.then b3)
        have hB2 := HB2.out.size
        obtain ⟨A3, c3, rfl, hat3⟩ := PcAt.own hown
        have hle3 := hat3.le
        have hcm3 := hat3.cap
        unfold maxLen at hcm3
        have hown3 := own_low hown hB2
        have HF2 := Lib.hid (show lineL (underP ns R me ls) l.data.toList = unspanL ((spansL l.data.toList).map (empPc (underP ns R me ls))) from HF.out)
        have HLe := Lib.hid (empL_len (underP ns R me ls) _ l.data.toList (Nat.le_refl _))
        clear hown b3 hat3 cp
        generalize hPP : spansL l.data.toList = P at *
        have HPP := Lib.hid hPP
        clear hPP
        go_wp2_with fail
        go_loopw [48] (fun i wr => LnRel (underP ns R me ls) P (.slice A3 P.length c3) w i wr) (fun i _ => P.length - (intOf i).toNat)
        case atStart => exact ⟨0, rfl, Nat.zero_le _, by rw [qL_zero]; exact hown3, HB3.out⟩
        case round =>
          obtain ⟨k, rfl, hk, hown, hbw⟩ := hrel
          by_cases hp : k < P.length
          · obtain ⟨g, cap, cur, e, hBg, hglt, hnc, hcm, hblk, hcell⟩ := own_block hown (by omega)
            cases e
            have hqk : (qL (underP ns R me ls) P k)[k]'(by rw [qL_len]; exact hp) = P[k] := qL_get _ _ _ hp
            have hq0 := pcsC_get (qL (underP ns R me ls) P k) k (by rw [qL_len]; exact hp)
            rw [hqk] at hq0
            have x0 := hcell _ _ (hq0 0 _ rfl)
            have x1 := hcell _ _ (hq0 1 _ rfl)
            have x2 := hcell _ _ (hq0 2 _ rfl)
            have HSr := Lib.hid (HS.out.below hbw)
            have HBw := Lib.hid hbw
            have HOw := Lib.hid hown
            have HBlk := Lib.hid hblk
            have HSu := Lib.hid (qL_succ (underP ns R me ls) P k hp)
            have HSm := Lib.hid (qL_same (underP ns R me ls) P k hp)
            have HSt := Lib.hid (fun u => by
              have h1 := pcsC_set (qL (underP ns R me ls) P k) k (by rw [qL_len]; exact hp) u
              rw [hqk] at h1
              exact h1)
            clear hown hblk hcell hq0 hbw hown3 hqk
            generalize P[k] = x at *
            obtain ⟨sp, plab, ptxt⟩ := x
            simp only [Nat.add_zero] at x0 x1 x2
            cases sp with
            | false =>
              go_wp2_with fail
              refine ⟨⟨k + 1, by go_num, by omega, ?_, HBw.out.alloc HBw.out.size _⟩, by simp [intOf]; omega⟩
              rw [HSm.out (by simp [empPc])]
              exact HOw.out.alloc _
            | true =>
              have hb0 : Below wr.heap.size wr (wr.alloc (.cells #[.bool true, .string ⟨plab.toArray⟩, .string ⟨ptxt.toArray⟩] 76)) := (Below.refl _ wr).alloc (Nat.le_refl _) _
              have hs0 := alloc_size wr (.cells #[.bool true, .string ⟨plab.toArray⟩, .string ⟨ptxt.toArray⟩] 76)
              have hB0 := hb0
              rw [← alloc_size wr (.cells #[.bool true, .string ⟨plab.toArray⟩, .string ⟨ptxt.toArray⟩] 76)] at hs0
              have hbx := box3 (w := wr) (a := .bool true) (b := .string ⟨plab.toArray⟩) (c := .string ⟨ptxt.toArray⟩) (t := 76) (Below.refl _ _)
              have HS0 := Lib.hid (HSr.out.below hb0)
              have HOw0 := Lib.hid (HOw.out.alloc (.cells #[.bool true, .string ⟨plab.toArray⟩, .string ⟨ptxt.toArray⟩] 76))
              have HBw0 := Lib.hid (HBw.out.then hb0)
              have HBlk0 := Lib.hid ((hb0.block g hglt).trans HBlk.out)
              have hglt0 : g < (wr.alloc (.cells #[.bool true, .string ⟨plab.toArray⟩, .string ⟨ptxt.toArray⟩] 76)).heap.size := by rw [alloc_size]; omega
              have hlen3 : k * 3 + 2 < (pcsC (qL (underP ns R me ls) P k)).length := by rw [pcsC_length, qL_len]; omega
              have HEm := Lib.hid (show empPc (underP ns R me ls) ⟨true, plab, ptxt⟩ = ⟨true, plab, if true && svL ns R me plab then ptxt else []⟩ from by rw [empPc_span]; unfold empT underP; rw [hin])
              have hfz0 := own_frozen HBlk0.out (k * 3 + 2)
              have hx20 := (hb0.cell (p := ⟨g, k * 3 + 2, none⟩) hglt).trans x2
              have HSt2 := Lib.hid (show (svL ns R me plab && true) = false → pcsC (qL (underP ns R me ls) P (k + 1)) = (pcsC (qL (underP ns R me ls) P k)).set (k * 3 + 2) (.string ⟨#[]⟩) from by
                intro e
                rw [HSu.out, HEm.out, ← HSt.out, show (true && svL ns R me plab) = false from by rw [Bool.and_comm]; exact e]
                rfl)
              clear hb0 hB0
              have co := sees_one HS0.out plab
              rw [alloc_size wr] at co
              cases hsv : svL ns R me plab with
              | true =>
                rw [hsv] at co
                have HFin := Lib.hid (HSm.out (by rw [HEm.out, hsv]; rfl))
                clear hsv
                go_wp2_with fail
                refine co.mono ?_
                rintro e w4 ⟨rfl, b4⟩
                rw [← alloc_size wr (.cells #[.bool true, .string ⟨plab.toArray⟩, .string ⟨ptxt.toArray⟩] 76)] at b4
                go_wp2_with fail
                refine ⟨⟨k + 1, by go_num, by omega, ?_, HBw0.out.then b4⟩, by simp [intOf]; omega⟩
                rw [HFin.out]
                exact ownsRow_below HOw0.out b4
              | false =>
                rw [hsv] at co
                have HFin := Lib.hid (HSt2.out (by rw [hsv]; rfl))
                clear hsv
                go_wp2_with fail
                refine co.mono ?_
                rintro e w4 ⟨rfl, b4⟩
                rw [← alloc_size wr (.cells #[.bool true, .string ⟨plab.toArray⟩, .string ⟨ptxt.toArray⟩] 76)] at b4
                have hblk4 := (b4.block g hglt0).trans HBlk0.out
                have hfz4 := own_frozen hblk4 (k * 3 + 2)
                have hx24 := (b4.cell (p := ⟨g, k * 3 + 2, none⟩) hglt0).trans hx20
                have HB4 := Lib.hid (HBw0.out.then b4)
                have HO4 := Lib.hid (ownsRow_below HOw0.out b4)
                clear b4 hblk4
                go_wp2_with fail
                refine ⟨⟨k + 1, by go_num, by omega, ?_, HB4.out.setCell (p := ⟨g, k * 3 + 2, none⟩) hBg _⟩, by simp [intOf]; omega⟩
                rw [HFin.out]
                exact own_store HO4.out hlen3 _
          · obtain rfl : k = P.length := by omega
            rw [qL_end] at hown
            have hlen : (P.map (empPc (underP ns R me ls))).length = P.length := by simp
            rw [← hlen] at hown
            obtain ⟨A5, c5, e5, hat5⟩ := PcAt.own hown
            have cu := unspan_any A5 c5 _ wr hat5 (by rw [← HF2.out, HF.out]; have := HLe.out; omega)
            rw [← HF2.out, hlen] at cu
            rw [hlen] at e5
            rw [← e5] at cu
            clear hown hlen hat5
            go_wp2_with fail
            refine cu.mono ?_
            rintro e w5 ⟨rfl, b5⟩
            go_wp2
            go_ret
            exact ⟨rfl, hbw.then b5⟩
end

end Go.Proofs.YtkcmhdkhdjmjeaaGreatDoor

namespace Go.Proofs.YtkcmhdkhdjmjeaaGreatDoor
open Go.RowKit
set_option linter.unusedSimpArgs false
set_option linter.unusedVariables false
set_option maxRecDepth 100000

section
variable {w w' : World} {b ca lb me : Nat} {A : Option Addr} {ns : List Txt} {R : Rel}
theorem under_nil (h : SeerAt w b A ca lb ns R me) : underP ns R me [] = svL ns R me := by
  funext x
  unfold underP
  rw [seesL_all h.L h.pos h.lt]
  rfl
def LnsRel (p : Sv) (ls : List Txt) (w : World) (v i : Value) (wr : World) : Prop :=
  ∃ k : Nat, i = .int .i64 k ∧ k ≤ ls.length ∧ wr.ownsRow w.heap.size 9 1 v ((ls.take k).map (lineL p)).length (strs ((ls.take k).map (lineL p))) ∧ Below w.heap.size w wr

set_option maxHeartbeats 4000000 in
theorem emptiedLines_any (h : SeerAt w b A ca lb ns R me) (hml : MaxL w) (A0 : Option Addr) (c0 : Nat) (ls : List Txt) (hrow : RowOf w A0 c0 (strs ls)) (hz : ∀ y ∈ ls, y.length ≤ 100000) (hm : ls.length ≤ 1000000) :
    Calls Tryz.prog 73 #[.pointer (some ⟨b, 0, none⟩), .slice A0 ls.length c0] w fun e w' =>
      ∃ v, e = .returned v ∧ w'.ownsRow w.heap.size 9 1 v (ls.map (lineL (svL ns R me))).length (strs (ls.map (lineL (svL ns R me)))) ∧ Below w.heap.size w w' := by
  obtain ⟨i0, hi, hz0, hz1, hz2⟩ := info_parts infoString
  have hcl := hrow.1
  have hcm := hrow.2.1
  rw [strs_length] at hcl
  unfold maxLen at hcm
  have HZ := Lib.hid hz
  have HS := Lib.hid h
  have HM := Lib.hid hml
  have HU := Lib.hid (under_nil h)
  clear hz h hml
  go_enter Tryz.func73, Tryz.ntmps73
  go_wp2_with fail
  go_loopw [5, 10] (fun v i wr => LnsRel (svL ns R me) ls w v i wr) (fun _ i _ => ls.length - (intOf i).toNat)
  case atStart => exact ⟨0, rfl, Nat.zero_le _, World.ownsRow_nil _ _ _ _, Below.refl _ _⟩
  case round =>
    obtain ⟨k, rfl, hk, hown, hbw⟩ := hrel
    by_cases hp : k < ls.length
    · obtain ⟨b1, o1, rfl, hl1, hc⟩ := (hrow.below hbw).cellAt hp
      have hsz := HZ.out ls[k] (List.getElem_mem hp)
      rw [← str_size] at hsz
      have cl := line_any (HS.out.below hbw) (HM.out.below hbw) ⟨ls[k].toArray⟩ hsz none 0 [] (rowOf_nil none)
      rw [HU.out, show (⟨ls[k].toArray⟩ : ByteArray).data.toList = ls[k] from rfl] at cl
      have HT := Lib.hid (show (ls.take (k + 1)).map (lineL (svL ns R me)) = (ls.take k).map (lineL (svL ns R me)) ++ [lineL (svL ns R me) ls[k]] from by rw [List.take_succ_eq_append_getElem hp, List.map_append]; rfl)
      have hll : ((ls.take k).map (lineL (svL ns R me))).length = k := by simp; omega
      have HBw := Lib.hid hbw
      have hsB := hbw.size
      generalize lineL (svL ns R me) ls[k] = x at *
      generalize (ls.take k).map (lineL (svL ns R me)) = L at *
      clear hbw hsz
      go_wp2_with fail
      refine cl.mono ?_
      rintro e w2 ⟨rfl, b2⟩
      have hs2 := b2.size
      have hown2 := ownsRow_below hown b2
      have hnw := cells_one w2 (.string ⟨x.toArray⟩) 9
      have hrow2 := hown2.alloc (.cells #[.string ⟨x.toArray⟩] 9)
      have HB2 := Lib.hid (HBw.out.then b2)
      have hllb := Nat.le_of_eq hll
      clear b2 cl hown hll
      go_wp2_with (at_builtin; refine wpList_append_own _ rfl _ _ 22 rfl w.heap.size 9 i0 (.string ByteArray.empty) 1 16 Tryz.underlying22 hi hz0 hz1 hz2 rfl (by decide) _ _ _ rfl hrow2 ⟨w2.heap.size, 0, none⟩ 1 1 [.string ⟨x.toArray⟩] rfl rfl hnw (by simp [Value.oneCell']) (by unfold maxLen; omega) (by omega) (by simp; omega) ?_)
      intro v' w3 hown' hgrow _
      rw [show strs L ++ [Value.string ⟨x.toArray⟩] = strs (L ++ [x]) from (strs_append L [x]).symm] at hown'
      have b1 : Below w2.heap.size w2 (w2.alloc (.cells #[.string ⟨x.toArray⟩] 9)) := (Below.refl _ w2).alloc (Nat.le_refl _) _
      have hb3 := (HB2.out.trans (b1.mono (by omega))).trans (below_of_grown hgrow (fun g hg => (hrow2.lt g hg).1) (by simp; omega))
      have HO := Lib.hid (show w3.ownsRow w.heap.size 9 1 v' (L ++ [x]).length (strs (L ++ [x])) from by rw [List.length_append]; exact hown')
      have HB3 := Lib.hid hb3
      clear hown' hgrow hb3 b1 hrow2 hown2
      go_wp2
      go_roundw
      case rel => exact ⟨k + 1, by go_num, by omega, by rw [HT.out]; exact HO.out, HB3.out⟩
      case measure => simp [intOf]; omega
    · obtain rfl : k = ls.length := by omega
      rw [List.take_length] at hown
      go_wp2
      go_ret
      exact ⟨_, rfl, hown, hbw⟩
end

end Go.Proofs.YtkcmhdkhdjmjeaaGreatDoor

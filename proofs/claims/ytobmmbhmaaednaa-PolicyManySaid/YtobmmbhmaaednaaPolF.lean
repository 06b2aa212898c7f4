/-
  Package policy: Parse: what it answers, in plain words.
-/
import Derived.Test.YtobmmbhmaaednaaPolE
import Derived.Test.YtobmmbhmaaednaaLineJ
import Derived.Laws.ResultCell
namespace Go.Proofs.Ytobmmbhmaaednaa
open Go.RowKit
set_option linter.unusedSimpArgs false
set_option linter.unusedVariables false

theorem splitFrom_len : ∀ (l cur : List UInt8), (∀ y ∈ splitFrom cur l, y.length ≤ cur.length + l.length) ∧ (splitFrom cur l).length ≤ l.length + 1
  | [], cur => by
    by_cases h : cur = []
    · simp [splitFrom, h]
    · simp [splitFrom, h]
  | b :: l, cur => by
    by_cases h : b = 10
    · subst h
      rw [splitFrom_lf]
      obtain ⟨h1, h2⟩ := splitFrom_len l []
      refine ⟨fun y hy => ?_, by simp; omega⟩
      rw [List.mem_cons] at hy
      rcases hy with rfl | hy
      · omega
      · have := h1 y hy; simp at this ⊢; omega
    · rw [splitFrom, if_neg h]
      obtain ⟨h1, h2⟩ := splitFrom_len l (cur ++ [b])
      refine ⟨fun y hy => ?_, by simp; omega⟩
      have := h1 y hy; simp at this ⊢; omega
theorem takeL_le {st st' : St} {l : List UInt8} (h : takeL st l = some st') (h1 : st.1.length ≤ 64) : st'.1.length ≤ 64 ∧ st'.2.length ≤ st.2.length + 1 := by
  unfold takeL at h
  split at h
  · unfold addLv at h
    split at h
    · cases h
    · rename_i hn
      cases h
      simp only [List.length_append, List.length_cons, List.length_nil]
      omega
  · split at h
    · unfold addPr at h
      split at h
      · cases h
        simp only [List.length_append, List.length_cons, List.length_nil]
        omega
      · cases h
    · cases h

theorem RowOf.keeps {w w' : World} {b : Nat} {A : Option Addr} {cap : Nat} {xs : List Value} (h : RowOf w A cap xs) (hk : Keeps w.heap.size b w w') (hne : ∀ a, A = some a → a.block ≠ b) : RowOf w' A cap xs := by
  refine ⟨h.1, h.2.1, ?_⟩
  rcases h.2.2 with h1 | ⟨g, off, e, hg, hc⟩
  · exact Or.inl h1
  · refine Or.inr ⟨g, off, e, Nat.lt_of_lt_of_le hg hk.size, fun i hi => ?_⟩
    rw [World.cell?_of_block (w := w) (hk.block g hg (hne _ e))]
    exact hc i hi

def finP : Option St → Option St
  | none => none
  | some st => if st.1 = [] then none else some st
theorem parseS_fin (l : List UInt8) : parseS l = finP (parseFrom (splitL (textL l)) ([], [])) := rfl
/-- What Parse answers. -/
def ParseEnd (w : World) (o : Option St) (e : Ending) (w' : World) : Prop :=
  Below w.heap.size w w' ∧ match o with
  | none => e = .returned (.tuple #[.agg #[.slice none 0 0, .slice none 0 0], .int .i64 1])
  | some st => ∃ nv bv, e = .returned (.tuple #[.agg #[nv, bv], .int .i64 0]) ∧ w'.ownsRow w.heap.size 9 1 nv st.1.length (strs st.1) ∧ w'.ownsRow w.heap.size 41 2 bv st.2.length (prCells st.2)

def PRel (B b : Nat) (ls : List (List UInt8)) (w2 : World) (i : Value) (wr : World) : Prop :=
  ∃ (k : Nat) (st : St) (nv bv : Value), i = .int .i64 k ∧ k ≤ ls.length ∧ PolIs wr B b nv bv st ∧ parseFrom (ls.drop k) st = parseFrom ls ([], []) ∧ st.1.length ≤ 64 ∧ st.2.length ≤ k ∧ Keeps B b w2 wr

theorem blk_facts {W : World} {r : Nat} {u v : Value} {t : TypeId} (h : W.heap[r]? = some (.cells #[u, v] t (0, 0))) :
    W.cell? ⟨r, 0, none⟩ = some u ∧ W.cell? ⟨r, 1, none⟩ = some v ∧ W.frozen? ⟨r, 0, none⟩ = false ∧ W.frozen? ⟨r, 1, none⟩ = false :=
  ⟨(cell_of_row W r 0 _ _ (0, 0) h).trans rfl, (cell_of_row W r 1 _ _ (0, 0) h).trans rfl, by simp [World.frozen?, h], by simp [World.frozen?, h]⟩

theorem ret_policy {W : World} {r : Nat} {x y c : Value} {tmps : Array Value} (h : W.heap[r]? = some (.cells #[x, y] 25 (0, 0))) (h2 : tmps.getD 2 undef = .pointer (some ⟨r, 0, none⟩)) (h3 : tmps.getD 3 undef = c) :
    (results Try.f10 tmps).run Try.prog W = .ok (.tuple #[.agg #[x, y], c]) W := by
  obtain ⟨c0, c1, _, _⟩ := blk_facts h
  rw [results_cell_tmp rfl, h2, h3]
  go_simp

set_option maxHeartbeats 4000000 in
theorem parse_any (s : ByteArray) (w : World) (hs : s.size ≤ 100000) (hml : MaxL w) :
    Calls Try.prog 10 #[.string s] w (ParseEnd w (parseS s.data.toList)) := by
  have ct := fun w1 => text_any s w1 (by omega)
  rw [textB_segs] at ct
  have htl := textL_len s.data.toList
  rw [show s.data.toList.length = s.size from by simp] at htl
  have hP := parseS_fin s.data.toList
  generalize parseS s.data.toList = O at *
  have HSL := Lib.hid (splitFrom_len (textL s.data.toList) [])
  generalize textL s.data.toList = T at *
  have cs := fun w1 => split_any ⟨T.toArray⟩ w1 (by rw [str_size]; omega)
  rw [show (⟨T.toArray⟩ : ByteArray).data.toList = T from rfl] at cs
  rw [show splitFrom [] T = splitL T from rfl] at HSL
  have hn := HSL.out.2
  generalize splitL T = ls at *
  have HO := Lib.hid hP
  clear hP
  go_enter Try.func10, Try.ntmps10
  go_wp2_with fail
  refine (ct _).mono ?_
  rintro e w1 ⟨rfl, b1⟩
  go_wp2_with fail
  refine (cs _).mono ?_
  rintro e w2 ⟨v, rfl, hown, b2⟩
  obtain ⟨A, cap, rfl, hrow, _, hfar⟩ := RowOf.own hown
  have e0 : ((w.alloc (Obj.cells #[.slice none 0 0, .slice none 0 0] 25)).alloc (Obj.cells #[.slice none 0 0, .slice none 0 0] 25)).heap.size = w.heap.size + 2 := by simp
  have hs1 := b1.size
  have hs2 := b2.size
  rw [e0] at hs1
  have b12 := (b1.mono (Nat.le_refl _)).then b2
  have hr0 : ((w.alloc (Obj.cells #[.slice none 0 0, .slice none 0 0] 25)).alloc (Obj.cells #[.slice none 0 0, .slice none 0 0] 25)).heap[w.heap.size]? = some (.cells #[.slice none 0 0, .slice none 0 0] 25 (0, 0)) := by
    rw [Below.heap_alloc _ _ _ (by simp)]; exact heap_alloc_new w _
  have hb0 : ((w.alloc (Obj.cells #[.slice none 0 0, .slice none 0 0] 25)).alloc (Obj.cells #[.slice none 0 0, .slice none 0 0] 25)).heap[w.heap.size + 1]? = some (.cells #[.slice none 0 0, .slice none 0 0] 25 (0, 0)) := by
    have := heap_alloc_new (w.alloc (Obj.cells #[.slice none 0 0, .slice none 0 0] 25)) (Obj.cells #[.slice none 0 0, .slice none 0 0] 25)
    rw [alloc_size] at this; exact this
  have hr2 := (b12.block w.heap.size (by rw [e0]; omega)).trans hr0
  have hb2 := (b12.block (w.heap.size + 1) (by rw [e0]; omega)).trans hb0
  have hm2 := (hml.below ((Below.refl _ w).alloc (Nat.le_refl _) _)).below ((Below.refl _ _).alloc (Nat.le_refl _) _) |>.below b12
  have hbw : Below w.heap.size w w2 := (((Below.refl _ w).alloc (Nat.le_refl _) _).alloc (by simp) _).trans (b12.mono (by rw [e0]; omega))
  have hne : ∀ a, A = some a → a.block ≠ w.heap.size + 1 := fun a ha => by have := hfar a ha; omega
  have hmlt := hml.lt
  clear b1 b2 b12 e0 hr0 hb0 hown cs ct hfar
  have hc1 := hrow.1
  have hc2 := hrow.2.1
  rw [strs_length] at hc1
  unfold maxLen at hc2
  have hss2 : w.heap.size + 2 ≤ w2.heap.size := by omega
  have HR2 := Lib.hid hr2
  have HB2 := Lib.hid hb2
  have HW2 := Lib.hid hbw
  clear hs1 hs2 hr2 hb2 hbw
  go_wp2_with fail
  go_loopw [11] (fun i wr => PRel w2.heap.size (w.heap.size + 1) ls w2 i wr) (fun i _ => ls.length - (intOf i).toNat)
  case atStart => exact ⟨0, ([], []), .slice none 0 0, .slice none 0 0, rfl, Nat.zero_le _, ⟨HB2.out, World.ownsRow_nil _ _ _ _, World.ownsRow_nil _ _ _ _⟩, rfl, Nat.zero_le _, Nat.le_refl _, .of (Below.refl _ _)⟩
  case round =>
    obtain ⟨k, st, nv, bv, rfl, hk, hpol, hpf, h64, hkp, hkeep⟩ := hrel
    have hszr := hkeep.size
    have hrr := (hkeep.block w.heap.size (by omega) (by omega)).trans HR2.out
    by_cases hp : k < ls.length
    · obtain ⟨g, off, rfl, hg, hc⟩ := (hrow.keeps hkeep hne).cellAt hp
      have hmr : MaxL wr := by
        obtain ⟨m, hm⟩ := hm2
        exact ⟨m, (World.cell?_of_block (w := w2) (hkeep.block 0 (by omega) (by omega))).trans hm⟩
      have hXl := HSL.out.1 ls[k] (List.getElem_mem hp)
      rw [List.drop_eq_getElem_cons hp] at hpf
      have cb := fun w1 => blank_any ⟨ls[k].toArray⟩ w1 (by rw [str_size]; simp at hXl; omega)
      rw [show (⟨ls[k].toArray⟩ : ByteArray).data.toList = ls[k] from rfl] at cb
      have ch := fun w1 => Try.strings_HasPrefix ⟨ls[k].toArray⟩ ⟨#[35]⟩ w1
      rw [show (⟨ls[k].toArray⟩ : ByteArray).data.toList = ls[k] from rfl, show (⟨#[35]⟩ : ByteArray).data.toList = [35] from rfl] at ch
      have ck := fun w1 hB1 h1 hm1 => take_any w2.heap.size (w.heap.size + 1) nv bv st ⟨ls[k].toArray⟩ w1 hB1 h1 h64 (by simp at hXl; omega) (by rw [str_size]; simp at hXl; omega) hm1
      rw [show (⟨ls[k].toArray⟩ : ByteArray).data.toList = ls[k] from rfl] at ck
      have HP := Lib.hid hpol
      have HK := Lib.hid hkeep
      have HM := Lib.hid hmr
      have HF := Lib.hid hpf
      generalize ls[k] = X at *
      have HR := Lib.hid hrr
      clear hpol hkeep hmr hpf hrr hXl
      by_cases h1 : X.all isGap = true
      · rw [h1] at cb
        have HS := Lib.hid (parse_skip (show skipL X = true from by simp [skipL, h1]) (ls.drop (k + 1)) st)
        clear h1
        go_wp2_with fail
        refine (cb _).mono ?_
        rintro e w4 ⟨rfl, b4⟩
        go_wp2
        go_roundw
        case rel => exact ⟨k + 1, st, nv, bv, by go_num, by omega, HP.out.below b4, by rw [← HF.out, HS.out], h64, by omega, HK.out.trans (.of (b4.mono hszr))⟩
        case measure => simp [intOf]; omega
      · have h1' : X.all isGap = false := by simpa using h1
        rw [h1'] at cb
        clear h1
        by_cases h2 : Lib.hasPrefix X [35] = true
        · rw [h2] at ch
          have HS := Lib.hid (parse_skip (show skipL X = true from by simp [skipL, h2]) (ls.drop (k + 1)) st)
          clear h2 h1'
          go_wp2_with fail
          refine (cb _).mono ?_
          rintro e w4 ⟨rfl, b4⟩
          go_wp2_with fail
          refine (ch _).mono ?_
          rintro e w5 ⟨rfl, rfl⟩
          go_wp2
          go_roundw
          case rel => exact ⟨k + 1, st, nv, bv, by go_num, by omega, HP.out.below b4, by rw [← HF.out, HS.out], h64, by omega, HK.out.trans (.of (b4.mono hszr))⟩
          case measure => simp [intOf]; omega
        · have h2' : Lib.hasPrefix X [35] = false := by simpa using h2
          rw [h2'] at ch
          have hsk : skipL X = false := by simp only [skipL, h1', h2', Bool.or_false]
          have CK := Lib.hid ck
          clear h2 h1' h2' ck
          go_wp2_with fail
          refine (cb _).mono ?_
          rintro e w4 ⟨rfl, b4⟩
          go_wp2_with fail
          refine (ch _).mono ?_
          rintro e w5 ⟨rfl, rfl⟩
          have hs5 := b4.size
          go_wp2_with fail
          cases hT : takeL st X with
          | none =>
            have HN := Lib.hid (show parseFrom ls ([], []) = none from by rw [← HF.out, parse_none hsk hT])
            refine (CK.out w5 (by omega) (HP.out.below b4) (HM.out.below b4)).mono ?_
            rw [hT]
            rintro e w6 ⟨nv', bv', rfl, hp6, k6⟩
            have hr6 := (k6.block w.heap.size (by omega) (by omega)).trans ((b4.block w.heap.size (by omega)).trans HR.out)
            obtain ⟨hx0, hx1, hx2, hx3⟩ := blk_facts hr6
            have HR6 := Lib.hid hr6
            have HE := Lib.hid ((HW2.out.trans ((HK.out.trans (.of (b4.mono hszr))).below (by omega) (by omega))).trans (k6.below (B' := w.heap.size) (by omega) (by omega)))
            clear hT hr6 hp6 k6 hsk
            go_wp2
            refine bodyPost_ret (ret_policy (x := .slice none 0 0) (y := .slice none 0 0) (c := .int .i64 1) (by simp [World.setCell, Array.getElem?_modify, HR6.out]) rfl rfl) rfl ?_
            rw [HO.out, HN.out]
            exact ⟨(HE.out.setCell (Nat.le_refl _) _).setCell (Nat.le_refl _) _, rfl⟩
          | some st' =>
            have HS := Lib.hid (parse_take hsk hT (ls.drop (k + 1)))
            have HL := Lib.hid (takeL_le hT h64)
            refine (CK.out w5 (by omega) (HP.out.below b4) (HM.out.below b4)).mono ?_
            rw [hT]
            rintro e w6 ⟨nv', bv', rfl, hp6, k6⟩
            have H6 := Lib.hid hp6
            have K6 := Lib.hid k6
            clear hT hp6 k6 hsk
            go_wp2
            go_roundw
            case rel => exact ⟨k + 1, st', nv', bv', by go_num, by omega, H6.out, by rw [← HF.out, HS.out], HL.out.1, by have := HL.out.2; omega, (HK.out.trans (.of (b4.mono hszr))).trans K6.out⟩
            case measure => simp [intOf]; omega
    · obtain rfl : k = ls.length := by omega
      rw [List.drop_eq_nil_of_le (Nat.le_refl _)] at hpf
      have HF := Lib.hid (show parseFrom ls ([], []) = some st from hpf.symm)
      obtain ⟨A1, c1, rfl, _, _⟩ := RowOf.own hpol.nvs
      obtain ⟨A2, c2, rfl, _⟩ := PairsAt.own hpol.bvs
      have hp0 := hpol.c0
      have hp1 := hpol.c1
      obtain ⟨hx0, hx1, hx2, hx3⟩ := blk_facts hrr
      have HP := Lib.hid hpol
      have HR := Lib.hid hrr
      have HE := Lib.hid (HW2.out.trans (hkeep.below (B' := w.heap.size) (by omega) (by omega)))
      clear hpf hpol hrr hkeep
      by_cases hst : st.1.length = 0
      · have HZ := Lib.hid (show finP (some st) = none from if_pos (List.eq_nil_of_length_eq_zero hst))
        have f0 : ((st.1.length : Int) == 0) = true := beq_iff_eq.2 (by omega)
        clear hst
        go_wp2
        refine bodyPost_ret (ret_policy (x := .slice none 0 0) (y := .slice none 0 0) (c := .int .i64 1) (by simp [World.setCell, Array.getElem?_modify, HR.out]) rfl rfl) rfl ?_
        rw [HO.out, HF.out, HZ.out]
        exact ⟨(HE.out.setCell (Nat.le_refl _) _).setCell (Nat.le_refl _) _, rfl⟩
      · have HZ := Lib.hid (show finP (some st) = some st from if_neg (fun e => hst (by rw [e]; rfl)))
        have f0 : ((st.1.length : Int) == 0) = false := beq_eq_false_iff_ne.2 (by omega)
        clear hst
        go_wp2
        refine bodyPost_ret (ret_policy (x := .slice A1 st.1.length c1) (y := .slice A2 st.2.length c2) (c := .int .i64 0) (by simp [World.setCell, Array.getElem?_modify, HR.out]) rfl rfl) rfl ?_
        rw [HO.out, HF.out, HZ.out]
        have hq : (wr.setCell ⟨w.heap.size, 0, none⟩ (.slice A1 st.1.length c1)).heap[w.heap.size]? = some (.cells #[.slice A1 st.1.length c1, .slice none 0 0] 25 (0, 0)) := by simp [World.setCell, Array.getElem?_modify, HR.out]
        exact ⟨(HE.out.setCell (Nat.le_refl _) _).setCell (Nat.le_refl _) _, _, _, rfl,
          own_low (own_set (own_set HP.out.nvs HR.out (by decide) 0 _) hq (by decide) 1 _) (by omega),
          own_low (own_set (own_set HP.out.bvs HR.out (by decide) 0 _) hq (by decide) 1 _) (by omega)⟩

end Go.Proofs.Ytobmmbhmaaednaa

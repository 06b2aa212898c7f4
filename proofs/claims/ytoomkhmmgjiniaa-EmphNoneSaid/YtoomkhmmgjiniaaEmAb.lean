/-
  EmphNone.
-/
import Derived.Test.YtoomkhmmgjiniaaEmAa
import Derived.Test.YtoomkhmmgjiniaaEmQ
import Derived.BigQuiet
namespace Go.Proofs.Ytoomkhmmgjiniaa
open Go.RowKit Go.Maps Go.ChangeShapes
set_option linter.unusedSimpArgs false
set_option linter.unusedVariables false
set_option maxRecDepth 100000

theorem mix_get {α : Type} (f : α → α) (z : List α) (k : Nat) (hk : k < z.length) : ((z.take k).map f ++ z.drop k)[k]? = some z[k] := by
  rw [List.getElem?_append_right (by simp; omega)]
  simp only [List.length_map, List.length_take]
  rw [show k - min k z.length = 0 from by omega, List.getElem?_drop, Nat.add_zero, List.getElem?_eq_getElem hk]
theorem mix_len {α : Type} (f : α → α) (z : List α) (k : Nat) : ((z.take k).map f ++ z.drop k).length = z.length := by
  simp; omega
theorem mix_set {α : Type} (f : α → α) (z : List α) (k : Nat) (hk : k < z.length) : ((z.take k).map f ++ z.drop k).set k (f z[k]) = (z.take (k + 1)).map f ++ z.drop (k + 1) := by
  have h1 : z.drop k = z[k] :: z.drop (k + 1) := List.drop_eq_getElem_cons hk
  have e : k - ((z.take k).map f).length = 0 := by simp; omega
  rw [h1, List.set_append_right _ _ (by simp; omega), e, List.set_cons_zero, List.take_succ_eq_append_getElem hk, List.map_append, List.append_assoc]
  rfl
def cl1 (x : Itm × Value) : Itm × Value := ({ x.1 with cl := false }, x.2)
def oc1 (x : Itm × Value) : Itm × Value := ({ x.1 with op := false, cl := true }, x.2)
def SgOk (x : Itm × Value) : Prop := (x.1.sg = 42 ∨ x.1.sg = 95) ∧ 0 ≤ x.1.ff ∧ x.1.ff ≤ 20
theorem signs_len : ∀ X : List (Itm × Value), (∀ x ∈ X, x.1.n = x.1.ff ∧ SgOk x) → (signsOf (X.map Prod.fst)).length ≤ 20 * X.length
  | [], _ => by simp [signsOf]
  | x :: X, h => by
    have h1 := signs_len X fun y hy => h y (List.mem_cons_of_mem _ hy)
    have h2 := h x (List.mem_cons_self ..)
    unfold SgOk at h2
    rw [List.map_cons, show signsOf (x.1 :: X.map Prod.fst) = List.replicate x.1.n.toNat x.1.sg ++ signsOf (X.map Prod.fst) from by simp [signsOf], List.length_append, List.length_replicate, List.length_cons]
    omega
theorem signs_map (f : Itm × Value → Itm × Value) (hf : ∀ x, (f x).1.n = x.1.n ∧ (f x).1.sg = x.1.sg) : ∀ X : List (Itm × Value), signsOf ((X.map f).map Prod.fst) = signsOf (X.map Prod.fst)
  | [] => rfl
  | x :: X => by
    have ih := signs_map f hf X
    have h := hf x
    simp only [List.map_cons, signsOf, List.flatMap_cons] at ih ⊢
    rw [ih, h.1, h.2]

set_option maxHeartbeats 8000000 in
theorem emphNone_walk (w : World) (A0 : Option Addr) (c0 : Nat) (z0 : List (Itm × Value)) (r0 : EltsAt w itC 5 A0 c0 z0) (w0 : ItsWf w z0) :
    Calls Try.prog 3 #[.slice A0 z0.length c0] w fun e w' => e = .returned (.bool true) ∧ Below w.heap.size w w' := by
  have hal := alive14_any w
  by_cases hin : z0.length ≤ 20
  · have t1 : decide (20 < (z0.length : Int)) = false := by simp; omega
    go_enter Try.func3, Try.ntmps3
    go_wp2_with fail
    refine hal.mono ?_
    rintro e w1 ⟨rfl, b1⟩
    have HB1 := Lib.hid b1
    clear b1 hal
    have HR1 := Lib.hid (EltsAt.below r0 HB1.out)
    have HWF := Lib.hid w0
    clear r0
    have hsl : ∀ x ∈ z0, ∃ A n c, x.2 = Value.slice A n c := fun x hx => by obtain ⟨_, _, ⟨A, c, e, _⟩, _⟩ := w0 x hx; exact ⟨A, _, c, e⟩
    have HSL := Lib.hid hsl
    clear w0 hsl
    go_wp2_with (at_builtin; refine append_itms rfl _ _ rfl w1.heap.size (.slice none 0 0) [] rfl (World.ownsRow_nil _ _ _ _) A0 c0 z0 rfl HR1.out HSL.out (by simp; omega) (Nat.le_refl _) ?_)
    (try simp only [t1])
    intro v2 w2 ho2 hg2
    have hB2 : Below w1.heap.size w1 w2 := (Below.refl _ _).grown hg2 (Nat.le_refl _) (fun r e => by cases e)
    obtain ⟨A2, cp2, rfl, hcp⟩ := own_form ho2
    have HO2 := Lib.hid ho2
    have HB2 := Lib.hid hB2
    have hs2 := hB2.size
    clear ho2 hg2 hB2 HSL HR1
    go_wp2_with fail
    (try simp only [t1])
    go_loopw [3, 5, 6, 22] (fun sv iv jv i wr => ∃ (k : Nat) (u : ByteArray), i = .int .i64 k ∧ k ≤ z0.length ∧ sv = .string u ∧ u.data.toList = signsOf ((z0.take k).map Prod.fst) ∧ (∀ x ∈ z0.take k, SgOk x) ∧ wr.ownsRow w1.heap.size 26 5 (.slice A2 z0.length cp2) z0.length (flt itC ((z0.take k).map cl1 ++ z0.drop k)) ∧ Below w1.heap.size w1 wr) (fun _ _ _ i _ => z0.length - (intOf i).toNat)
    case atStart => exact ⟨0, ⟨#[]⟩, rfl, Nat.zero_le _, rfl, rfl, by simp, by simpa using HO2.out, HB2.out⟩
    case round =>
      obtain ⟨k, u, rfl, hk, rfl, hu, hall, hrow, hbw⟩ := hrel
      have HALL := Lib.hid hall
      have HU := Lib.hid hu
      have HBW := Lib.hid hbw
      have hbs := hbw.size
      clear hall hu hbw
      by_cases hp : k < z0.length
      · obtain ⟨g, cap', cur, eA, hgB, hgl, _, _, hgo, hgc⟩ := own_block hrow (by omega)
        injection eA with eA1 eA2 eA3
        subst eA1
        have hmg := mix_get cl1 z0 k hp
        have hml := mix_len cl1 z0 k
        have hms := mix_set cl1 z0 k hp
        have hXk : ((z0.take k).map cl1 ++ z0.drop k)[k]'(by rw [hml]; exact hp) = z0[k] := Option.some.inj ((List.getElem?_eq_getElem _).symm.trans hmg)
        have hc : ∀ j y, (itC z0[k])[j]? = some y → wr.cell? ⟨g, k * 5 + j, none⟩ = some y := fun j y hy => own_elt itC_length (X := (z0.take k).map cl1 ++ z0.drop k) hrow (by rw [hml]; exact hp) j y (by rw [hXk]; exact hy)
        have hwf := HWF.out _ (List.getElem_mem hp)
        have hst := hrow.stored (k * 5 + 3) (.bool false)
        rw [flt_set1 itC_length 3 (.bool false) (cl1 z0[k]) (by omega) _ k z0[k] hmg rfl, hms] at hst
        have hfz := hrow.frozenAt
        have htk : (z0.take (k + 1)) = z0.take k ++ [z0[k]] := List.take_succ_eq_append_getElem hp
        have hU2 : ∀ u2 : ByteArray, u2.data.toList = signsOf ((z0.take k).map Prod.fst) ++ List.replicate z0[k].1.n.toNat z0[k].1.sg → u2.data.toList = signsOf ((z0.take (k + 1)).map Prod.fst) := fun u2 h => by
          rw [h, htk, List.map_append]; simp [signsOf]
        have hA2 : SgOk z0[k] → ∀ x ∈ z0.take (k + 1), SgOk x := fun h x hx => by
          rw [htk] at hx
          rcases List.mem_append.1 hx with hx | hx
          · exact HALL.out x hx
          · rw [List.mem_singleton] at hx; subst hx; exact h
        have hlen := signs_len (z0.take k) (fun x hx => ⟨(HWF.out x (List.mem_of_mem_take hx)).2.1, HALL.out x hx⟩)
        rw [List.length_take] at hlen
        have HP := Lib.hid hp
        have HU2 := Lib.hid hU2
        have HA2 := Lib.hid hA2
        have HLEN := Lib.hid hlen
        have HST := Lib.hid hst
        have HGB := Lib.hid hgB
        clear htk hU2 hA2 hlen hst hrow hgc hgo hmg hml hms hXk eA2 eA3
        generalize z0[k] = x at *
        obtain ⟨⟨sg, nn, ff, op, cl, nd⟩, lv⟩ := x
        obtain ⟨hw1, hnf, ⟨Av, cv, elv, _⟩, _⟩ := hwf
        dsimp only at *
        subst elv hnf
        have q0 : wr.cell? ⟨g, k * 5, none⟩ = some (.int .u8 sg.toNat) := hc 0 _ rfl
        have q1 : wr.cell? ⟨g, k * 5 + 1, none⟩ = some (.int .i64 nn) := hc 1 _ rfl
        have q3 : wr.cell? ⟨g, k * 5 + 3, none⟩ = some (.bool cl) := hc 3 _ rfl
        have hf3 := hfz (k * 5 + 3)
        clear hc hw1 hfz
        by_cases hs : sg = 42 ∨ sg = 95
        · have hb2 : (((sg.toNat : Int) != 42) = false) ∨ (((sg.toNat : Int) != 42) = true ∧ ((sg.toNat : Int) != 95) = false) := by
            rcases hs with rfl | rfl
            · exact Or.inl rfl
            · exact Or.inr ⟨rfl, rfl⟩
          by_cases h1 : nn < 0
          · rcases hb2 with hb2 | ⟨hb2, hb3⟩
            all_goals (go_wp2; go_ret; exact ⟨rfl, HB1.out.trans (HBW.out.mono HB1.out.size)⟩)
          · by_cases h2 : 20 < nn
            · rcases hb2 with hb2 | ⟨hb2, hb3⟩
              all_goals (go_wp2; go_ret; exact ⟨rfl, HB1.out.trans (HBW.out.mono HB1.out.size)⟩)
            · obtain ⟨m, rfl⟩ : ∃ m : Nat, nn = m := ⟨nn.toNat, by omega⟩
              have hm : m ≤ 20 := by omega
              have HK := Lib.hid (HA2.out ⟨hs, by show (0 : Int) ≤ m; omega, by show (m : Int) ≤ 20; omega⟩)
              clear HA2
              have hkey : ∀ wb, wb = wr.setCell ⟨g, k * 5 + 3, none⟩ (.bool false) → wb.cell? ⟨g, k * 5, none⟩ = some (.int .u8 sg.toNat) ∧ wb.cell? ⟨g, k * 5 + 1, none⟩ = some (.int .i64 m) ∧ wb.ownsRow w1.heap.size 26 5 (.slice (some ⟨g, 0, none⟩) z0.length cp2) z0.length (flt itC ((z0.take (k + 1)).map cl1 ++ z0.drop (k + 1))) ∧ Below w1.heap.size w1 wb ∧ g < wb.heap.size := by
                intro wb e
                subst e
                refine ⟨?_, ?_, HST.out.1, HBW.out.setCell (p := ⟨g, k * 5 + 3, none⟩) HGB.out _, by simpa using hgl⟩
                · exact (World.cell?_setCell_other wr ⟨g, k * 5 + 3, none⟩ ⟨g, k * 5, none⟩ (.bool false) (by intro e; injection e with _ e2 _; omega)).trans q0
                · exact (World.cell?_setCell_other wr ⟨g, k * 5 + 3, none⟩ ⟨g, k * 5 + 1, none⟩ (.bool false) (by intro e; injection e with _ e2 _; omega)).trans q1
              have HKEY := Lib.hid hkey
              clear hkey HST HGB
              rcases hb2 with hb2 | ⟨hb2, hb3⟩
              all_goals
                go_wp2_with fail
                obtain ⟨kb0, kb1, kbo, kbb, kbg⟩ := HKEY.out _ rfl
                have KBO := Lib.hid kbo
                have KBB := Lib.hid kbb
                clear HKEY q0 q1 q3 hf3 kbo kbb hgl
                generalize wr.setCell ⟨g, k * 5 + 3, none⟩ (.bool false) = wb at *
                go_loopw [3, 6] (fun sv jv wj => ∃ (j : Nat) (u2 : ByteArray), sv = .string u2 ∧ jv = .int .i64 j ∧ j ≤ m ∧ u2.data.toList = signsOf ((z0.take k).map Prod.fst) ++ List.replicate j sg ∧ Below wb.heap.size wb wj) (fun _ jv _ => m - (intOf jv).toNat)
                case atStart => exact ⟨0, u, rfl, rfl, Nat.zero_le _, by rw [HU.out]; simp, Below.refl _ _⟩
                case round =>
                  obtain ⟨j, u2, rfl, rfl, hj, hu2, hbj⟩ := hrel
                  have hus : u2.size ≤ 420 := by
                    have h5 := congrArg List.length hu2
                    rw [List.length_append, List.length_replicate] at h5
                    have h6 : u2.size = u2.data.toList.length := rfl
                    have h7 := HLEN.out
                    omega
                  have hns : ¬ 9223372036854775807 < u2.size + 1 := by omega
                  have j0 := (hbj.cell (p := ⟨g, k * 5, none⟩) kbg).trans kb0
                  have j1 := (hbj.cell (p := ⟨g, k * 5 + 1, none⟩) kbg).trans kb1
                  have hgj : g < wr.heap.size := Nat.lt_of_lt_of_le kbg hbj.size
                  have hcv := conv_u8 sg wr
                  have HU3 := Lib.hid hu2
                  have HBJ := Lib.hid hbj
                  clear hu2 hus
                  by_cases hpj : j < m
                  · clear hbj
                    go_wp2
                    go_roundw
                    case rel => exact ⟨j + 1, _, rfl, by go_num, by omega, by rw [ByteArray.toList_data_append, HU3.out, List.replicate_succ', List.append_assoc], HBJ.out.alloc HBJ.out.size _⟩
                    case measure => simp [intOf]; omega
                  · obtain rfl : j = m := by omega
                    have HBJ2 := Lib.hid (KBB.out.then hbj)
                    have HOJ := Lib.hid (ownsRow_below KBO.out hbj)
                    clear hbj
                    go_wp2
                    go_roundw
                    case rel => exact ⟨k + 1, u2, by go_num, HP.out, rfl, HU2.out u2 (by simpa using HU3.out), HK.out, HOJ.out, HBJ2.out⟩
                    case measure => have := HP.out; simp [intOf]; omega
        · have hb2 : ((sg.toNat : Int) != 42) = true := by
            simp
            intro h
            exact hs (Or.inl (UInt8.toNat_inj.1 (by show sg.toNat = 42; omega)))
          have hb3 : ((sg.toNat : Int) != 95) = true := by
            simp
            intro h
            exact hs (Or.inr (UInt8.toNat_inj.1 (by show sg.toNat = 95; omega)))
          go_wp2
          go_ret
          exact ⟨rfl, HB1.out.trans (HBW.out.mono HB1.out.size)⟩
      · obtain rfl : k = z0.length := by omega
        have hall := HALL.out
        have hu := HU.out
        rw [List.take_length] at hall hu hrow
        rw [List.drop_length, List.append_nil] at hrow
        clear HALL HU hp hk
        obtain ⟨X1, hX1⟩ : ∃ X, X = z0.map cl1 := ⟨_, rfl⟩
        have hl1 : X1.length = z0.length := by rw [hX1, List.length_map]
        rw [← hX1] at hrow
        have hrow1 : wr.ownsRow w1.heap.size 26 5 (.slice A2 X1.length cp2) X1.length (flt itC X1) := by rw [hl1]; exact hrow
        obtain ⟨A', c', e, hE⟩ := EltsAt.own itC_length hrow1
        injection e with e1 _ e3
        subst e1 e3
        have hww : Below w.heap.size w wr := HB1.out.trans (HBW.out.mono HB1.out.size)
        have hmem : ∀ x ∈ X1, SgOk x ∧ x.1.n = x.1.ff ∧ x.1.cl = false ∧ ∃ Av cv, x.2 = Value.slice Av x.1.nd.length cv ∧ InlsAt w Av cv x.1.nd := by
          intro x hx
          rw [hX1] at hx
          obtain ⟨y, hy, rfl⟩ := List.mem_map.1 hx
          obtain ⟨_, q2, ⟨Av, cv, q3, q4⟩, _⟩ := HWF.out y hy
          exact ⟨hall y hy, q2, rfl, Av, cv, q3, q4⟩
        have hsgn : ∀ x : Itm × Value, SgOk x → x.1.sg ≠ 0 := fun x h => by rcases h.1 with q | q <;> rw [q] <;> decide
        have htot := signs_len z0 (fun x hx => ⟨(HWF.out x hx).2.1, hall x hx⟩)
        have hS1 : signsOf (X1.map Prod.fst) = signsOf (z0.map Prod.fst) := by rw [hX1]; exact signs_map cl1 (fun _ => ⟨rfl, rfl⟩) z0
        have hG1 := emNone_close (X1.map Prod.fst) (fun x hx => by
          obtain ⟨y, hy, rfl⟩ := List.mem_map.1 hx
          obtain ⟨q1, _, q3, _⟩ := hmem y hy
          exact ⟨hsgn y q1, q3⟩)
        have cgen : ∀ (X : List (Itm × Value)) (W : World), X.length = z0.length → EltsAt W itC 5 A2 cp2 X → Below w.heap.size w W → (∀ x ∈ X, SgOk x ∧ x.1.n = x.1.ff ∧ ∃ Av cv, x.2 = Value.slice Av x.1.nd.length cv ∧ InlsAt w Av cv x.1.nd) →
            Calls Try.prog 7 #[.slice A2 z0.length cp2] W fun e w' => (∃ v, e = .returned v ∧ w'.ownsRow W.heap.size 30 5 v (groupI (X.map Prod.fst)).length (flt ilC (groupI (X.map Prod.fst)))) ∧ Below W.heap.size W w' := by
          intro X W hl hE hW hX
          have cg := group_any X A2 cp2 W hE (fun x hx => by
              obtain ⟨_, _, Av, cv, q1, q2⟩ := hX x hx
              exact ⟨Av, cv, q1, EltsAt.below q2 hW⟩) (fun x hx => by
              obtain ⟨q1, q2, _⟩ := hX x hx
              exact ⟨q2, by have := q1.2.2; omega⟩)
            (by have := sumN_le X (fun x hx => (hX x hx).1.2.2); omega) (by omega) (wrapD_rows _ fun x hx => by
              obtain ⟨y, hy, rfl⟩ := List.mem_map.1 hx
              exact hsgn y (hX y hy).1) (by
              have := potI_le (X.map Prod.fst) fun x hx => by
                obtain ⟨y, hy, rfl⟩ := List.mem_map.1 hx
                obtain ⟨q1, q2, _⟩ := hX y hy
                exact ⟨hsgn y q1, by have := q1.2.2; omega⟩
              rw [List.length_map] at this
              omega)
          rw [hl] at cg
          exact cg
        have cg1 := cgen X1 wr hl1 hE hww (fun x hx => by obtain ⟨q1, q2, _, q3⟩ := hmem x hx; exact ⟨q1, q2, q3⟩)
        rw [hG1, hS1] at cg1
        have HMEM := Lib.hid hmem
        have HSGN := Lib.hid hsgn
        have CG := Lib.hid cgen
        have HROW := Lib.hid hrow1
        have HX1 := Lib.hid hX1
        have HL1 := Lib.hid hl1
        have HS1 := Lib.hid hS1
        have HALL := Lib.hid hall
        have hub : u.size ≤ 400 := by
          have h6 : u.size = u.data.toList.length := rfl
          rw [h6, hu]
          omega
        have heu : (⟨(signsOf (z0.map Prod.fst)).toArray⟩ : ByteArray) = u := by rw [← hu]
        have HEU := Lib.hid heu
        have HUU := Lib.hid hu
        clear hmem hsgn cgen hrow1 hrow hE hX1 hl1 hS1 hG1 hall htot heu hu hww
        generalize hgs : signsOf (z0.map Prod.fst) = T at *
        obtain ⟨G, hG⟩ : ∃ G, G = if T = [] then [] else [wordsI 0 T] := ⟨_, rfl⟩
        rw [← hG] at cg1
        have HGE := Lib.hid hG
        clear hG
        go_wp2_with fail
        refine cg1.mono ?_
        rintro e w3 ⟨⟨v3, rfl, ho3⟩, b3⟩
        obtain ⟨A3, c3, rfl, _⟩ := own_form ho3
        have HB3 := Lib.hid (HBW.out.then b3)
        have HO3 := Lib.hid (own_low ho3 hbs)
        have HR3 := Lib.hid (ownsRow_below HROW.out b3)
        clear cg1 ho3 b3 HROW HBW hbs
        go_wp2_with fail
        go_loopw [8, 82] (fun iv i wr => ∃ k : Nat, i = .int .i64 k ∧ k ≤ z0.length ∧ wr.ownsRow w1.heap.size 26 5 (.slice A2 z0.length cp2) z0.length (flt itC ((X1.take k).map oc1 ++ X1.drop k)) ∧ wr.ownsRow w1.heap.size 30 5 (.slice A3 G.length c3) G.length (flt ilC G) ∧ Below w1.heap.size w1 wr) (fun _ i _ => z0.length - (intOf i).toNat)
        case atStart => exact ⟨0, rfl, Nat.zero_le _, by have := HR3.out; rw [HL1.out] at this; simpa using this, HO3.out, HB3.out⟩
        case round =>
          obtain ⟨k, rfl, hk, hrow, ho, hbw⟩ := hrel
          have HBW := Lib.hid hbw
          have hbs := hbw.size
          clear hbw
          by_cases hp : k < z0.length
          · have hp1 : k < X1.length := by rw [HL1.out]; exact hp
            obtain ⟨g, cap', cur, eA, hgB, hgl, _, _, hgo, hgc⟩ := own_block hrow (by omega)
            injection eA with eA1 eA2 eA3
            subst eA1
            have n1 : (Value.slice A3 G.length c3).ownBlock ≠ some g := own_ne ho hgo (by decide)
            have hmg := mix_get oc1 X1 k hp1
            have hms := mix_set oc1 X1 k hp1
            have s1 := hrow.stored (k * 5 + 2) (.bool false)
            rw [flt_set1 itC_length 2 (.bool false) (({ X1[k].1 with op := false } : Itm), X1[k].2) (by omega) _ k X1[k] hmg rfl] at s1
            have s2 := s1.1.stored (k * 5 + 3) (.bool true)
            rw [flt_set1 itC_length 3 (.bool true) (oc1 X1[k]) (by omega) _ k (({ X1[k].1 with op := false } : Itm), X1[k].2) (by rw [List.getElem?_set, if_pos rfl, if_pos (List.getElem?_eq_some_iff.1 hmg).1]) rfl, List.set_set, hms] at s2
            have hk3 := (ho.kept s1.2 (Or.inr n1)).kept s2.2 (Or.inr n1)
            have hfz := hrow.frozenAt
            have q2 : wr.cell? ⟨g, k * 5 + 2, none⟩ = some (.bool X1[k].1.op) := own_elt itC_length hrow (List.getElem?_eq_some_iff.1 hmg).1 2 _ (by rw [(List.getElem?_eq_some_iff.1 hmg).2]; rfl)
            have q3 : wr.cell? ⟨g, k * 5 + 3, none⟩ = some (.bool X1[k].1.cl) := own_elt itC_length hrow (List.getElem?_eq_some_iff.1 hmg).1 3 _ (by rw [(List.getElem?_eq_some_iff.1 hmg).2]; rfl)
            have hf2 := hfz (k * 5 + 2)
            have hf3 := hfz (k * 5 + 3)
            have HS2 := Lib.hid s2.1
            have HK3 := Lib.hid hk3
            have HGB := Lib.hid hgB
            have HP := Lib.hid hp1
            clear s1 s2 hk3 hgc hgo hmg hms hrow ho hfz eA2 eA3 n1
            go_wp2
            go_roundw
            case rel => exact ⟨k + 1, by go_num, by omega, HS2.out, HK3.out, (HBW.out.setCell (p := ⟨g, k * 5 + 2, none⟩) HGB.out _).setCell (p := ⟨g, k * 5 + 3, none⟩) HGB.out _⟩
            case measure => simp [intOf]; omega
          · obtain rfl : k = z0.length := by omega
            rw [← HL1.out, List.take_length, List.drop_length, List.append_nil, HL1.out] at hrow
            obtain ⟨X2, hX2⟩ : ∃ X, X = X1.map oc1 := ⟨_, rfl⟩
            have hl2 : X2.length = z0.length := by rw [hX2, List.length_map]; exact HL1.out
            rw [← hX2, ← hl2] at hrow
            obtain ⟨A', c', e, hE⟩ := EltsAt.own itC_length hrow
            injection e with e1 _ e3
            subst e1 e3
            have hX2m : ∀ x ∈ X2, SgOk x ∧ x.1.n = x.1.ff ∧ x.1.op = false ∧ ∃ Av cv, x.2 = Value.slice Av x.1.nd.length cv ∧ InlsAt w Av cv x.1.nd := by
              intro x hx
              rw [hX2] at hx
              obtain ⟨y, hy, rfl⟩ := List.mem_map.1 hx
              obtain ⟨q1, q2, _, q3⟩ := HMEM.out y hy
              exact ⟨q1, q2, rfl, q3⟩
            have hG2 := emNone_open (X2.map Prod.fst) (fun x hx => by
              obtain ⟨y, hy, rfl⟩ := List.mem_map.1 hx
              obtain ⟨q1, _, q3, _⟩ := hX2m y hy
              exact ⟨HSGN.out y q1, q3⟩)
            have hS2 : signsOf (X2.map Prod.fst) = T := by rw [hX2, signs_map oc1 (fun _ => ⟨rfl, rfl⟩) X1, HS1.out]
            have cg2 := CG.out X2 wr hl2 hE (HB1.out.trans (HBW.out.mono HB1.out.size)) (fun x hx => by obtain ⟨q1, q2, _, q3⟩ := hX2m x hx; exact ⟨q1, q2, q3⟩)
            rw [hG2, hS2, ← HGE.out] at cg2
            clear hG2 hS2 hX2m hE hrow hX2 hl2 hp
            have HO := Lib.hid ho
            clear ho
            go_wp2_with fail
            refine cg2.mono ?_
            rintro e w4 ⟨⟨v4, rfl, ho4⟩, b4⟩
            obtain ⟨A4, c4, rfl, hE4⟩ := EltsAt.own ilC_length ho4
            have HB4 := Lib.hid (HB1.out.trans ((HBW.out.then b4).mono HB1.out.size))
            obtain ⟨A5, c5, e5, hE3⟩ := EltsAt.own ilC_length (ownsRow_below HO.out b4)
            injection e5 with e51 _ e53
            subst e51 e53
            clear cg2 ho4 b4 HO HBW HO3 HR3 HB3
            by_cases hT : T = []
            · have hG0 : G = [] := by rw [HGE.out, if_pos hT]
              subst hG0
              have hu0 : u = ⟨#[]⟩ := by rw [← HEU.out, hT]
              clear HEU HUU
              subst hu0
              go_wp2
              go_ret
              exact ⟨rfl, HB4.out⟩
            · have hG1 : G = [wordsI 0 T] := by rw [HGE.out, if_neg hT]
              subst hG1
              obtain ⟨b3, o3, rfl, hb3, p0, p1, p2, p3, p4⟩ := InlsAt.cells5 hE3 (k := 0) (by simp)
              obtain ⟨b4, o4, rfl, hb4, r0, r1, r2, r3, r4⟩ := InlsAt.cells5 hE4 (k := 0) (by simp)
              simp only [List.getElem_cons_zero, Nat.zero_mul, Nat.add_zero, wordsI] at p0 p1 p2 p3 p4 r0 r1 r2 r3 r4
              have hne : u.toList.isEmpty = false := by rw [ByteArray.toList_eq, HUU.out]; cases T with | nil => exact absurd rfl hT | cons a b => rfl
              rw [HEU.out] at p2 r2
              clear hE3 hE4 HUU HGE hgs
              clear HEU HS1
              go_wp2_with fail
              go_quiet (fail)
              all_goals go_wp2
              all_goals go_ret
              all_goals exact ⟨rfl, below_drewN' HB4.out _⟩
  · go_enter Try.func3, Try.ntmps3
    go_wp2_with fail
    all_goals (refine hal.mono ?_; rintro e w' ⟨rfl, b⟩; go_wp2; go_ret; exact ⟨rfl, b⟩)

end Go.Proofs.Ytoomkhmmgjiniaa

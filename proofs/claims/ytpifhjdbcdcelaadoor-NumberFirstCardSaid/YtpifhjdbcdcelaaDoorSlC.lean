/-
  Package slug: Of.
-/
import Derived.Test.YtpifhjdbcdcelaaDoorSlB
namespace Go.Proofs.YtpifhjdbcdcelaaDoor
open Go.RowKit Go.Maps
set_option linter.unusedSimpArgs false
set_option linter.unusedVariables false
set_option maxRecDepth 100000

theorem infoU8 : (Tryd.prog.info? 5).map (fun i => (i.zero, i.size, i.bytes)) = some (some (.int .u8 0), 1, 1) := by kernel_rfl
theorem bytes_one (l : List UInt8) : ∀ u ∈ Lib.byteCells l, u.oneCell' = true := by
  intro u hu
  obtain ⟨b, _, rfl⟩ := List.mem_map.1 hu
  rfl
theorem conv_row {W : World} {A : Option Addr} {cap : Nat} {l : List UInt8} (h : RowOf W A cap (Lib.byteCells l)) (hl : l ≠ []) :
    (convert 49 9 (.slice A l.length cap)).run Tryd.prog W = .ok (.string ⟨l.toArray⟩) W := by
  obtain ⟨b, off, rfl, hb, hc⟩ := h.at (by intro e; have := congrArg List.length e; rw [Lib.byteCells_length] at this; exact hl (List.length_eq_zero_iff.1 this))
  refine run_convert_bytes_back W 49 9 5 ⟨b, off, none⟩ cap l Tryd.underlying49 Tryd.underlying5 Tryd.underlying9 (fun j hj => ?_)
  have := hc j (by rw [Lib.byteCells_length]; exact hj)
  rw [show (Lib.byteCells l)[j]'(by rw [Lib.byteCells_length]; exact hj) = .int .u8 (l[j].toNat : Int) from by simp [Lib.byteCells]] at this
  rw [show (⟨b, off, none⟩ : Addr).add j = ⟨b, off + j, none⟩ from by simp [Addr.add]]
  exact this
theorem row_take {w : World} {A : Option Addr} {cap : Nat} {p q : List UInt8} (h : RowOf w A cap (Lib.byteCells (p ++ q))) : RowOf w A cap (Lib.byteCells p) := by
  have := RowOf.take h p.length
  rwa [show (Lib.byteCells (p ++ q)).take p.length = Lib.byteCells p from by rw [Lib.byteCells_append, ← Lib.byteCells_length p, List.take_left]] at this
theorem iter_ne {w : World} {B k : Nat} {e : TypeId} {n : Nat} {v : Value} {xs : List Value} {f : ByteArray} {pos : Nat} (h : w.ownsRow B e 1 v n xs) (hk : w.heap[k]? = some (.stringIter f pos)) : v.ownBlock ≠ some k := by
  rcases h.2 with ⟨rfl, _⟩ | ⟨g, cap, cur, rfl, _, hg, _⟩
  · simp [Value.ownBlock]
  · intro e
    simp [Value.ownBlock] at e
    subst e
    rw [hk] at hg
    cases hg
def OfRel (f : ByteArray) (w : World) (k : Nat) (idv : Value) (wr : World) : Prop :=
  ∃ (pos : Nat) (id : List UInt8), wr.heap[k]? = some (.stringIter f pos) ∧ wr.ownsRow w.heap.size 5 1 idv id.length (Lib.byteCells id) ∧ Below w.heap.size w wr ∧ id = slRow (f.data.toList.take pos) ∧ id.length ≤ 40 ∧ pos ≤ f.size

set_option maxHeartbeats 8000000 in
theorem of_any (s : ByteArray) (w : World) (hs : s.size ≤ 1000000) :
    Calls Tryd.prog 18 #[.string s] w fun e w' => e = .returned (.string ⟨(slugL s.data.toList).toArray⟩) ∧ Below w.heap.size w w' := by
  obtain ⟨i0, hi0, hz0, hz1, hz2⟩ := info_parts infoU8
  have cf := fold_of s w (by omega)
  have hfl : (foldOf s).data.toList = foldL s.data.toList := rfl
  have hfs := foldOf_size s
  have hE : ∀ id : List UInt8, id = (slRow (foldL s.data.toList)).take 40 → slugL s.data.toList = slEnd id := fun id h => by rw [h]; rfl
  rw [← hfl] at hE
  have HE := Lib.hid hE
  generalize slugL s.data.toList = res at *
  generalize foldOf s = f at *
  clear hfl hE
  go_enter Tryd.func18, Tryd.ntmps18
  go_wp2_with fail
  refine cf.mono ?_
  rintro e w1 ⟨rfl, b1⟩
  have HB1 := Lib.hid b1
  have hbs := b1.size
  clear b1 cf
  go_wp2_with fail
  go_loopw [3] (fun idv wr => OfRel f w w1.heap.size idv wr) (fun _ wr => f.size - wr.iterPos w1.heap.size)
  case atStart =>
    refine ⟨0, [], ?_, World.ownsRow_nil _ _ _ _, HB1.out.alloc hbs _, rfl, Nat.zero_le _, Nat.zero_le _⟩
    have := World.iter_heap w1 f 0
    simpa using this
  case round =>
    obtain ⟨pos, id, hit, hrow, hbw, hid, hlen, hpos⟩ := hrel
    have hsz : w1.heap.size < wr.heap.size := (Array.getElem?_eq_some_iff.1 hit).1
    by_cases hp : pos < f.size
    · have hnx : ∀ ty, (Instr.next (.pointer (some ⟨w1.heap.size, 0, none⟩)) true ty).run Tryd.prog wr = _ := fun ty => Lib.run_next_any_at wr w1.heap.size f pos ty hit hp
      have hwd := width_pos f pos hp
      have hd1 := decode_le f pos
      have hdec := decode_dec f pos
      have hlp : pos < f.data.toList.length := by simpa using hp
      obtain ⟨b, l, hbl⟩ : ∃ b l, f.data.toList.drop pos = b :: l := ⟨_, _, List.drop_eq_getElem_cons hlp⟩
      have hstep := slRow_step f.data.toList pos b l hbl
      have hwid := (dec_width b l).2
      have hll : l.length + 1 = f.size - pos := by have := congrArg List.length hbl; simp at this; omega
      rw [hbl] at hdec
      have hkeep := @seg_keep b l
      have hoth := @seg_other b l
      rw [← hdec] at hstep hwid hkeep hoth
      have hI2 := ownsRow_iterAt hrow hit (pos + (Utf8.decode f pos).2)
      have hit2 := Lib.iterAt_heap wr w1.heap.size f pos (pos + (Utf8.decode f pos).2) hit
      have hbw2 := Lib.below_iterAt hbw (k := w1.heap.size) (by omega) f (pos + (Utf8.decode f pos).2)
      have hsz2 : w1.heap.size < (wr.iterAt w1.heap.size f (pos + (Utf8.decode f pos).2)).heap.size := by rw [Lib.iterAt_size]; omega
      rw [← hid] at hstep
      have hout : id.length = 40 → id = (slRow f.data.toList).take 40 := fun h => by
        have e : f.data.toList = f.data.toList.take pos ++ f.data.toList.drop pos := (List.take_append_drop _ _).symm
        rw [e, slRow_append, ← hid, slFold_full _ _ h]
      have Hit := Lib.hid hit
      have HID := Lib.hid hid
      have hpn : pos + (Utf8.decode f pos).2 ≤ f.size := by omega
      have sp := stays_any (Utf8.decode f pos).1 (wr.iterAt w1.heap.size f (pos + (Utf8.decode f pos).2))
      clear hrow hbw hit hid hbl hlp
      obtain ⟨A5, c5, rfl, hr5, _, _⟩ := RowOf.own hI2
      have HI2 := Lib.hid hI2
      have HIT2 := Lib.hid hit2
      have HBW2 := Lib.hid hbw2
      by_cases h40 : id.length = 40
      · have HQ := Lib.hid (HE.out id (hout h40))
        have hl40 : ((id.length : Int) == 40) = true := by simp; omega
        clear hstep hkeep hoth sp hout h40
        clear HIT2 HI2 hwid hll hpn HID hit2 hI2 hdec
        generalize hW : wr.iterAt w1.heap.size f (pos + (Utf8.decode f pos).2) = W at *
        have hle5 := hr5.1
        have hcap5 := hr5.2.1
        rw [Lib.byteCells_length] at hle5
        unfold maxLen at hcap5
        have HR5 := Lib.hid hr5
        have dd := dashed_any A5 c5 id W hr5
        clear hr5
        cases hdq : (id.getLastD 0 == 45) with
        | true =>
          rw [hdq] at dd
          have DD := Lib.hid dd
          have hq45 : id.getLastD 0 = 45 := by simpa using hdq
          have hne : id ≠ [] := by rintro rfl; exact absurd hq45 (by decide)
          obtain ⟨p, z, rfl⟩ := snoc_of hne
          rw [getLastD_snoc] at hq45
          subst hq45
          have hend : slEnd (p ++ [45]) = if p = [] then slNone else p := by
            unfold slEnd slTrim
            rw [getLastD_snoc, if_pos rfl, List.dropLast_concat]
          have hrp := row_take HR5.out
          have HEN := Lib.hid hend
          clear dd hdq hend hne
          rw [List.length_append, List.length_singleton] at hle5 hlen DD hl40 ⊢
          have hm1 : ((p.length + 1 : Nat) : Int) - 1 = (p.length : Int) := by omega
          by_cases hpe : p = []
          · have hp1 : ((p.length : Int) == 0) = true := by rw [hpe]; rfl
            have hres : res = slNone := by rw [HQ.out, HEN.out, if_pos hpe]
            have HRES := Lib.hid hres
            clear hres hpe hrp
            generalize hn1 : p.length + 1 = n1 at *
            generalize p.length = m1 at *
            go_wp2_with fail
            refine DD.out.mono ?_
            rintro e w' ⟨rfl, rfl⟩
            go_wp2
            go_ret
            have hr9 := HRES.out
            subst hr9
            exact ⟨rfl, HBW2.out⟩
          · have hcv := conv_row hrp hpe
            have hp0 : 0 < p.length := List.length_pos_iff.2 hpe
            have hp1 : ((p.length : Int) == 0) = false := by simp; omega
            have hres : res = p := by rw [HQ.out, HEN.out, if_neg hpe]
            have HRES := Lib.hid hres
            clear hres hpe hrp
            generalize hn1 : p.length + 1 = n1 at *
            generalize hm : p.length = m1 at *
            go_wp2_with fail
            refine DD.out.mono ?_
            rintro e w' ⟨rfl, rfl⟩
            go_wp2
            go_ret
            have hr9 := HRES.out
            subst hr9
            exact ⟨rfl, HBW2.out⟩
        | false =>
          rw [hdq] at dd
          have DD := Lib.hid dd
          have hq45 : ¬ id.getLastD 0 = 45 := by simpa using hdq
          have hend : slEnd id = if id = [] then slNone else id := by
            unfold slEnd slTrim
            rw [if_neg hq45]
          by_cases hpe : id = []
          · have hp1 : ((id.length : Int) == 0) = true := by rw [hpe]; rfl
            have hres : res = slNone := by rw [HQ.out, hend, if_pos hpe]
            have HRES := Lib.hid hres
            clear hres hpe hend hq45 dd hdq
            go_wp2_with fail
            refine DD.out.mono ?_
            rintro e w' ⟨rfl, rfl⟩
            go_wp2
            go_ret
            have hr9 := HRES.out
            subst hr9
            exact ⟨rfl, HBW2.out⟩
          · have hcv := conv_row HR5.out hpe
            have hp0 : 0 < id.length := List.length_pos_iff.2 hpe
            have hp1 : ((id.length : Int) == 0) = false := by simp; omega
            have hres : res = id := by rw [HQ.out, hend, if_neg hpe]
            have HRES := Lib.hid hres
            clear hres hpe hend hq45 dd hdq
            generalize hn9 : id.length = n9 at *
            go_wp2_with fail
            refine DD.out.mono ?_
            rintro e w' ⟨rfl, rfl⟩
            go_wp2
            go_ret
            have hr9 := HRES.out
            subst hr9
            exact ⟨rfl, HBW2.out⟩
      · have hl40 : ((id.length : Int) == 40) = false := by simp; omega
        have hl39 : id.length < 40 := by omega
        clear hout h40
        cases hk : slKeepI (Utf8.decode f pos).1 with
        | true =>
          obtain ⟨k1, k2, k3⟩ := hkeep hk
          rw [hk] at sp
          rw [slOne_yes id b k3] at hstep
          have hr1 : ((Utf8.decode f pos).1 : Int) = b.toNat := by rw [k2]
          have hw8 : IntKind.u8.wrap (b.toNat : Int) = b.toNat := by show (b.toNat : Int) % 256 = _; have := b.toNat_lt; omega
          have hbt := b.toNat_lt
          have HST := Lib.hid hstep
          have SP := Lib.hid sp
          clear hkeep hoth hk hstep sp k3
          generalize hW : wr.iterAt w1.heap.size f (pos + (Utf8.decode f pos).2) = W at *
          generalize hq : pos + (Utf8.decode f pos).2 = pos2 at *
          generalize hr0 : ((Utf8.decode f pos).1 : Int) = r0 at *
          subst hr1
          clear hr0
          go_wp2_with fail
          refine SP.out.mono ?_
          rintro e w' ⟨rfl, rfl⟩
          have hown2 := HI2.out.alloc (.cells #[.int .u8 b.toNat] 5)
          have HO2 := Lib.hid hown2
          clear hown2
          go_wp2_with (at_builtin; refine wpList_append_lies _ rfl _ _ 49 rfl w.heap.size 5 i0 (.int .u8 0) 1 1 Tryd.underlying49 hi0 hz0 hz1 hz2 rfl (by decide) _ _ _ rfl HO2.out ⟨W.heap.size, 0, none⟩ 1 1 [.int .u8 b.toNat] rfl rfl ?c5 ?c6 ?c1 ?c2 ?c3 ?c4 _ rfl ?_)
          case c5 =>
            intro j u hj
            match j, hj with
            | 0, hj => simp at hj; subst hj; simp [Addr.add]
          case c6 => intro u hu; simp at hu; subst hu; rfl
          case c1 => omega
          case c2 => unfold maxLen; omega
          case c3 => omega
          case c4 => have := HBW2.out.size; simp only [alloc_size]; omega
          intro g1 cap1 w6 hown6 hgrow6 hat6 hlt6
          have hit6 : w6.heap[w1.heap.size]? = some (.stringIter f pos2) := by
            rw [hgrow6.block w1.heap.size (by simp; omega) (fun e => iter_ne HI2.out HIT2.out e.symm), Below.heap_alloc _ _ _ hsz2]
            exact HIT2.out
          have hb6 := (HBW2.out.alloc HBW2.out.size (.cells #[.int .u8 b.toNat] 5)).grown hgrow6 (by simp; have := HBW2.out.size; omega) (fun r e => (HO2.out.lt r e).1)
          rw [show Lib.byteCells id ++ [Value.int .u8 b.toNat] = Lib.byteCells (id ++ [b]) from by rw [Lib.byteCells_append]; rfl] at hown6
          have HX := Lib.hid (And.intro hit6 (And.intro hown6 hb6))
          clear hit6 hown6 hb6 hgrow6 hat6 hlt6
          go_wp2
          go_roundw
          case rel => exact ⟨pos2, id ++ [b], HX.out.1, by rw [List.length_append]; exact HX.out.2.1, HX.out.2.2, HST.out.symm, by simp; omega, hpn⟩
          case measure => simp only [World.iterPos, HX.out.1, Hit.out]; omega
        | false =>
          obtain ⟨k1, _⟩ := hoth hk
          rw [hk] at sp
          have SP := Lib.hid sp
          have HOT := Lib.hid k1
          have HST := Lib.hid hstep
          clear hkeep hoth hk hstep sp k1
          generalize hW : wr.iterAt w1.heap.size f (pos + (Utf8.decode f pos).2) = W at *
          generalize hq : pos + (Utf8.decode f pos).2 = pos2 at *
          generalize hr0 : ((Utf8.decode f pos).1 : Int) = r0 at *
          by_cases hn : id = []
          · have hst2 := HST.out.trans (slOne_same id b HOT.out (.inl hn))
            have HST2 := Lib.hid hst2
            clear hst2
            subst hn
            go_wp2_with fail
            refine SP.out.mono ?_
            rintro e w' ⟨rfl, rfl⟩
            go_wp2
            go_roundw
            case rel => exact ⟨pos2, [], HIT2.out, HI2.out, HBW2.out, HST2.out.symm, by simp, hpn⟩
            case measure => simp only [World.iterPos, HIT2.out, Hit.out]; omega
          · have hl0 : 0 < id.length := List.length_pos_iff.2 hn
            have hd0 : decide ((0 : Int) < id.length) = true := by simp; omega
            have dd := dashed_any A5 c5 id W hr5
            cases hdq : (id.getLastD 0 == 45) with
            | true =>
              have HST2 := Lib.hid (HST.out.trans (slOne_same id b HOT.out (.inr hdq)))
              rw [hdq] at dd
              have DD := Lib.hid dd
              clear dd hdq hn
              go_wp2_with fail
              refine SP.out.mono ?_
              rintro e w' ⟨rfl, rfl⟩
              go_wp2_with fail
              refine DD.out.mono ?_
              rintro e w' ⟨rfl, rfl⟩
              go_wp2
              go_roundw
              case rel => exact ⟨pos2, id, HIT2.out, HI2.out, HBW2.out, HST2.out.symm, by omega, hpn⟩
              case measure => simp only [World.iterPos, HIT2.out, Hit.out]; omega
            | false =>
              have HST2 := Lib.hid (HST.out.trans (slOne_dash id b HOT.out hn hdq))
              rw [hdq] at dd
              have DD := Lib.hid dd
              clear dd hdq hn
              go_wp2_with fail
              refine SP.out.mono ?_
              rintro e w' ⟨rfl, rfl⟩
              go_wp2_with fail
              refine DD.out.mono ?_
              rintro e w' ⟨rfl, rfl⟩
              have hown2 := HI2.out.alloc (.cells #[.int .u8 45] 5)
              have HO2 := Lib.hid hown2
              clear hown2
              go_wp2_with (at_builtin; refine wpList_append_lies _ rfl _ _ 49 rfl w.heap.size 5 i0 (.int .u8 0) 1 1 Tryd.underlying49 hi0 hz0 hz1 hz2 rfl (by decide) _ _ _ rfl HO2.out ⟨W.heap.size, 0, none⟩ 1 1 [.int .u8 45] rfl rfl ?c5 ?c6 ?c1 ?c2 ?c3 ?c4 _ rfl ?_)
              case c5 =>
                intro j u hj
                match j, hj with
                | 0, hj => simp at hj; subst hj; simp [Addr.add]
              case c6 => intro u hu; simp at hu; subst hu; rfl
              case c1 => omega
              case c2 => unfold maxLen; omega
              case c3 => omega
              case c4 => have := HBW2.out.size; simp only [alloc_size]; omega
              intro g1 cap1 w6 hown6 hgrow6 hat6 hlt6
              have hit6 : w6.heap[w1.heap.size]? = some (.stringIter f pos2) := by
                rw [hgrow6.block w1.heap.size (by simp; omega) (fun e => iter_ne HI2.out HIT2.out e.symm), Below.heap_alloc _ _ _ hsz2]
                exact HIT2.out
              have hb6 := (HBW2.out.alloc HBW2.out.size (.cells #[.int .u8 45] 5)).grown hgrow6 (by simp; have := HBW2.out.size; omega) (fun r e => (HO2.out.lt r e).1)
              rw [show Lib.byteCells id ++ [Value.int .u8 45] = Lib.byteCells (id ++ [45]) from by rw [Lib.byteCells_append]; rfl] at hown6
              have HX := Lib.hid (And.intro hit6 (And.intro hown6 hb6))
              clear hit6 hown6 hb6 hgrow6 hat6 hlt6
              go_wp2
              go_roundw
              case rel => exact ⟨pos2, id ++ [45], HX.out.1, by rw [List.length_append]; exact HX.out.2.1, HX.out.2.2, HST2.out.symm, by simp; omega, hpn⟩
              case measure => simp only [World.iterPos, HX.out.1, Hit.out]; omega
    · have hnx : ∀ ty, (Instr.next (.pointer (some ⟨w1.heap.size, 0, none⟩)) true ty).run Tryd.prog wr = _ := fun ty => Lib.run_next_end_at wr w1.heap.size f pos ty hit hp
      have hall : f.data.toList.take pos = f.data.toList := List.take_of_length_le (by simp; omega)
      rw [hall] at hid
      have HQ := Lib.hid (HE.out id (by rw [← hid, List.take_of_length_le hlen]))
      obtain ⟨A5, c5, rfl, hr5, _, _⟩ := RowOf.own hrow
      have HBW2 := Lib.hid hbw
      clear hrow hbw hall hid
      have hle5 := hr5.1
      have hcap5 := hr5.2.1
      rw [Lib.byteCells_length] at hle5
      unfold maxLen at hcap5
      have HR5 := Lib.hid hr5
      have dd := dashed_any A5 c5 id wr hr5
      clear hr5
      cases hdq : (id.getLastD 0 == 45) with
      | true =>
        rw [hdq] at dd
        have DD := Lib.hid dd
        have hq45 : id.getLastD 0 = 45 := by simpa using hdq
        have hne : id ≠ [] := by rintro rfl; exact absurd hq45 (by decide)
        obtain ⟨p, z, rfl⟩ := snoc_of hne
        rw [getLastD_snoc] at hq45
        subst hq45
        have hend : slEnd (p ++ [45]) = if p = [] then slNone else p := by
          unfold slEnd slTrim
          rw [getLastD_snoc, if_pos rfl, List.dropLast_concat]
        have hrp := row_take HR5.out
        have HEN := Lib.hid hend
        clear dd hdq hend hne
        rw [List.length_append, List.length_singleton] at hle5 hlen DD ⊢
        have hm1 : ((p.length + 1 : Nat) : Int) - 1 = (p.length : Int) := by omega
        by_cases hpe : p = []
        · have hp1 : ((p.length : Int) == 0) = true := by rw [hpe]; rfl
          have hres : res = slNone := by rw [HQ.out, HEN.out, if_pos hpe]
          have HRES := Lib.hid hres
          clear hres hpe hrp
          generalize hn1 : p.length + 1 = n1 at *
          generalize p.length = m1 at *
          go_wp2_with fail
          refine DD.out.mono ?_
          rintro e w' ⟨rfl, rfl⟩
          go_wp2
          go_ret
          have hr9 := HRES.out
          subst hr9
          exact ⟨rfl, HBW2.out⟩
        · have hcv := conv_row hrp hpe
          have hp0 : 0 < p.length := List.length_pos_iff.2 hpe
          have hp1 : ((p.length : Int) == 0) = false := by simp; omega
          have hres : res = p := by rw [HQ.out, HEN.out, if_neg hpe]
          have HRES := Lib.hid hres
          clear hres hpe hrp
          generalize hn1 : p.length + 1 = n1 at *
          generalize hm : p.length = m1 at *
          go_wp2_with fail
          refine DD.out.mono ?_
          rintro e w' ⟨rfl, rfl⟩
          go_wp2
          go_ret
          have hr9 := HRES.out
          subst hr9
          exact ⟨rfl, HBW2.out⟩
      | false =>
        rw [hdq] at dd
        have DD := Lib.hid dd
        have hq45 : ¬ id.getLastD 0 = 45 := by simpa using hdq
        have hend : slEnd id = if id = [] then slNone else id := by
          unfold slEnd slTrim
          rw [if_neg hq45]
        by_cases hpe : id = []
        · have hp1 : ((id.length : Int) == 0) = true := by rw [hpe]; rfl
          have hres : res = slNone := by rw [HQ.out, hend, if_pos hpe]
          have HRES := Lib.hid hres
          clear hres hpe hend hq45 dd hdq
          go_wp2_with fail
          refine DD.out.mono ?_
          rintro e w' ⟨rfl, rfl⟩
          go_wp2
          go_ret
          have hr9 := HRES.out
          subst hr9
          exact ⟨rfl, HBW2.out⟩
        · have hcv := conv_row HR5.out hpe
          have hp0 : 0 < id.length := List.length_pos_iff.2 hpe
          have hp1 : ((id.length : Int) == 0) = false := by simp; omega
          have hres : res = id := by rw [HQ.out, hend, if_neg hpe]
          have HRES := Lib.hid hres
          clear hres hpe hend hq45 dd hdq
          generalize hn9 : id.length = n9 at *
          go_wp2_with fail
          refine DD.out.mono ?_
          rintro e w' ⟨rfl, rfl⟩
          go_wp2
          go_ret
          have hr9 := HRES.out
          subst hr9
          exact ⟨rfl, HBW2.out⟩

end Go.Proofs.YtpifhjdbcdcelaaDoor

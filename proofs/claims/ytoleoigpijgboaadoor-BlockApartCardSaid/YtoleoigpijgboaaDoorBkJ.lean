/-
  BlockApart: two texts with a blank line between are the blocks of both, one behind the other, if the first does not go on: the law's walk.
-/
import Derived.Test.YtoleoigpijgboaaDoorBkH
import Derived.Test.YtoleoigpijgboaaDoorBkE
import Derived.Test.YtoleoigpijgboaaDoorBkQ
import Derived.Test.YtoleoigpijgboaaDoorReg
namespace Go.Proofs.YtoleoigpijgboaaDoor
open Go.RowKit
set_option linter.unusedSimpArgs false
set_option linter.unusedVariables false
set_option maxRecDepth 100000

theorem blksC_oneC (Y : List Blk) : ∀ u ∈ blksC Y, u.oneCell' = true := by
  intro u hu
  unfold blksC at hu
  obtain ⟨b, _, hb⟩ := List.mem_flatMap.1 hu
  exact blkC_one b u hb
theorem append_blks {w : World} {ops : Array Oper} {rest : List Oper} {o : Oper} {a : Act} {Q : Exit → Act → World → Prop} (hgd : o.guard = none) (s x : Operand)
    (ho : o.op = .call { callee := .builtin .append, args := #[s, x], argTypes := #[25, 25] }) (base : Nat) (v : Value) (n : Nat) (X : List Blk) (hs : a.eval s = v)
    (hown : w.ownsRow base 28 6 v n (blksC X)) (B' : Nat) (Y : List Blk) (u : Value) (hx : a.eval x = u) (m : Nat) (hY : w.ownsRow B' 28 6 u m (blksC Y)) (hpos : 0 < m)
    (h63 : n + m ≤ 100000000) (hbase : base ≤ w.heap.size)
    (h : ∀ v' w', w'.ownsRow base 28 6 v' (n + m) (blksC (X ++ Y)) → w.grownBy w' v.ownBlock → wpList Tryd.prog ops Q rest (a.put o.dst v') w') : wpList Tryd.prog ops Q (o :: rest) a w := by
  obtain ⟨i0, hi, hz0, hz1, hz2⟩ := info_parts infoBlk
  obtain ⟨g, cap, cur, e, hb, hlt, hnc, hcm, hg, hc⟩ := own_block hY hpos
  subst e
  refine wpList_append_own w hgd s x 25 ho base 28 i0 (.agg #[.int .i64 0, .int .i64 0, .int .i64 0, .bool false, .string ByteArray.empty, .string ByteArray.empty]) 6 64 Tryd.underlying25 hi hz0 hz1 hz2 rfl (by decide) v n (blksC X) hs hown ⟨g, 0, none⟩ m cap (blksC Y) hx hY.1 (fun j u hu => by rw [addr_add, Nat.zero_add]; exact hc j u hu) (blksC_oneC Y) (by unfold maxLen; omega) (by omega) hbase ?_
  intro v' w' h2 h3 _
  exact h v' w' (by rw [blksC_append]; exact h2) h3

set_option maxHeartbeats 16000000 in
theorem blockApart_early (w : World) (A : Option Addr) (ca : Nat) (la : List (List UInt8)) (B : Option Addr) (cb : Nat) (lb : List (List UInt8)) (hra : RowOf w A ca (strs la)) (hza : ∀ x ∈ la, x.length ≤ 9223372036854775807) (hrb : RowOf w B cb (strs lb)) (hzb : ∀ x ∈ lb, x.length ≤ 9223372036854775807) (hbad : plainL la = false ∨ plainL lb = false) :
    Calls Tryd.prog 12 #[.slice A la.length ca, .slice B lb.length cb] w fun e w' => e = .returned (.bool true) ∧ Below w.heap.size w w' := by
  have cpa := plain9_any A ca la w hra hza
  have cpb := plain9_any B cb lb w hrb hzb
  have hca := hra.strs_le
  have hcb := hrb.strs_le
  clear hra hrb hza hzb
  cases hpa : plainL la with
  | false =>
    rw [hpa] at cpa
    clear hpa hbad cpb
    go_enter Tryd.func12, Tryd.ntmps12
    go_wp2_with fail
    refine cpa.mono ?_
    rintro e w0 ⟨rfl, hwe⟩
    have hwe := hwe.symm
    subst hwe
    go_wp2_with fail
    refine (alive9_any _).mono ?_
    rintro e w1 ⟨rfl, b1⟩
    go_wp2
    go_ret
    exact ⟨rfl, b1⟩
  | true =>
    have hpb : plainL lb = false := by simpa [hpa] using hbad
    rw [hpa] at cpa
    rw [hpb] at cpb
    clear hpa hpb hbad
    go_enter Tryd.func12, Tryd.ntmps12
    go_wp2_with fail
    refine cpa.mono ?_
    rintro e w0 ⟨rfl, hwe⟩
    have hwe := hwe.symm
    subst hwe
    go_wp2_with fail
    refine cpb.mono ?_
    rintro e w0 ⟨rfl, hwe⟩
    have hwe := hwe.symm
    subst hwe
    go_wp2_with fail
    refine (alive9_any _).mono ?_
    rintro e w1 ⟨rfl, b1⟩
    go_wp2
    go_ret
    exact ⟨rfl, b1⟩

set_option maxHeartbeats 16000000 in
theorem blockApart_core (w : World) (A : Option Addr) (ca : Nat) (la : List (List UInt8)) (B : Option Addr) (cb : Nat) (lb : List (List UInt8)) (hra : RowOf w A ca (strs la)) (hza : ∀ x ∈ la, x.length ≤ 9223372036854775807) (hrb : RowOf w B cb (strs lb)) (hzb : ∀ x ∈ lb, x.length ≤ 9223372036854775807) (hpa : plainL la = true) (hpb : plainL lb = true) :
    Calls Tryd.prog 12 #[.slice A la.length ca, .slice B lb.length cb] w fun e w' => e = .returned (.bool true) ∧ Below w.heap.size w w' := by
  obtain ⟨i0, hi, hz0, hz1, hz2⟩ := info_parts infoString
  have cpa := plain9_any A ca la w hra hza
  have cpb := plain9_any B cb lb w hrb hzb
  rw [hpa] at cpa
  rw [hpb] at cpb
  obtain ⟨hfa, hla, _⟩ := plain_few hpa
  obtain ⟨hfb, hlb, _⟩ := plain_few hpb
  have HFA := Lib.hid hfa
  have HFB := Lib.hid hfb
  have hca := hra.strs_le
  have hcb := hrb.strs_le
  have HRA := Lib.hid hra
  have HRB := Lib.hid hrb
  clear hra hrb hza hzb hfa hfb hpa hpb
  go_enter Tryd.func12, Tryd.ntmps12
  go_wp2_with fail
  refine cpa.mono ?_
  rintro e w0 ⟨rfl, hwe⟩
  have hwe := hwe.symm
  subst hwe
  go_wp2_with fail
  refine cpb.mono ?_
  rintro e w0 ⟨rfl, hwe⟩
  have hwe := hwe.symm
  subst hwe
  go_wp2_with fail
  refine (alive9_any _).mono ?_
  rintro e w1 ⟨rfl, b1⟩
  have HB1 := Lib.hid b1
  have HRA1 := Lib.hid (HRA.out.below b1)
  have HRB1 := Lib.hid (HRB.out.below b1)
  have c1 := bparse_any A ca la w1 HRA1.out HFA.out
  clear b1 cpa cpb
  go_wp2_with fail
  refine c1.mono ?_
  rintro e w2 ⟨vx, rfl, hox, b2⟩
  have HB2 := Lib.hid b2
  have HRB2 := Lib.hid (HRB1.out.below b2)
  have HRA2 := Lib.hid (HRA1.out.below b2)
  have HOx := Lib.hid hox
  have c2 := bparse_any B cb lb w2 HRB2.out HFB.out
  clear b2 hox c1
  go_wp2_with fail
  refine c2.mono ?_
  rintro e w3 ⟨vy, rfl, hoy, b3⟩
  have hs2 := HB2.out.size
  have hs3 := b3.size
  have hox3 := own_low (ownsRow_below HOx.out b3) (Nat.le_refl w1.heap.size)
  have hoy3 := own_low hoy hs2
  have HB3 := Lib.hid (HB2.out.trans (b3.mono hs2))
  have HRA3 := Lib.hid (HRA2.out.below b3)
  have HRB3 := Lib.hid (HRB2.out.below b3)
  have hap := fun c => parse_apart lb la.length la (Nat.le_refl _) c
  have HAp := Lib.hid hap
  clear hap b3 hoy c2
  have HSnd := Lib.hid (show ∀ b ∈ parseB la, 0 ≤ b.depth from fun b hb => by
    have h := allL_sound 12 la b hb
    rw [show (12 : Int) - ((12 : Nat) : Int) = 0 from by omega] at h
    exact h.1)
  have hxl : (parseB la).length ≤ 2600000 := by
    have h1 := (firstM_count 12).1 la
    show (allL 12 la).length ≤ _
    omega
  have hyl : (parseB lb).length ≤ 2600000 := by
    have h1 := (firstM_count 12).1 lb
    show (allL 12 lb).length ≤ _
    omega
  generalize parseB la = xs at *
  generalize parseB lb = ys at *
  rcases Nat.eq_zero_or_pos xs.length with hx0 | hx0
  · obtain ⟨Ax, cx, rfl, hatx⟩ := BlksAt.own hox3
    obtain ⟨Ay, cy, rfl, haty⟩ := BlksAt.own hoy3
    rw [hx0]
    clear hox3 hoy3 hatx haty hx0
    go_wp2
    go_ret
    exact ⟨rfl, HB1.out.then HB3.out⟩
  rcases Nat.eq_zero_or_pos ys.length with hy0 | hy0
  · obtain ⟨Ax, cx, rfl, hatx⟩ := BlksAt.own hox3
    obtain ⟨Ay, cy, rfl, haty⟩ := BlksAt.own hoy3
    obtain ⟨q, hq⟩ : ∃ q, xs.length = q + 1 := ⟨xs.length - 1, by omega⟩
    have hd : decide (((q + 1 : Nat) : Int) = 0) = false := decide_eq_false (by omega)
    rw [hy0, hq]
    clear hox3 hoy3 hatx haty hx0 hy0 hq
    go_wp2
    go_ret
    exact ⟨rfl, HB1.out.then HB3.out⟩
  obtain ⟨Ax, cx, rfl, hatx⟩ := BlksAt.own hox3
  obtain ⟨Ay, cy, rfl, haty⟩ := BlksAt.own hoy3
  obtain ⟨q, hq⟩ : ∃ q, xs.length = q + 1 := ⟨xs.length - 1, by omega⟩
  obtain ⟨p, hp⟩ : ∃ p, ys.length = p + 1 := ⟨ys.length - 1, by omega⟩
  have hd1 : ((q : Int) + 1 == 0) = false := beq_eq_false_iff_ne.2 (by omega)
  have hd2 : ((p : Int) + 1 == 0) = false := beq_eq_false_iff_ne.2 (by omega)
  have hq1 : q < xs.length := by omega
  obtain ⟨b9, off, rfl, hb9, hc0, hc1, hc2, hc3, hc4, hc5⟩ := hatx.at hq1
  have hlx := hatx.le
  have hcx := hatx.cap
  have hly := haty.le
  have hcy := haty.cap
  unfold maxLen at hcx hcy
  have hlast : xs.getLast? = some xs[q] := by rw [List.getLast?_eq_getElem?, hq]; simp
  have HAp2 := Lib.hid (HAp.out xs[q] hlast)
  have HSx := Lib.hid (HSnd.out xs[q] (List.getElem_mem _))
  obtain ⟨c, hc⟩ : ∃ c, xs[q] = c := ⟨_, rfl⟩
  rw [hc] at hc0 hc1 hc2 hc3 hc4 hc5 HAp2 HSx
  have HOx := Lib.hid hox3
  have HOy := Lib.hid hoy3
  have HQ := Lib.hid hq
  have HP := Lib.hid hp
  rw [hq] at hlx hxl ⊢
  rw [hp] at hly hyl ⊢
  clear hox3 hoy3 hatx haty hlast hc hq1 hx0 hy0 HAp hq hp
  obtain ⟨kd, dp, cn, ct, cs, ci⟩ := c
  dsimp only at hc0 hc1 hc2 hc3 hc4 hc5 HAp2
  by_cases hdp : 0 < dp
  · have hdd : decide ((0 : Int) < dp) = true := decide_eq_true hdp
    clear hdp
    go_wp2
    go_ret
    exact ⟨rfl, HB1.out.then (HB3.out.alloc (by omega) _)⟩
  have hdd : decide ((0 : Int) < dp) = false := decide_eq_false hdp
  by_cases hk : kd = 1 ∨ kd = 7 ∨ kd = 2 ∨ kd = 8
  · have hdz : dp = 0 := by
      have := HSx.out
      dsimp only at this
      omega
    have HPz := Lib.hid (HAp2.out hdz hk)
    subst hdz
    have HB4 := Lib.hid (HB3.out.alloc (by omega : w1.heap.size ≤ w3.heap.size) (.cells #[.int .i64 kd, .int .i64 0, .int .i64 cn, .bool ct, .string ⟨cs.toArray⟩, .string ⟨ci.toArray⟩] 28))
    have HRA4 := Lib.hid (HRA3.out.below ((Below.refl _ w3).alloc (Nat.le_refl _) (.cells #[.int .i64 kd, .int .i64 0, .int .i64 cn, .bool ct, .string ⟨cs.toArray⟩, .string ⟨ci.toArray⟩] 28)))
    clear HAp2 HSx hdp
    rcases hk with rfl | rfl | rfl | rfl
    case inl =>
      have hszA : w3.heap.size + 1 ≤ (w3.alloc (.cells #[.int .i64 1, .int .i64 0, .int .i64 cn, .bool ct, .string ⟨cs.toArray⟩, .string ⟨ci.toArray⟩] 28)).heap.size := by rw [alloc_size]; exact Nat.le_refl _
      go_wp2_with (at_builtin; refine append_row rfl _ _ rfl (w3.heap.size + 1) (.slice none 0 0) 0 [] rfl (World.ownsRow_nil _ _ _ _) A ca la rfl HRA4.out (by omega) hszA ?_)
      intro v5 w5 hown5 hgrow5
      have HB5 := Lib.hid (HB4.out.trans (((Below.refl _ _).grown (B := w3.heap.size + 1) hgrow5 hszA (fun k hk => by simp [Value.ownBlock] at hk)).mono (by omega)))
      have hs5 := HB5.out.size
      have HB35 := Lib.hid (((Below.refl _ _).grown (B := w3.heap.size + 1) hgrow5 hszA (fun k hk => by simp [Value.ownBlock] at hk)).mono (by omega : w3.heap.size ≤ w3.heap.size + 1))
      have hs35 := (((Below.refl _ (w3.alloc (.cells #[.int .i64 1, .int .i64 0, .int .i64 cn, .bool ct, .string ⟨cs.toArray⟩, .string ⟨ci.toArray⟩] 28))).grown (B := w3.heap.size + 1) hgrow5 hszA (fun k hk => by simp [Value.ownBlock] at hk))).size
      have hnw := cells_one w5 (.string ⟨#[]⟩) 9
      have hrow5 := hown5.alloc (.cells #[.string ⟨#[]⟩] 9)
      clear hgrow5 hown5
      go_wp2_with (at_builtin; refine wpList_append_own _ rfl _ _ 22 rfl (w3.heap.size + 1) 9 i0 (.string ByteArray.empty) 1 16 Tryd.underlying22 hi hz0 hz1 hz2 rfl (by decide) _ _ _ rfl hrow5 ⟨w5.heap.size, 0, none⟩ 1 1 [.string ⟨#[]⟩] rfl rfl hnw (by simp [Value.oneCell']) (by unfold maxLen; omega) (by omega) (by simp; omega) ?_)
      intro v7 w7 hown7 hgrow7 _
      have hs57 : w5.heap.size + 1 ≤ w7.heap.size := by have := hgrow7.size; rw [alloc_size] at this; exact this
      have HB57 := Lib.hid (((Below.refl w3.heap.size w5).alloc (by omega) (.cells #[.string ⟨#[]⟩] 9)).trans (below_of_grown (B := w3.heap.size) hgrow7 (fun g hg => by have := (hrow5.lt g hg).1; omega) (by rw [alloc_size]; omega)))
      have HB7 := Lib.hid (HB5.out.trans (HB57.out.mono (by omega)))
      have HRB7 := Lib.hid (HRB3.out.below ((((Below.refl _ w3).alloc (Nat.le_refl _) (.cells #[.int .i64 1, .int .i64 0, .int .i64 cn, .bool ct, .string ⟨cs.toArray⟩, .string ⟨ci.toArray⟩] 28)).trans HB35.out).trans HB57.out))
      have hown7b : w7.ownsRow (w3.heap.size + 1) 9 1 v7 (la.length + 1) (strs (la ++ [[]])) := by rw [strs_append]; exact hown7
      clear hgrow7 hrow5 hnw hown7
      go_wp2_with (at_builtin; refine append_row rfl _ _ rfl (w3.heap.size + 1) _ (la.length + 1) (la ++ [[]]) rfl hown7b B cb lb rfl HRB7.out (by omega) (by omega) ?_)
      intro v8 w8 hown8 hgrow8
      have hs78 := hgrow8.size
      have HB38 := Lib.hid (((((Below.refl _ w3).alloc (Nat.le_refl _) (.cells #[.int .i64 1, .int .i64 0, .int .i64 cn, .bool ct, .string ⟨cs.toArray⟩, .string ⟨ci.toArray⟩] 28)).trans HB35.out).trans HB57.out).trans (below_of_grown (B := w3.heap.size) hgrow8 (fun g hg => by have := (hown7b.lt g hg).1; omega) (by omega)))
      have HOx8 := Lib.hid (ownsRow_below HOx.out HB38.out)
      have HOy8 := Lib.hid (ownsRow_below HOy.out HB38.out)
      have HB8 := Lib.hid (HB3.out.trans (HB38.out.mono (by omega)))
      have hrw : (la ++ [] :: lb).length = la.length + 1 + lb.length := by rw [List.length_append, List.length_cons]; omega
      rw [← hrw] at hown8
      obtain ⟨A8, c8, rfl, hr8, _⟩ := RowOf.own hown8
      have hfew : Few (la ++ [] :: lb) := ⟨by rw [hrw]; omega, fun y hy => by
        rcases List.mem_append.1 hy with hy | hy
        · exact HFA.out.wt y hy
        · rcases List.mem_cons.1 hy with rfl | hy
          · decide
          · exact HFB.out.wt y hy⟩
      have cz := bparse_any A8 c8 (la ++ [] :: lb) w8 hr8 hfew
      rw [HPz.out, hrw] at cz
      rw [hrw]
      clear hgrow8 hown7b hown8 hr8 hfew hrw
      go_wp2_with fail
      refine cz.mono ?_
      rintro e w9 ⟨vz, rfl, hoz, b9z⟩
      have HOx9 := ownsRow_below HOx8.out b9z
      have HOy9 := ownsRow_below HOy8.out b9z
      have hs89 := b9z.size
      have HB9 := Lib.hid (HB8.out.trans (b9z.mono (by omega)))
      obtain ⟨Az, cz2, rfl, hatz⟩ := BlksAt.own hoz
      have hlz : (xs ++ ys).length = q + 1 + (p + 1) := by rw [List.length_append, HQ.out, HP.out]
      rw [HQ.out] at HOx9
      rw [HP.out] at HOy9
      have HLz := Lib.hid hlz
      have HOz := Lib.hid hoz
      rw [hlz]
      clear hatz hoz b9z cz hlz
      have HOy9 := Lib.hid HOy9
      go_wp2_with (at_builtin; refine append_blks rfl _ _ rfl w9.heap.size (.slice none 0 0) 0 [] rfl (World.ownsRow_nil _ _ _ _) w1.heap.size xs _ rfl (q + 1) HOx9 (by omega) (by omega) (Nat.le_refl _) ?_)
      intro v10 w10 hown10 hgrow10
      have hown10b : w10.ownsRow w9.heap.size 28 6 v10 (q + 1) (blksC xs) := by simpa using hown10
      have hb10 : Below w9.heap.size w9 w10 := (Below.refl _ _).grown hgrow10 (Nat.le_refl _) (fun k hk => by simp [Value.ownBlock] at hk)
      have HOy10 := ownsRow_below HOy9.out hb10
      have HB910 := Lib.hid hb10
      have hs910 := hb10.size
      clear hgrow10 hown10 hb10 HOx9
      go_wp2_with (at_builtin; refine append_blks rfl _ _ rfl w9.heap.size _ (q + 1) xs rfl hown10b w1.heap.size ys _ rfl (p + 1) HOy10 (by omega) (by omega) hs910 ?_)
      intro v11 w11 hown11 hgrow11
      have hb11 : Below w9.heap.size w9 w11 := HB910.out.trans (below_of_grown hgrow11 (fun g hg => (hown10b.lt g hg).1) (by omega))
      rw [← HLz.out] at hown11
      obtain ⟨A11, c11, rfl, hat11⟩ := BlksAt.own hown11
      obtain ⟨Az', cz', e', hatz'⟩ := BlksAt.own (ownsRow_below HOz.out hb11)
      cases e'
      have HB11 := Lib.hid (HB9.out.trans (hb11.mono (by omega)))
      have cs' := sameBlocks_same Az A11 cz2 c11 (xs ++ ys) w11 hatz' hat11
      rw [HLz.out] at cs' ⊢
      clear hgrow11 hown10b hown11 hat11 hatz' hb11 HOy10
      go_wp2_with fail
      refine cs'.mono ?_
      rintro e w12 ⟨rfl, nq, rfl⟩
      have HB12 := HB1.out.then (below_drewN' HB11.out nq)
      go_wp2
      go_ret
      exact ⟨rfl, HB12⟩
    case inr.inl =>
      have hszA : w3.heap.size + 1 ≤ (w3.alloc (.cells #[.int .i64 7, .int .i64 0, .int .i64 cn, .bool ct, .string ⟨cs.toArray⟩, .string ⟨ci.toArray⟩] 28)).heap.size := by rw [alloc_size]; exact Nat.le_refl _
      go_wp2_with (at_builtin; refine append_row rfl _ _ rfl (w3.heap.size + 1) (.slice none 0 0) 0 [] rfl (World.ownsRow_nil _ _ _ _) A ca la rfl HRA4.out (by omega) hszA ?_)
      intro v5 w5 hown5 hgrow5
      have HB5 := Lib.hid (HB4.out.trans (((Below.refl _ _).grown (B := w3.heap.size + 1) hgrow5 hszA (fun k hk => by simp [Value.ownBlock] at hk)).mono (by omega)))
      have hs5 := HB5.out.size
      have HB35 := Lib.hid (((Below.refl _ _).grown (B := w3.heap.size + 1) hgrow5 hszA (fun k hk => by simp [Value.ownBlock] at hk)).mono (by omega : w3.heap.size ≤ w3.heap.size + 1))
      have hs35 := (((Below.refl _ (w3.alloc (.cells #[.int .i64 7, .int .i64 0, .int .i64 cn, .bool ct, .string ⟨cs.toArray⟩, .string ⟨ci.toArray⟩] 28))).grown (B := w3.heap.size + 1) hgrow5 hszA (fun k hk => by simp [Value.ownBlock] at hk))).size
      have hnw := cells_one w5 (.string ⟨#[]⟩) 9
      have hrow5 := hown5.alloc (.cells #[.string ⟨#[]⟩] 9)
      clear hgrow5 hown5
      go_wp2_with (at_builtin; refine wpList_append_own _ rfl _ _ 22 rfl (w3.heap.size + 1) 9 i0 (.string ByteArray.empty) 1 16 Tryd.underlying22 hi hz0 hz1 hz2 rfl (by decide) _ _ _ rfl hrow5 ⟨w5.heap.size, 0, none⟩ 1 1 [.string ⟨#[]⟩] rfl rfl hnw (by simp [Value.oneCell']) (by unfold maxLen; omega) (by omega) (by simp; omega) ?_)
      intro v7 w7 hown7 hgrow7 _
      have hs57 : w5.heap.size + 1 ≤ w7.heap.size := by have := hgrow7.size; rw [alloc_size] at this; exact this
      have HB57 := Lib.hid (((Below.refl w3.heap.size w5).alloc (by omega) (.cells #[.string ⟨#[]⟩] 9)).trans (below_of_grown (B := w3.heap.size) hgrow7 (fun g hg => by have := (hrow5.lt g hg).1; omega) (by rw [alloc_size]; omega)))
      have HB7 := Lib.hid (HB5.out.trans (HB57.out.mono (by omega)))
      have HRB7 := Lib.hid (HRB3.out.below ((((Below.refl _ w3).alloc (Nat.le_refl _) (.cells #[.int .i64 7, .int .i64 0, .int .i64 cn, .bool ct, .string ⟨cs.toArray⟩, .string ⟨ci.toArray⟩] 28)).trans HB35.out).trans HB57.out))
      have hown7b : w7.ownsRow (w3.heap.size + 1) 9 1 v7 (la.length + 1) (strs (la ++ [[]])) := by rw [strs_append]; exact hown7
      clear hgrow7 hrow5 hnw hown7
      go_wp2_with (at_builtin; refine append_row rfl _ _ rfl (w3.heap.size + 1) _ (la.length + 1) (la ++ [[]]) rfl hown7b B cb lb rfl HRB7.out (by omega) (by omega) ?_)
      intro v8 w8 hown8 hgrow8
      have hs78 := hgrow8.size
      have HB38 := Lib.hid (((((Below.refl _ w3).alloc (Nat.le_refl _) (.cells #[.int .i64 7, .int .i64 0, .int .i64 cn, .bool ct, .string ⟨cs.toArray⟩, .string ⟨ci.toArray⟩] 28)).trans HB35.out).trans HB57.out).trans (below_of_grown (B := w3.heap.size) hgrow8 (fun g hg => by have := (hown7b.lt g hg).1; omega) (by omega)))
      have HOx8 := Lib.hid (ownsRow_below HOx.out HB38.out)
      have HOy8 := Lib.hid (ownsRow_below HOy.out HB38.out)
      have HB8 := Lib.hid (HB3.out.trans (HB38.out.mono (by omega)))
      have hrw : (la ++ [] :: lb).length = la.length + 1 + lb.length := by rw [List.length_append, List.length_cons]; omega
      rw [← hrw] at hown8
      obtain ⟨A8, c8, rfl, hr8, _⟩ := RowOf.own hown8
      have hfew : Few (la ++ [] :: lb) := ⟨by rw [hrw]; omega, fun y hy => by
        rcases List.mem_append.1 hy with hy | hy
        · exact HFA.out.wt y hy
        · rcases List.mem_cons.1 hy with rfl | hy
          · decide
          · exact HFB.out.wt y hy⟩
      have cz := bparse_any A8 c8 (la ++ [] :: lb) w8 hr8 hfew
      rw [HPz.out, hrw] at cz
      rw [hrw]
      clear hgrow8 hown7b hown8 hr8 hfew hrw
      go_wp2_with fail
      refine cz.mono ?_
      rintro e w9 ⟨vz, rfl, hoz, b9z⟩
      have HOx9 := ownsRow_below HOx8.out b9z
      have HOy9 := ownsRow_below HOy8.out b9z
      have hs89 := b9z.size
      have HB9 := Lib.hid (HB8.out.trans (b9z.mono (by omega)))
      obtain ⟨Az, cz2, rfl, hatz⟩ := BlksAt.own hoz
      have hlz : (xs ++ ys).length = q + 1 + (p + 1) := by rw [List.length_append, HQ.out, HP.out]
      rw [HQ.out] at HOx9
      rw [HP.out] at HOy9
      have HLz := Lib.hid hlz
      have HOz := Lib.hid hoz
      rw [hlz]
      clear hatz hoz b9z cz hlz
      have HOy9 := Lib.hid HOy9
      go_wp2_with (at_builtin; refine append_blks rfl _ _ rfl w9.heap.size (.slice none 0 0) 0 [] rfl (World.ownsRow_nil _ _ _ _) w1.heap.size xs _ rfl (q + 1) HOx9 (by omega) (by omega) (Nat.le_refl _) ?_)
      intro v10 w10 hown10 hgrow10
      have hown10b : w10.ownsRow w9.heap.size 28 6 v10 (q + 1) (blksC xs) := by simpa using hown10
      have hb10 : Below w9.heap.size w9 w10 := (Below.refl _ _).grown hgrow10 (Nat.le_refl _) (fun k hk => by simp [Value.ownBlock] at hk)
      have HOy10 := ownsRow_below HOy9.out hb10
      have HB910 := Lib.hid hb10
      have hs910 := hb10.size
      clear hgrow10 hown10 hb10 HOx9
      go_wp2_with (at_builtin; refine append_blks rfl _ _ rfl w9.heap.size _ (q + 1) xs rfl hown10b w1.heap.size ys _ rfl (p + 1) HOy10 (by omega) (by omega) hs910 ?_)
      intro v11 w11 hown11 hgrow11
      have hb11 : Below w9.heap.size w9 w11 := HB910.out.trans (below_of_grown hgrow11 (fun g hg => (hown10b.lt g hg).1) (by omega))
      rw [← HLz.out] at hown11
      obtain ⟨A11, c11, rfl, hat11⟩ := BlksAt.own hown11
      obtain ⟨Az', cz', e', hatz'⟩ := BlksAt.own (ownsRow_below HOz.out hb11)
      cases e'
      have HB11 := Lib.hid (HB9.out.trans (hb11.mono (by omega)))
      have cs' := sameBlocks_same Az A11 cz2 c11 (xs ++ ys) w11 hatz' hat11
      rw [HLz.out] at cs' ⊢
      clear hgrow11 hown10b hown11 hat11 hatz' hb11 HOy10
      go_wp2_with fail
      refine cs'.mono ?_
      rintro e w12 ⟨rfl, nq, rfl⟩
      have HB12 := HB1.out.then (below_drewN' HB11.out nq)
      go_wp2
      go_ret
      exact ⟨rfl, HB12⟩
    case inr.inr.inl =>
      have hszA : w3.heap.size + 1 ≤ (w3.alloc (.cells #[.int .i64 2, .int .i64 0, .int .i64 cn, .bool ct, .string ⟨cs.toArray⟩, .string ⟨ci.toArray⟩] 28)).heap.size := by rw [alloc_size]; exact Nat.le_refl _
      go_wp2_with (at_builtin; refine append_row rfl _ _ rfl (w3.heap.size + 1) (.slice none 0 0) 0 [] rfl (World.ownsRow_nil _ _ _ _) A ca la rfl HRA4.out (by omega) hszA ?_)
      intro v5 w5 hown5 hgrow5
      have HB5 := Lib.hid (HB4.out.trans (((Below.refl _ _).grown (B := w3.heap.size + 1) hgrow5 hszA (fun k hk => by simp [Value.ownBlock] at hk)).mono (by omega)))
      have hs5 := HB5.out.size
      have HB35 := Lib.hid (((Below.refl _ _).grown (B := w3.heap.size + 1) hgrow5 hszA (fun k hk => by simp [Value.ownBlock] at hk)).mono (by omega : w3.heap.size ≤ w3.heap.size + 1))
      have hs35 := (((Below.refl _ (w3.alloc (.cells #[.int .i64 2, .int .i64 0, .int .i64 cn, .bool ct, .string ⟨cs.toArray⟩, .string ⟨ci.toArray⟩] 28))).grown (B := w3.heap.size + 1) hgrow5 hszA (fun k hk => by simp [Value.ownBlock] at hk))).size
      have hnw := cells_one w5 (.string ⟨#[]⟩) 9
      have hrow5 := hown5.alloc (.cells #[.string ⟨#[]⟩] 9)
      clear hgrow5 hown5
      go_wp2_with (at_builtin; refine wpList_append_own _ rfl _ _ 22 rfl (w3.heap.size + 1) 9 i0 (.string ByteArray.empty) 1 16 Tryd.underlying22 hi hz0 hz1 hz2 rfl (by decide) _ _ _ rfl hrow5 ⟨w5.heap.size, 0, none⟩ 1 1 [.string ⟨#[]⟩] rfl rfl hnw (by simp [Value.oneCell']) (by unfold maxLen; omega) (by omega) (by simp; omega) ?_)
      intro v7 w7 hown7 hgrow7 _
      have hs57 : w5.heap.size + 1 ≤ w7.heap.size := by have := hgrow7.size; rw [alloc_size] at this; exact this
      have HB57 := Lib.hid (((Below.refl w3.heap.size w5).alloc (by omega) (.cells #[.string ⟨#[]⟩] 9)).trans (below_of_grown (B := w3.heap.size) hgrow7 (fun g hg => by have := (hrow5.lt g hg).1; omega) (by rw [alloc_size]; omega)))
      have HB7 := Lib.hid (HB5.out.trans (HB57.out.mono (by omega)))
      have HRB7 := Lib.hid (HRB3.out.below ((((Below.refl _ w3).alloc (Nat.le_refl _) (.cells #[.int .i64 2, .int .i64 0, .int .i64 cn, .bool ct, .string ⟨cs.toArray⟩, .string ⟨ci.toArray⟩] 28)).trans HB35.out).trans HB57.out))
      have hown7b : w7.ownsRow (w3.heap.size + 1) 9 1 v7 (la.length + 1) (strs (la ++ [[]])) := by rw [strs_append]; exact hown7
      clear hgrow7 hrow5 hnw hown7
      go_wp2_with (at_builtin; refine append_row rfl _ _ rfl (w3.heap.size + 1) _ (la.length + 1) (la ++ [[]]) rfl hown7b B cb lb rfl HRB7.out (by omega) (by omega) ?_)
      intro v8 w8 hown8 hgrow8
      have hs78 := hgrow8.size
      have HB38 := Lib.hid (((((Below.refl _ w3).alloc (Nat.le_refl _) (.cells #[.int .i64 2, .int .i64 0, .int .i64 cn, .bool ct, .string ⟨cs.toArray⟩, .string ⟨ci.toArray⟩] 28)).trans HB35.out).trans HB57.out).trans (below_of_grown (B := w3.heap.size) hgrow8 (fun g hg => by have := (hown7b.lt g hg).1; omega) (by omega)))
      have HOx8 := Lib.hid (ownsRow_below HOx.out HB38.out)
      have HOy8 := Lib.hid (ownsRow_below HOy.out HB38.out)
      have HB8 := Lib.hid (HB3.out.trans (HB38.out.mono (by omega)))
      have hrw : (la ++ [] :: lb).length = la.length + 1 + lb.length := by rw [List.length_append, List.length_cons]; omega
      rw [← hrw] at hown8
      obtain ⟨A8, c8, rfl, hr8, _⟩ := RowOf.own hown8
      have hfew : Few (la ++ [] :: lb) := ⟨by rw [hrw]; omega, fun y hy => by
        rcases List.mem_append.1 hy with hy | hy
        · exact HFA.out.wt y hy
        · rcases List.mem_cons.1 hy with rfl | hy
          · decide
          · exact HFB.out.wt y hy⟩
      have cz := bparse_any A8 c8 (la ++ [] :: lb) w8 hr8 hfew
      rw [HPz.out, hrw] at cz
      rw [hrw]
      clear hgrow8 hown7b hown8 hr8 hfew hrw
      go_wp2_with fail
      refine cz.mono ?_
      rintro e w9 ⟨vz, rfl, hoz, b9z⟩
      have HOx9 := ownsRow_below HOx8.out b9z
      have HOy9 := ownsRow_below HOy8.out b9z
      have hs89 := b9z.size
      have HB9 := Lib.hid (HB8.out.trans (b9z.mono (by omega)))
      obtain ⟨Az, cz2, rfl, hatz⟩ := BlksAt.own hoz
      have hlz : (xs ++ ys).length = q + 1 + (p + 1) := by rw [List.length_append, HQ.out, HP.out]
      rw [HQ.out] at HOx9
      rw [HP.out] at HOy9
      have HLz := Lib.hid hlz
      have HOz := Lib.hid hoz
      rw [hlz]
      clear hatz hoz b9z cz hlz
      have HOy9 := Lib.hid HOy9
      go_wp2_with (at_builtin; refine append_blks rfl _ _ rfl w9.heap.size (.slice none 0 0) 0 [] rfl (World.ownsRow_nil _ _ _ _) w1.heap.size xs _ rfl (q + 1) HOx9 (by omega) (by omega) (Nat.le_refl _) ?_)
      intro v10 w10 hown10 hgrow10
      have hown10b : w10.ownsRow w9.heap.size 28 6 v10 (q + 1) (blksC xs) := by simpa using hown10
      have hb10 : Below w9.heap.size w9 w10 := (Below.refl _ _).grown hgrow10 (Nat.le_refl _) (fun k hk => by simp [Value.ownBlock] at hk)
      have HOy10 := ownsRow_below HOy9.out hb10
      have HB910 := Lib.hid hb10
      have hs910 := hb10.size
      clear hgrow10 hown10 hb10 HOx9
      go_wp2_with (at_builtin; refine append_blks rfl _ _ rfl w9.heap.size _ (q + 1) xs rfl hown10b w1.heap.size ys _ rfl (p + 1) HOy10 (by omega) (by omega) hs910 ?_)
      intro v11 w11 hown11 hgrow11
      have hb11 : Below w9.heap.size w9 w11 := HB910.out.trans (below_of_grown hgrow11 (fun g hg => (hown10b.lt g hg).1) (by omega))
      rw [← HLz.out] at hown11
      obtain ⟨A11, c11, rfl, hat11⟩ := BlksAt.own hown11
      obtain ⟨Az', cz', e', hatz'⟩ := BlksAt.own (ownsRow_below HOz.out hb11)
      cases e'
      have HB11 := Lib.hid (HB9.out.trans (hb11.mono (by omega)))
      have cs' := sameBlocks_same Az A11 cz2 c11 (xs ++ ys) w11 hatz' hat11
      rw [HLz.out] at cs' ⊢
      clear hgrow11 hown10b hown11 hat11 hatz' hb11 HOy10
      go_wp2_with fail
      refine cs'.mono ?_
      rintro e w12 ⟨rfl, nq, rfl⟩
      have HB12 := HB1.out.then (below_drewN' HB11.out nq)
      go_wp2
      go_ret
      exact ⟨rfl, HB12⟩
    case inr.inr.inr =>
      have hszA : w3.heap.size + 1 ≤ (w3.alloc (.cells #[.int .i64 8, .int .i64 0, .int .i64 cn, .bool ct, .string ⟨cs.toArray⟩, .string ⟨ci.toArray⟩] 28)).heap.size := by rw [alloc_size]; exact Nat.le_refl _
      go_wp2_with (at_builtin; refine append_row rfl _ _ rfl (w3.heap.size + 1) (.slice none 0 0) 0 [] rfl (World.ownsRow_nil _ _ _ _) A ca la rfl HRA4.out (by omega) hszA ?_)
      intro v5 w5 hown5 hgrow5
      have HB5 := Lib.hid (HB4.out.trans (((Below.refl _ _).grown (B := w3.heap.size + 1) hgrow5 hszA (fun k hk => by simp [Value.ownBlock] at hk)).mono (by omega)))
      have hs5 := HB5.out.size
      have HB35 := Lib.hid (((Below.refl _ _).grown (B := w3.heap.size + 1) hgrow5 hszA (fun k hk => by simp [Value.ownBlock] at hk)).mono (by omega : w3.heap.size ≤ w3.heap.size + 1))
      have hs35 := (((Below.refl _ (w3.alloc (.cells #[.int .i64 8, .int .i64 0, .int .i64 cn, .bool ct, .string ⟨cs.toArray⟩, .string ⟨ci.toArray⟩] 28))).grown (B := w3.heap.size + 1) hgrow5 hszA (fun k hk => by simp [Value.ownBlock] at hk))).size
      have hnw := cells_one w5 (.string ⟨#[]⟩) 9
      have hrow5 := hown5.alloc (.cells #[.string ⟨#[]⟩] 9)
      clear hgrow5 hown5
      go_wp2_with (at_builtin; refine wpList_append_own _ rfl _ _ 22 rfl (w3.heap.size + 1) 9 i0 (.string ByteArray.empty) 1 16 Tryd.underlying22 hi hz0 hz1 hz2 rfl (by decide) _ _ _ rfl hrow5 ⟨w5.heap.size, 0, none⟩ 1 1 [.string ⟨#[]⟩] rfl rfl hnw (by simp [Value.oneCell']) (by unfold maxLen; omega) (by omega) (by simp; omega) ?_)
      intro v7 w7 hown7 hgrow7 _
      have hs57 : w5.heap.size + 1 ≤ w7.heap.size := by have := hgrow7.size; rw [alloc_size] at this; exact this
      have HB57 := Lib.hid (((Below.refl w3.heap.size w5).alloc (by omega) (.cells #[.string ⟨#[]⟩] 9)).trans (below_of_grown (B := w3.heap.size) hgrow7 (fun g hg => by have := (hrow5.lt g hg).1; omega) (by rw [alloc_size]; omega)))
      have HB7 := Lib.hid (HB5.out.trans (HB57.out.mono (by omega)))
      have HRB7 := Lib.hid (HRB3.out.below ((((Below.refl _ w3).alloc (Nat.le_refl _) (.cells #[.int .i64 8, .int .i64 0, .int .i64 cn, .bool ct, .string ⟨cs.toArray⟩, .string ⟨ci.toArray⟩] 28)).trans HB35.out).trans HB57.out))
      have hown7b : w7.ownsRow (w3.heap.size + 1) 9 1 v7 (la.length + 1) (strs (la ++ [[]])) := by rw [strs_append]; exact hown7
      clear hgrow7 hrow5 hnw hown7
      go_wp2_with (at_builtin; refine append_row rfl _ _ rfl (w3.heap.size + 1) _ (la.length + 1) (la ++ [[]]) rfl hown7b B cb lb rfl HRB7.out (by omega) (by omega) ?_)
      intro v8 w8 hown8 hgrow8
      have hs78 := hgrow8.size
      have HB38 := Lib.hid (((((Below.refl _ w3).alloc (Nat.le_refl _) (.cells #[.int .i64 8, .int .i64 0, .int .i64 cn, .bool ct, .string ⟨cs.toArray⟩, .string ⟨ci.toArray⟩] 28)).trans HB35.out).trans HB57.out).trans (below_of_grown (B := w3.heap.size) hgrow8 (fun g hg => by have := (hown7b.lt g hg).1; omega) (by omega)))
      have HOx8 := Lib.hid (ownsRow_below HOx.out HB38.out)
      have HOy8 := Lib.hid (ownsRow_below HOy.out HB38.out)
      have HB8 := Lib.hid (HB3.out.trans (HB38.out.mono (by omega)))
      have hrw : (la ++ [] :: lb).length = la.length + 1 + lb.length := by rw [List.length_append, List.length_cons]; omega
      rw [← hrw] at hown8
      obtain ⟨A8, c8, rfl, hr8, _⟩ := RowOf.own hown8
      have hfew : Few (la ++ [] :: lb) := ⟨by rw [hrw]; omega, fun y hy => by
        rcases List.mem_append.1 hy with hy | hy
        · exact HFA.out.wt y hy
        · rcases List.mem_cons.1 hy with rfl | hy
          · decide
          · exact HFB.out.wt y hy⟩
      have cz := bparse_any A8 c8 (la ++ [] :: lb) w8 hr8 hfew
      rw [HPz.out, hrw] at cz
      rw [hrw]
      clear hgrow8 hown7b hown8 hr8 hfew hrw
      go_wp2_with fail
      refine cz.mono ?_
      rintro e w9 ⟨vz, rfl, hoz, b9z⟩
      have HOx9 := ownsRow_below HOx8.out b9z
      have HOy9 := ownsRow_below HOy8.out b9z
      have hs89 := b9z.size
      have HB9 := Lib.hid (HB8.out.trans (b9z.mono (by omega)))
      obtain ⟨Az, cz2, rfl, hatz⟩ := BlksAt.own hoz
      have hlz : (xs ++ ys).length = q + 1 + (p + 1) := by rw [List.length_append, HQ.out, HP.out]
      rw [HQ.out] at HOx9
      rw [HP.out] at HOy9
      have HLz := Lib.hid hlz
      have HOz := Lib.hid hoz
      rw [hlz]
      clear hatz hoz b9z cz hlz
      have HOy9 := Lib.hid HOy9
      go_wp2_with (at_builtin; refine append_blks rfl _ _ rfl w9.heap.size (.slice none 0 0) 0 [] rfl (World.ownsRow_nil _ _ _ _) w1.heap.size xs _ rfl (q + 1) HOx9 (by omega) (by omega) (Nat.le_refl _) ?_)
      intro v10 w10 hown10 hgrow10
      have hown10b : w10.ownsRow w9.heap.size 28 6 v10 (q + 1) (blksC xs) := by simpa using hown10
      have hb10 : Below w9.heap.size w9 w10 := (Below.refl _ _).grown hgrow10 (Nat.le_refl _) (fun k hk => by simp [Value.ownBlock] at hk)
      have HOy10 := ownsRow_below HOy9.out hb10
      have HB910 := Lib.hid hb10
      have hs910 := hb10.size
      clear hgrow10 hown10 hb10 HOx9
      go_wp2_with (at_builtin; refine append_blks rfl _ _ rfl w9.heap.size _ (q + 1) xs rfl hown10b w1.heap.size ys _ rfl (p + 1) HOy10 (by omega) (by omega) hs910 ?_)
      intro v11 w11 hown11 hgrow11
      have hb11 : Below w9.heap.size w9 w11 := HB910.out.trans (below_of_grown hgrow11 (fun g hg => (hown10b.lt g hg).1) (by omega))
      rw [← HLz.out] at hown11
      obtain ⟨A11, c11, rfl, hat11⟩ := BlksAt.own hown11
      obtain ⟨Az', cz', e', hatz'⟩ := BlksAt.own (ownsRow_below HOz.out hb11)
      cases e'
      have HB11 := Lib.hid (HB9.out.trans (hb11.mono (by omega)))
      have cs' := sameBlocks_same Az A11 cz2 c11 (xs ++ ys) w11 hatz' hat11
      rw [HLz.out] at cs' ⊢
      clear hgrow11 hown10b hown11 hat11 hatz' hb11 HOy10
      go_wp2_with fail
      refine cs'.mono ?_
      rintro e w12 ⟨rfl, nq, rfl⟩
      have HB12 := HB1.out.then (below_drewN' HB11.out nq)
      go_wp2
      go_ret
      exact ⟨rfl, HB12⟩
  · have hk1 : (kd != 1) = true := bne_iff_ne.2 (by omega)
    have hk2 : (kd != 7) = true := bne_iff_ne.2 (by omega)
    have hk3 : (kd != 2) = true := bne_iff_ne.2 (by omega)
    have hk4 : (kd != 8) = true := bne_iff_ne.2 (by omega)
    clear hk hdp
    go_wp2
    all_goals first
      | (exfalso; omega)
      | (go_ret; exact ⟨rfl, HB1.out.then (HB3.out.alloc (by omega) _)⟩)

theorem blockApart_walk (w : World) (A0 : Option Addr) (c0 : Nat) (z0 : List ByteArray) (r0 : RowOf w A0 c0 (z0.map Value.string)) (w0 : ∀ s ∈ z0, s.size ≤ maxLen) (A1 : Option Addr) (c1 : Nat) (z1 : List ByteArray) (r1 : RowOf w A1 c1 (z1.map Value.string)) (w1 : ∀ s ∈ z1, s.size ≤ maxLen) :
    Calls Tryd.prog 12 #[.slice A0 z0.length c0, .slice A1 z1.length c1] w fun e w' => e = .returned (.bool true) ∧ Below w.heap.size w w' := by
  rw [strs_of] at r0 r1
  have hz : ∀ (z : List ByteArray), (∀ s ∈ z, s.size ≤ maxLen) → ∀ y ∈ z.map (fun s => s.data.toList), y.length ≤ 9223372036854775807 := fun z h y hy => by
    obtain ⟨s, hs, rfl⟩ := List.mem_map.1 hy
    have := h s hs
    unfold maxLen at this
    simpa using this
  by_cases hbad : plainL (z0.map (fun s => s.data.toList)) = false ∨ plainL (z1.map (fun s => s.data.toList)) = false
  · have h := blockApart_early w A0 c0 _ A1 c1 _ r0 (hz z0 w0) r1 (hz z1 w1) hbad
    simp only [List.length_map] at h
    exact h
  · simp only [not_or, Bool.not_eq_false] at hbad
    have h := blockApart_core w A0 c0 _ A1 c1 _ r0 (hz z0 w0) r1 (hz z1 w1) hbad.1 hbad.2
    simp only [List.length_map] at h
    exact h

end Go.Proofs.YtoleoigpijgboaaDoor

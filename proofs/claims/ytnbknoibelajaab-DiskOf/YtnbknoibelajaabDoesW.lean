/- does: a call on both disks. -/
import Derived.Test.YtnbknoibelajaabDoes
namespace Go.Proofs.Ytnbknoibelajaab
open Go.RowKit Go.Maps

set_option maxRecDepth 10000 in
set_option maxHeartbeats 8000000 in
theorem does_ok {w0 w : World} {a mb fb : Nat} {dq : Value} {S : St} {x : Nat} {bv qv fv : Value} {gB gQ : List (Nat × Nat)} (hd : DI w0.heap.size w a mb fb dq S) (hr : RI w0.heap.size w x bv qv fv gB gQ S) (hbw : Below w0.heap.size w0 w) (k : DoV) (bp : Option Addr) (bn bc : Nat) (hB : BI w0 bp bn k.bytes) (ip : Option Addr) (jn ic : Nat) (hI : II w0 ip jn k.ids) (hl : S.last < 9223372036854775807) :
    Calls Try.prog 10 #[.pointer (some ⟨a, 0, none⟩), .pointer (some ⟨x, 0, none⟩), .agg #[.int .i64 k.op, .int .i64 k.b, .int .i64 k.n, .slice bp bn bc, .slice ip jn ic]] w fun e w' => ∃ dq' qv' fv' gB' gQ' S', e = .returned (.bool true) ∧ DI w0.heap.size w' a mb fb dq' S' ∧ RI w0.heap.size w' x bv qv' fv' gB' gQ' S' ∧ S'.last ≤ S.last + 1 ∧ Below w0.heap.size w0 w' ∧ Frame (fun k => foot a mb fb dq k ∨ rfoot x bv qv fv k) w w' ∧ (∀ k, foot a mb fb dq' k → (foot a mb fb dq k ∨ rfoot x bv qv fv k) ∨ w.heap.size ≤ k) ∧ (∀ k, rfoot x bv qv' fv' k ∨ rrows gB' gQ' k → (rfoot x bv qv fv k ∨ rrows gB gQ k) ∨ w.heap.size ≤ k) := by
  have ZA0 := hd.ok
  have hbn := hB.big
  have hbyt := hB.byt
  have hjn := hI.big
  have hirng := hI.rng
  have hIlo : ∀ {W : World} {qv fv : Value} {gB gQ : List (Nat × Nat)} {S : St}, RI w0.heap.size W x bv qv fv gB gQ S → ∀ m, rfoot x bv qv fv m → ∀ b o, ip = some ⟨b, o, none⟩ → 0 < jn → b ≠ m := by
    intro W qv fv gB gQ S h m hm b o hp h0 e
    obtain ⟨b', o', e', hc⟩ := hI.cells h0
    rw [hp] at e'
    cases e'
    have h1 := lt_of_cell (hc 0 h0)
    have h2 := (h.in (.inl hm)).1
    omega
  have ba := (Below.refl w.heap.size w).alloc (Nat.le_refl _) (.cells #[.int .i64 k.op, .int .i64 k.b, .int .i64 k.n, .slice bp bn bc, .slice ip jn ic] 33)
  have hT : (w.alloc (.cells #[.int .i64 k.op, .int .i64 k.b, .int .i64 k.n, .slice bp bn bc, .slice ip jn ic] 33)).heap[w.heap.size]? = some (.cells #[.int .i64 k.op, .int .i64 k.b, .int .i64 k.n, .slice bp bn bc, .slice ip jn ic] 33 (0, 0)) := at_new rfl
  go_enter Try.func10, Try.ntmps10
  go_wp2_with fail
  generalize w.alloc (.cells #[.int .i64 k.op, .int .i64 k.b, .int .i64 k.n, .slice bp bn bc, .slice ip jn ic] 33) = w1 at ba hT ⊢
  obtain ⟨T, hTe⟩ : ∃ T, w.heap.size = T := ⟨_, rfl⟩
  have hd1 := (hd.later ba).later (Below.refl _ _).drew
  have hr1 := (hr.later ba).later (Below.refl _ _).drew
  have hbw1 := (hbw.trans (ba.mono hbw.size)).drew
  have hlow : ∀ i, rfoot x bv qv fv i ∨ rrows gB gQ i → i < w1.drew.heap.size := fun i hi => (hr1.in hi).2
  rw [hTe] at hT ⊢
  have HTE := (show Hid _ from hTe)
  clear hTe
  have hT1 : w1.drew.heap[T]? = _ := hT
  have c3 := cell_of_row _ T 3 _ _ _ hT1
  have c4 := cell_of_row _ T 4 _ _ _ hT1
  simp at c3 c4
  have cB := bclone_any bp bn bc k.bytes w1.drew (hB.kept hbw1)
  have CB := (show Hid _ from cB)
  clear cB hd hr hbw hT
  go_region_held3 (fun w' => w'.cell? ⟨T, 3, none⟩ = some (.slice bp bn bc) ∧ w'.cell? ⟨T, 4, none⟩ = some (.slice ip jn ic)) (first | exact ⟨c3, c4⟩ | exact ⟨c3', c4'⟩ | exact ⟨c3'', c4''⟩)
    (first
      | (go_at_call 29; refine Calls.mono CB.out ?_; rintro e w2 ⟨v7, rfl, ho7, hb2⟩; obtain ⟨gp, gc, rfl, _⟩ := row_case ho7; have hT2 := (hb2.block T (Array.getElem?_eq_some_iff.1 hT1).1).trans hT1; have c3' := cell_of_row _ T 3 _ _ _ hT2; have c4' := cell_of_row _ T 4 _ _ _ hT2; simp at c3' c4'; have hbw2 := hbw1.trans (hb2.mono hbw1.size); have CJ := (show Hid _ from iclone_ok ip jn ic k.ids w2 (hI.kept hbw2)))
      | (go_at_call 30; refine Calls.mono CJ.out ?_; rintro e w3 ⟨v8, rfl, ho8, hb3⟩; obtain ⟨jp, jc, rfl, _⟩ := row_case ho8; have hT3 := (hb3.block T (Array.getElem?_eq_some_iff.1 hT2).1).trans hT2; have c3'' := cell_of_row _ T 3 _ _ _ hT3; have c4'' := cell_of_row _ T 4 _ _ _ hT3; simp at c3'' c4''))
  have Z : Dz w (fun k => foot a mb fb dq k ∨ rfoot x bv qv fv k) (fun k => rfoot x bv qv fv k ∨ rrows gB gQ k) w0 w3 a mb fb dq S x bv qv fv gB gQ S T #[.int .i64 k.op, .int .i64 k.b, .int .i64 k.n, .slice bp bn bc, .slice ip jn ic] (.slice gp bn gc) (.slice jp jn jc) bn jn k.bytes k.ids w1.drew.heap.size :=
    { d := (hd1.later hb2).later hb3, r := (hr1.later hb2).later hb3, t := hT3, gr := ownsRow_kept ho7 (fun i hi => hb3.block i (ho7.lt i hi).2), jr := ownsRow_base ho8 hb2.size, bw := hbw2.trans (hb3.mono hbw2.size), H0 := hbw1.size, gne := fun i hi hx => by
        have h1 := (ho7.lt i hi).1
        have h2 := hlow i (.inr hx)
        omega, fr := ((frame_of_below ba).trans (frame_of_below (Below.refl w1.heap.size w1).drew)).trans ((frame_of_below hb2).trans (frame_of_below hb3)), H1 := ba.size, dn := fun k hk => .inl (.inl hk), rn := fun k hk => .inl hk }
  have hjne : ∀ i, (Value.slice jp jn jc).ownBlock = some i → ¬ rfoot x bv qv fv i := fun i hi hx => by
    have h1 := (ho8.lt i hi).1
    have h2 := hlow i (.inl hx)
    have h3 := hb2.size
    omega
  have k0 := cell_of_row _ T 0 _ _ _ Z.t
  simp at k0
  obtain ⟨r, hr1', hr2', hr0, hr6⟩ := six k.op
  clear ba c3 c4 c3' c4' c3'' c4'' CB CJ hT1 hT2 hT3 hd1 hr1 hlow hb2 hb3 ho7 ho8 hbw1 hbw2
  rcases (by omega : r = 0 ∨ r = 1 ∨ r = 2 ∨ r = 3 ∨ r = 4 ∨ r = 5) with rfl | rfl | rfl | rfl | rfl | rfl
  · -- 0
      have cD := dWrite Z.d Z.bw.size k.b gp bn gc k.bytes (row_bi Z.gr hbn hbyt) hl
      have hlast := aWrite_last S k.b bn k.bytes
      have k1 := cell_of_row _ T 1 _ _ _ Z.t
      have k3 := cell_of_row _ T 3 _ _ _ Z.t
      simp at k1 k3
      generalize hR : aWrite S k.b bn k.bytes = R at cD hlast
      obtain ⟨n1, e1, S1⟩ := R
      have HR := (show Hid _ from hR)
      have CD := (show Hid _ from cD)
      clear cD hR
      go_wp2_with fail
      refine Calls.mono CD.out ?_
      rintro e wA ⟨dqA, rfl, hdA, hfA, hnA⟩
      have ZA := Z.dop (fun _ h => .inl h) hdA hfA hnA
      have cR := rWrite ZA.r ZA0 ZA.bw.size k.b bp bn bc k.bytes (hB.kept ZA.bw) hl
      rw [HR.out] at cR
      have CR := (show Hid _ from cR)
      have k1A := cell_of_row _ T 1 _ _ _ ZA.t
      have k3A := cell_of_row _ T 3 _ _ _ ZA.t
      simp at k1A k3A
      clear cR CD hdA hfA hnA k1 k3
      go_wp2_with fail
      refine Calls.mono CR.out ?_
      rintro e wB ⟨qvB, gQB, rfl, hrB, hfB, hnB, hnB2⟩
      have ZB := ZA.rop (fun _ h => .inr h) hjne hrB hfB hnB hnB2
      clear CR hrB hfB hnB hnB2 k1A k3A HR
      have hz := ZB
      have bi2 := row_bi hz.gr hbn hbyt
      have bi3 := (hB.kept hz.bw)
      have ii2 := row_ii hz.jr hjn hirng
      have ii3 := (hI.kept hz.bw)
      have k3 := cell_of_row _ T 3 _ _ _ hz.t
      have k4 := cell_of_row _ T 4 _ _ _ hz.t
      simp at k3 k4
      have ce := equal_any gp bp bn gc bn bc k.bytes k.bytes _ bi2 bi3
      rw [show (k.bytes == k.bytes) = true by simp] at ce
      have CE := (show Hid _ from ce)
      have CI := (show Hid _ from iequal_same jp ip jn jc ic k.ids _ ii2 ii3)
      clear ce bi2 bi3 ii2 ii3
      go_wp2_with fail
      refine same_at CE.out ?_
      go_wp2_with fail
      refine Calls.mono CI.out ?_
      rintro e wE ⟨rfl, hbE⟩
      have hzE := hz.later hbE
      have CS := (show Hid _ from spoil_ok hzE.gr hbn)
      go_wp2_with fail
      refine Calls.mono CS.out ?_
      rintro e wF ⟨⟨u, rfl⟩, hfF⟩
      obtain ⟨hdF, hrF, hbF, hxF⟩ := hzE.fin hfF
      have hdn := hzE.dn
      have hrn := hzE.rn
      clear CE CI CS hz hzE hbE hfF k3 k4
      go_wp2
      go_ret
      first | exact ⟨rfl, _, _, _, _, _, _, hdF, hrF, hlast, hbF, hxF, hdn, hrn⟩ | exact ⟨_, _, _, _, _, _, rfl, hdF, hrF, hlast, hbF, hxF, hdn, hrn⟩ | exact ⟨by first | rfl | exact ret_bool (by simp), _, _, _, _, _, _, hdF, hrF, hlast, hbF, hxF, hdn, hrn⟩
  · -- 1
      have cD := dWrite Z.d Z.bw.size k.b gp bn gc k.bytes (row_bi Z.gr hbn hbyt) hl
      have hlast := aWrite_last S k.b bn k.bytes
      have k1 := cell_of_row _ T 1 _ _ _ Z.t
      have k3 := cell_of_row _ T 3 _ _ _ Z.t
      simp at k1 k3
      generalize hR : aWrite S k.b bn k.bytes = R at cD hlast
      obtain ⟨n1, e1, S1⟩ := R
      have HR := (show Hid _ from hR)
      have CD := (show Hid _ from cD)
      clear cD hR
      go_wp2_with fail
      refine Calls.mono CD.out ?_
      rintro e wA ⟨dqA, rfl, hdA, hfA, hnA⟩
      have ZA := Z.dop (fun _ h => .inl h) hdA hfA hnA
      have cR := rWrite ZA.r ZA0 ZA.bw.size k.b bp bn bc k.bytes (hB.kept ZA.bw) hl
      rw [HR.out] at cR
      have CR := (show Hid _ from cR)
      have k1A := cell_of_row _ T 1 _ _ _ ZA.t
      have k3A := cell_of_row _ T 3 _ _ _ ZA.t
      simp at k1A k3A
      clear cR CD hdA hfA hnA k1 k3
      go_wp2_with fail
      refine Calls.mono CR.out ?_
      rintro e wB ⟨qvB, gQB, rfl, hrB, hfB, hnB, hnB2⟩
      have ZB := ZA.rop (fun _ h => .inr h) hjne hrB hfB hnB hnB2
      clear CR hrB hfB hnB hnB2 k1A k3A HR
      have hz := ZB
      have bi2 := row_bi hz.gr hbn hbyt
      have bi3 := (hB.kept hz.bw)
      have ii2 := row_ii hz.jr hjn hirng
      have ii3 := (hI.kept hz.bw)
      have k3 := cell_of_row _ T 3 _ _ _ hz.t
      have k4 := cell_of_row _ T 4 _ _ _ hz.t
      simp at k3 k4
      have ce := equal_any gp bp bn gc bn bc k.bytes k.bytes _ bi2 bi3
      rw [show (k.bytes == k.bytes) = true by simp] at ce
      have CE := (show Hid _ from ce)
      have CI := (show Hid _ from iequal_same jp ip jn jc ic k.ids _ ii2 ii3)
      clear ce bi2 bi3 ii2 ii3
      go_wp2_with fail
      refine same_at CE.out ?_
      go_wp2_with fail
      refine Calls.mono CI.out ?_
      rintro e wE ⟨rfl, hbE⟩
      have hzE := hz.later hbE
      have CS := (show Hid _ from spoil_ok hzE.gr hbn)
      go_wp2_with fail
      refine Calls.mono CS.out ?_
      rintro e wF ⟨⟨u, rfl⟩, hfF⟩
      obtain ⟨hdF, hrF, hbF, hxF⟩ := hzE.fin hfF
      have hdn := hzE.dn
      have hrn := hzE.rn
      clear CE CI CS hz hzE hbE hfF k3 k4
      go_wp2
      go_ret
      first | exact ⟨rfl, _, _, _, _, _, _, hdF, hrF, hlast, hbF, hxF, hdn, hrn⟩ | exact ⟨_, _, _, _, _, _, rfl, hdF, hrF, hlast, hbF, hxF, hdn, hrn⟩ | exact ⟨by first | rfl | exact ret_bool (by simp), _, _, _, _, _, _, hdF, hrF, hlast, hbF, hxF, hdn, hrn⟩
  · -- 2
      have Zd := Z.later (Below.refl _ _).drew
      have cD := dDone Zd.d k.n (k.b.tmod 2 == 0)
      have hlast := aDone_last S k.n (k.b.tmod 2 == 0)
      have k1 := cell_of_row _ T 1 _ _ _ Zd.t
      have k2 := cell_of_row _ T 2 _ _ _ Zd.t
      simp at k1 k2
      generalize hR : aDone S k.n (k.b.tmod 2 == 0) = R at cD hlast
      obtain ⟨e1, S1⟩ := R
      have HR := (show Hid _ from hR)
      have CD := (show Hid _ from cD)
      clear cD hR
      go_wp2_with fail
      go_region_held3 (fun w' => w'.cell? ⟨T, 1, none⟩ = some (.int .i64 k.b) ∧ w'.cell? ⟨T, 2, none⟩ = some (.int .i64 k.n)) (first | exact ⟨k1, k2⟩ | exact ⟨k1A, k2A⟩ | exact ⟨k1B, k2B⟩)
        (first
          | (go_at_call 23; refine Calls.mono CD.out ?_; rintro e wA ⟨dqA, rfl, hdA, hfA, hnA⟩; have ZA := Zd.dop (fun _ h => .inl h) hdA hfA hnA; have cR := rDone ZA.r ZA0 ZA.bw.size k.n (k.b.tmod 2 == 0); rw [HR.out] at cR; have CR := (show Hid _ from cR); have k1A := cell_of_row _ T 1 _ _ _ ZA.t; have k2A := cell_of_row _ T 2 _ _ _ ZA.t; simp at k1A k2A; clear cR)
          | (go_at_call 32; refine Calls.mono CR.out ?_; rintro e wB ⟨qvB, gBB, gQB, rfl, hrB, hfB, hnB, hnB2⟩; have ZB := ZA.rop (fun _ h => .inr h) hjne hrB hfB hnB hnB2; have k1B := cell_of_row _ T 1 _ _ _ ZB.t; have k2B := cell_of_row _ T 2 _ _ _ ZB.t; simp at k1B k2B))
      clear CD CR hrB hfB hnB hnB2 hdA hfA hnA k1 k2 k1A k2A k1B k2B HR
      have hz := ZB
      have bi2 := row_bi hz.gr hbn hbyt
      have bi3 := (hB.kept hz.bw)
      have ii2 := row_ii hz.jr hjn hirng
      have ii3 := (hI.kept hz.bw)
      have k3 := cell_of_row _ T 3 _ _ _ hz.t
      have k4 := cell_of_row _ T 4 _ _ _ hz.t
      simp at k3 k4
      have ce := equal_any gp bp bn gc bn bc k.bytes k.bytes _ bi2 bi3
      rw [show (k.bytes == k.bytes) = true by simp] at ce
      have CE := (show Hid _ from ce)
      have CI := (show Hid _ from iequal_same jp ip jn jc ic k.ids _ ii2 ii3)
      clear ce bi2 bi3 ii2 ii3
      go_wp2_with fail
      refine same_at CE.out ?_
      go_wp2_with fail
      refine Calls.mono CI.out ?_
      rintro e wE ⟨rfl, hbE⟩
      have hzE := hz.later hbE
      have CS := (show Hid _ from spoil_ok hzE.gr hbn)
      go_wp2_with fail
      refine Calls.mono CS.out ?_
      rintro e wF ⟨⟨u, rfl⟩, hfF⟩
      obtain ⟨hdF, hrF, hbF, hxF⟩ := hzE.fin hfF
      have hdn := hzE.dn
      have hrn := hzE.rn
      clear CE CI CS hz hzE hbE hfF k3 k4
      go_wp2
      go_ret
      first | exact ⟨rfl, _, _, _, _, _, _, hdF, hrF, (by have h : S1.last = S.last := hlast; omega), hbF, hxF, hdn, hrn⟩ | exact ⟨_, _, _, _, _, _, rfl, hdF, hrF, (by have h : S1.last = S.last := hlast; omega), hbF, hxF, hdn, hrn⟩ | exact ⟨by first | rfl | exact ret_bool (by simp), _, _, _, _, _, _, hdF, hrF, (by have h : S1.last = S.last := hlast; omega), hbF, hxF, hdn, hrn⟩
  · -- 3
      have cD := dRead Z.d k.b
      have hlast := aRead_last S k.b
      have hrb := aRead_byt S ZA0 k.b
      have k1 := cell_of_row _ T 1 _ _ _ Z.t
      simp at k1
      generalize hR : aRead S k.b = R at cD hlast hrb
      obtain ⟨m1, ys, e1, S1⟩ := R
      have hm128 : m1 ≤ 128 := hrb.2
      have HR := (show Hid _ from hR)
      have CD := (show Hid _ from cD)
      clear cD hR
      go_wp2_with fail
      refine Calls.mono CD.out ?_
      rintro e wA ⟨pa, ca, rfl, hoA, hdA, hfA⟩
      have ZA := Z.dop (fun _ h => .inl h) hdA hfA (fun k hk => .inl hk)
      have cR := rRead ZA.r ZA0 k.b
      rw [HR.out] at cR
      have CR := (show Hid _ from cR)
      have k1A := cell_of_row _ T 1 _ _ _ ZA.t
      simp at k1A
      clear cR CD hdA hfA k1
      go_wp2_with fail
      refine Calls.mono CR.out ?_
      rintro e wB ⟨pb, cb, rfl, hoB, hrB, hfB⟩
      have ZB' := ZA.rop (fun _ h => .inr h) hjne hrB hfB (fun k hk => .inl hk) (fun k hk => .inl hk)
      have hoA2 := ownsRow_kept hoA (w' := wB) (fun i hi => hfB.block i (hoA.lt i hi).2 (fun hx => by
        obtain ⟨cs2, h2⟩ := own_ty hoA hi
        exact ZA.r.notin h2 (by decide) (by decide) (by decide) (by decide) hx))
      have ce := equal_any pa pb m1 ca m1 cb ys ys wB (row_bi hoA2 (by omega) hrb.1) (row_bi hoB (by omega) hrb.1)
      rw [show (ys == ys) = true by simp] at ce
      have CE := (show Hid _ from ce)
      have CS := (show Hid _ from spoil_ok hoA2 (by omega))
      clear ce CR hrB hfB k1A HR
      go_wp2_with fail
      refine same_at CE.out ?_
      go_wp2_with fail
      refine Calls.mono CS.out ?_
      rintro e wC ⟨⟨u, rfl⟩, hfC⟩
      have ZB := ZB'.spoil hoA2 Z.bw.size Z.fr.size hfC (fun i hi => by
        have h1 := (hoA2.lt i hi).1
        refine ⟨fun hx => ?_, fun hx => ?_⟩
        · have := (Z.r.in (.inr hx)).2; omega
        · have := (Z.gr.lt i hx).2; omega)
      clear CE CS hfC hoA2 hoB hoA ZB' 
      have hz := ZB
      have bi2 := row_bi hz.gr hbn hbyt
      have bi3 := (hB.kept hz.bw)
      have ii2 := row_ii hz.jr hjn hirng
      have ii3 := (hI.kept hz.bw)
      have k3 := cell_of_row _ T 3 _ _ _ hz.t
      have k4 := cell_of_row _ T 4 _ _ _ hz.t
      simp at k3 k4
      have ce := equal_any gp bp bn gc bn bc k.bytes k.bytes _ bi2 bi3
      rw [show (k.bytes == k.bytes) = true by simp] at ce
      have CE := (show Hid _ from ce)
      have CI := (show Hid _ from iequal_same jp ip jn jc ic k.ids _ ii2 ii3)
      clear ce bi2 bi3 ii2 ii3
      go_wp2_with fail
      refine same_at CE.out ?_
      go_wp2_with fail
      refine Calls.mono CI.out ?_
      rintro e wE ⟨rfl, hbE⟩
      have hzE := hz.later hbE
      have CS := (show Hid _ from spoil_ok hzE.gr hbn)
      go_wp2_with fail
      refine Calls.mono CS.out ?_
      rintro e wF ⟨⟨u, rfl⟩, hfF⟩
      obtain ⟨hdF, hrF, hbF, hxF⟩ := hzE.fin hfF
      have hdn := hzE.dn
      have hrn := hzE.rn
      clear CE CI CS hz hzE hbE hfF k3 k4
      go_wp2
      go_ret
      first | exact ⟨rfl, _, _, _, _, _, _, hdF, hrF, (by have h : S1.last = S.last := hlast; omega), hbF, hxF, hdn, hrn⟩ | exact ⟨_, _, _, _, _, _, rfl, hdF, hrF, (by have h : S1.last = S.last := hlast; omega), hbF, hxF, hdn, hrn⟩ | exact ⟨by first | rfl | exact ret_bool (by simp), _, _, _, _, _, _, hdF, hrF, (by have h : S1.last = S.last := hlast; omega), hbF, hxF, hdn, hrn⟩
  · -- 4
      have Zd := Z.later (Below.refl _ _).drew
      have cD := dFail Zd.d k.b k.n
      have hlast := aFail_last S k.b k.n
      have k1 := cell_of_row _ T 1 _ _ _ Zd.t
      have k2 := cell_of_row _ T 2 _ _ _ Zd.t
      simp at k1 k2
      generalize hR : aFail S k.b k.n = R at cD hlast
      obtain ⟨e1, S1⟩ := R
      have HR := (show Hid _ from hR)
      have CD := (show Hid _ from cD)
      clear cD hR
      go_wp2_with fail
      go_region_held3 (fun w' => w'.cell? ⟨T, 1, none⟩ = some (.int .i64 k.b) ∧ w'.cell? ⟨T, 2, none⟩ = some (.int .i64 k.n)) (first | exact ⟨k1, k2⟩ | exact ⟨k1A, k2A⟩ | exact ⟨k1B, k2B⟩)
        (first
          | (go_at_call 28; refine Calls.mono CD.out ?_; rintro e wA ⟨rfl, hdA, hfA⟩; have ZA := Zd.dop (fun _ h => .inl h) hdA hfA (fun k hk => .inl hk); have cR := rFail ZA.r k.b k.n; rw [HR.out] at cR; have CR := (show Hid _ from cR); have k1A := cell_of_row _ T 1 _ _ _ ZA.t; have k2A := cell_of_row _ T 2 _ _ _ ZA.t; simp at k1A k2A; clear cR)
          | (go_at_call 35; refine Calls.mono CR.out ?_; rintro e wB ⟨rfl, hrB, hfB⟩; have ZB := ZA.rop (fun _ h => .inr h) hjne hrB hfB (fun k hk => .inl hk) (fun k hk => .inl hk); have k1B := cell_of_row _ T 1 _ _ _ ZB.t; have k2B := cell_of_row _ T 2 _ _ _ ZB.t; simp at k1B k2B))
      clear CD CR hrB hfB hdA hfA k1 k2 k1A k2A k1B k2B HR
      have hz := ZB
      have bi2 := row_bi hz.gr hbn hbyt
      have bi3 := (hB.kept hz.bw)
      have ii2 := row_ii hz.jr hjn hirng
      have ii3 := (hI.kept hz.bw)
      have k3 := cell_of_row _ T 3 _ _ _ hz.t
      have k4 := cell_of_row _ T 4 _ _ _ hz.t
      simp at k3 k4
      have ce := equal_any gp bp bn gc bn bc k.bytes k.bytes _ bi2 bi3
      rw [show (k.bytes == k.bytes) = true by simp] at ce
      have CE := (show Hid _ from ce)
      have CI := (show Hid _ from iequal_same jp ip jn jc ic k.ids _ ii2 ii3)
      clear ce bi2 bi3 ii2 ii3
      go_wp2_with fail
      refine same_at CE.out ?_
      go_wp2_with fail
      refine Calls.mono CI.out ?_
      rintro e wE ⟨rfl, hbE⟩
      have hzE := hz.later hbE
      have CS := (show Hid _ from spoil_ok hzE.gr hbn)
      go_wp2_with fail
      refine Calls.mono CS.out ?_
      rintro e wF ⟨⟨u, rfl⟩, hfF⟩
      obtain ⟨hdF, hrF, hbF, hxF⟩ := hzE.fin hfF
      have hdn := hzE.dn
      have hrn := hzE.rn
      clear CE CI CS hz hzE hbE hfF k3 k4
      go_wp2
      go_ret
      first | exact ⟨rfl, _, _, _, _, _, _, hdF, hrF, (by have h : S1.last = S.last := hlast; omega), hbF, hxF, hdn, hrn⟩ | exact ⟨_, _, _, _, _, _, rfl, hdF, hrF, (by have h : S1.last = S.last := hlast; omega), hbF, hxF, hdn, hrn⟩ | exact ⟨by first | rfl | exact ret_bool (by simp), _, _, _, _, _, _, hdF, hrF, (by have h : S1.last = S.last := hlast; omega), hbF, hxF, hdn, hrn⟩
  · -- 5
      have Zd := Z.later (Below.refl _ _).drew
      have cD := dCrash Zd.d jp jn jc k.ids (row_ii Zd.jr hjn hirng) (fun m hm b o hp _ e => by
        subst hp
        subst e
        rcases Zd.jr.2 with ⟨e, _⟩ | ⟨g', cap', cur, e, _, hg', _⟩
        · cases e
        · cases e
          exact Zd.d.notin hg' (by decide) (by decide) hm)
      have hlast := aCrash_last S k.ids
      have k4 := cell_of_row _ T 4 _ _ _ Zd.t
      simp at k4
      generalize hR : aCrash S k.ids = R at cD hlast
      obtain ⟨e1, S1⟩ := R
      have HR := (show Hid _ from hR)
      have CD := (show Hid _ from cD)
      clear cD hR
      go_wp2_with fail
      go_region_held3 (fun w' => w'.cell? ⟨T, 4, none⟩ = some (.slice ip jn ic)) (first | exact k4 | exact k4A | exact k4B)
        (first
          | (go_at_call 24; refine Calls.mono CD.out ?_; rintro e wA ⟨dqA, rfl, hdA, hfA, hnA⟩; have ZA := Zd.dop (fun _ h => .inl h) hdA hfA hnA; have cR := rCrash ZA.r ZA0 ZA.bw.size ip jn ic k.ids (hI.kept ZA.bw) (hIlo ZA.r); rw [HR.out] at cR; have CR := (show Hid _ from cR); have k4A := cell_of_row _ T 4 _ _ _ ZA.t; simp at k4A; clear cR)
          | (go_at_call 36; refine Calls.mono CR.out ?_; rintro e wB ⟨qvB, fvB, gBB, gQB, rfl, hrB, hfB, hnB, hnB2⟩; have ZB := ZA.rop (fun _ h => .inr h) hjne hrB hfB hnB hnB2; have k4B := cell_of_row _ T 4 _ _ _ ZB.t; simp at k4B))
      clear CD CR hrB hfB hnB hnB2 hdA hfA hnA k4 k4A k4B HR
      have hz := ZB
      have bi2 := row_bi hz.gr hbn hbyt
      have bi3 := (hB.kept hz.bw)
      have ii2 := row_ii hz.jr hjn hirng
      have ii3 := (hI.kept hz.bw)
      have k3 := cell_of_row _ T 3 _ _ _ hz.t
      have k4 := cell_of_row _ T 4 _ _ _ hz.t
      simp at k3 k4
      have ce := equal_any gp bp bn gc bn bc k.bytes k.bytes _ bi2 bi3
      rw [show (k.bytes == k.bytes) = true by simp] at ce
      have CE := (show Hid _ from ce)
      have CI := (show Hid _ from iequal_same jp ip jn jc ic k.ids _ ii2 ii3)
      clear ce bi2 bi3 ii2 ii3
      go_wp2_with fail
      refine same_at CE.out ?_
      go_wp2_with fail
      refine Calls.mono CI.out ?_
      rintro e wE ⟨rfl, hbE⟩
      have hzE := hz.later hbE
      have CS := (show Hid _ from spoil_ok hzE.gr hbn)
      go_wp2_with fail
      refine Calls.mono CS.out ?_
      rintro e wF ⟨⟨u, rfl⟩, hfF⟩
      obtain ⟨hdF, hrF, hbF, hxF⟩ := hzE.fin hfF
      have hdn := hzE.dn
      have hrn := hzE.rn
      clear CE CI CS hz hzE hbE hfF k3 k4
      go_wp2
      go_ret
      first | exact ⟨rfl, _, _, _, _, _, _, hdF, hrF, (by have h : S1.last = S.last := hlast; omega), hbF, hxF, hdn, hrn⟩ | exact ⟨_, _, _, _, _, _, rfl, hdF, hrF, (by have h : S1.last = S.last := hlast; omega), hbF, hxF, hdn, hrn⟩ | exact ⟨by first | rfl | exact ret_bool (by simp), _, _, _, _, _, _, hdF, hrF, (by have h : S1.last = S.last := hlast; omega), hbF, hxF, hdn, hrn⟩
end Go.Proofs.Ytnbknoibelajaab

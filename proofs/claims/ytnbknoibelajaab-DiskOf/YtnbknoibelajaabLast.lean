/- DiskLast: a block has what its last write that was done had, or noughts. -/
import Derived.Test.YtnbknoibelajaabScript
import Derived.Test.YtnbknoibelajaabComplete
namespace Go.Proofs.Ytnbknoibelajaab
open Go.RowKit Go.Maps

/-- The slice at p, of n bools, holds bs. -/
structure BoI (w : World) (p : Option Addr) (n : Nat) (bs : List Bool) : Prop where
  len : bs.length = n
  big : n ≤ 140737488355328
  cells : 0 < n → ∃ b o, p = some ⟨b, o, none⟩ ∧ ∀ i y, bs[i]? = some y → w.cell? ⟨b, o + i, none⟩ = some (.bool y)

theorem sflat_at : ∀ (gs : List Nat) (q : List Wr), gs.length = q.length → ∀ (j c : Nat) (x : Wr), q[j]? = some x → c < 3 → (sflat gs q)[j * 3 + c]? = (sent (gs.getD j 0) x)[c]?
  | [], [], _, j, c, x, h, _ => by simp at h
  | g :: gs, y :: r, hl, 0, c, x, h, hc => by
    simp only [List.getElem?_cons_zero, Option.some.injEq] at h
    subst h
    have e : sflat (g :: gs) (y :: r) = sent g y ++ sflat gs r := by simp [sflat]
    rw [e, Nat.zero_mul, Nat.zero_add, List.getElem?_append_left (by simp [sent]; omega)]
    simp
  | g :: gs, y :: r, hl, j + 1, c, x, h, hc => by
    simp only [List.getElem?_cons_succ] at h
    have ih := sflat_at gs r (by simpa using hl) j c x h hc
    have e : sflat (g :: gs) (y :: r) = sent g y ++ sflat gs r := by simp [sflat]
    have el : (sent g y).length = 3 := rfl
    rw [e, List.getElem?_append_right (by rw [el]; omega), el]
    have e2 : (j + 1) * 3 + c - 3 = j * 3 + c := by omega
    rw [e2, ih]
    simp
  | [], y :: r, hl, _, _, _, _, _ => by simp at hl
  | g :: gs, [], hl, _, _, _, _, _ => by simp at hl

theorem Sents.at {B : Nat} {w : World} {g : Nat} {gs : List Nat} {q : List Wr} (h : Sents B w g gs q) {j : Nat} {x : Wr} (hx : q[j]? = some x) :
    w.cell? ⟨g, j * 3, none⟩ = some (.int .i64 x.id) ∧ w.cell? ⟨g, j * 3 + 1, none⟩ = some (.int .i64 (x.block : Int)) ∧ w.cell? ⟨g, j * 3 + 2, none⟩ = some (sl (gs.getD j 0)) := by
  have hj := (List.getElem?_eq_some_iff.1 hx).1
  have a0 := sflat_at gs q h.len j 0 x hx (by omega)
  have a1 := sflat_at gs q h.len j 1 x hx (by omega)
  have a2 := sflat_at gs q h.len j 2 x hx (by omega)
  refine ⟨?_, ?_, ?_⟩
  · rw [Nat.add_zero] at a0
    rw [h.row.cellAt _ (by omega), a0]; rfl
  · rw [h.row.cellAt _ (by omega), a1]; rfl
  · rw [h.row.cellAt _ (by omega), a2]; rfl

theorem Sents.kept {B : Nat} {w w' : World} {g : Nat} {gs : List Nat} {q : List Wr} (h : Sents B w g gs q) (hb : ∀ k, B ≤ k → k < w.heap.size → w'.heap[k]? = w.heap[k]?) : Sents B w' g gs q := by
  refine ⟨ownsRow_kept h.row (fun k hk => ?_), h.len, fun i x hx => ownsRow_kept (h.el i x hx) (fun k hk => ?_)⟩
  · have := h.row.lt k hk; exact hb k this.1 this.2
  · have := World.ownsRow.lt (h.el i x hx) k hk; exact hb k this.1 this.2

theorem Sents.base {B B' : Nat} {w : World} {g : Nat} {gs : List Nat} {q : List Wr} (h : Sents B w g gs q) (hB : B' ≤ B) : Sents B' w g gs q := by
  refine ⟨⟨h.row.1, ?_⟩, h.len, fun i x hx => (h.el i x hx).base hB⟩
  rcases h.row.2 with ⟨h', r⟩ | ⟨g', cap', cur, h', hbg, rest⟩
  · exact .inl ⟨h', r⟩
  · exact .inr ⟨g', cap', cur, h', by omega, rest⟩

/-- One block of an image is set. -/
theorem Img.set {B : Nat} {w : World} {g n : Nat} {gs : List Nat} {L : Nat → List Int} (h : Img B w g n gs L) {b g' : Nat} {xs : List Int} (ho : Own B w g' 128 128 xs) (hb : b < n) : Img B (w.setCell ⟨g, b, none⟩ (sl g')) g n (gs.set b g') (upd L b xs) := by
  refine ⟨?_, ?_⟩
  · have := (h.row.stored b (sl g')).1
    rw [← List.map_set] at this
    exact this
  · intro i hi
    have hl := h.len
    unfold upd
    by_cases e : i = b
    · subst e
      rw [if_pos rfl]
      have e1 : (gs.set i g').getD i 0 = g' := by simp [List.getD_eq_getElem?_getD, List.getElem?_set_self (show i < gs.length by omega)]
      rw [e1]
      exact ho.setOther (rows_ne ho h.row (by decide)) _
    · rw [if_neg e]
      have e1 : (gs.set b g').getD i 0 = gs.getD i 0 := by simp [List.getD_eq_getElem?_getD, List.getElem?_set_ne (Ne.symm e)]
      rw [e1]
      exact (h.el i hi).setOther (rows_ne (h.el i hi) h.row (by decide)) _

/-- Where the loop over the queue stands. -/
structure At (w w1 wr : World) (a mb fb gw gq : Nat) (gsq : List Nat) (q : List Wr) (N j : Nat) (qv : Value) (S : St) (gsw : List Nat) (L : Nat → List Int) : Prop where
  d : DI w.heap.size wr a mb fb qv S
  foot : ∀ k, foot a mb fb qv k → k < w1.heap.size
  sq : S.q = q.drop j
  sn : S.N = N
  img : Img w1.heap.size wr gw N gsw L
  sents : Sents w1.heap.size wr gq gsq q
  bw : Below w.heap.size w wr
  b1 : w1.heap.size ≤ wr.heap.size

theorem At.later {w w1 wr w' : World} {a mb fb gw gq : Nat} {gsq : List Nat} {q : List Wr} {N j : Nat} {qv : Value} {S : St} {gsw : List Nat} {L : Nat → List Int} (h : At w w1 wr a mb fb gw gq gsq q N j qv S gsw L) (hb : Below wr.heap.size wr w') : At w w1 w' a mb fb gw gq gsq q N j qv S gsw L :=
  ⟨h.d.later hb, h.foot, h.sq, h.sn, h.img.kept (fun k _ hk => hb.block k hk), h.sents.kept (fun k _ hk => hb.block k hk), h.bw.trans (hb.mono h.bw.size), Nat.le_trans h.b1 hb.size⟩

/-- One write is done, or fails. -/
theorem At.step {w w1 wr w' : World} {a mb fb gw gq : Nat} {gsq : List Nat} {q : List Wr} {N j : Nat} {qv qv' : Value} {S : St} {gsw : List Nat} {L : Nat → List Int} (h : At w w1 wr a mb fb gw gq gsq q N j qv S gsw L) {x : Wr} {ok : Bool} (hw : w.heap.size ≤ w1.heap.size)
    (hd : DI w.heap.size w' a mb fb qv' (S.done 0 x ok)) (hf : Frame (Go.Proofs.Ytnbknoibelajaab.foot a mb fb qv) wr w') (ho : qv'.ownBlock = qv.ownBlock) : At w w1 w' a mb fb gw gq gsq q N (j + 1) qv' (S.done 0 x ok) gsw L := by
  have hk : ∀ k, w1.heap.size ≤ k → k < wr.heap.size → w'.heap[k]? = wr.heap[k]? := fun k h1 h2 => hf.block k h2 (fun hx => by have := h.foot k hx; omega)
  refine ⟨hd, ?_, ?_, h.sn, ?_, h.sents.kept hk, h.bw.trans (hf.below (Nat.le_trans hw h.b1) (fun k hk => (h.d.in k hk).1)), Nat.le_trans h.b1 hf.size⟩
  · intro k hk
    apply h.foot k
    rcases hk with e | e | e | e
    · exact .inl e
    · exact .inr (.inl e)
    · exact .inr (.inr (.inl e))
    · exact .inr (.inr (.inr (by rw [← ho]; exact e)))
  · show (S.q.eraseIdx 0) = _
    rw [h.sq]
    simp [List.eraseIdx_zero]
  · exact h.img.kept hk
/-- The wanted image takes the write's bytes. -/
theorem At.want {w w1 wr : World} {a mb fb gw gq : Nat} {gsq : List Nat} {q : List Wr} {N j : Nat} {qv : Value} {S : St} {gsw : List Nat} {L : Nat → List Int} (h : At w w1 wr a mb fb gw gq gsq q N j qv S gsw L) (hw : w.heap.size ≤ w1.heap.size) {i : Nat} {x : Wr} (hx : q[i]? = some x) (hb : x.block < N) :
    At w w1 (wr.setCell ⟨gw, x.block, none⟩ (sl (gsq.getD i 0))) a mb fb gw gq gsq q N j qv S (gsw.set x.block (gsq.getD i 0)) (upd L x.block x.bytes) := by
  have hg := (h.img.row.lt gw rfl).1
  have hk : ∀ k, k ≠ gw → (wr.setCell ⟨gw, x.block, none⟩ (sl (gsq.getD i 0))).heap[k]? = wr.heap[k]? := fun k hk => Below.heap_setCell wr ⟨gw, x.block, none⟩ _ k hk
  refine ⟨h.d.kept (fun k hk' => hk k (by have := h.foot k hk'; omega)), h.foot, h.sq, h.sn, h.img.set (h.sents.el i x hx) hb, ?_, h.bw.setCell (Nat.le_trans hw hg) _, by simpa using h.b1⟩
  refine ⟨ownsRow_kept h.sents.row (fun k hk' => ?_), h.sents.len, fun i x hx => (h.sents.el i x hx).setOther (rows_ne (h.sents.el i x hx) h.img.row (by decide)) _⟩
  cases hk'
  exact hk gq (rows_ne h.sents.row h.img.row (by decide))

theorem find_zero {q : List Wr} {j : Nat} {x : Wr} (hx : q[j]? = some x) : (q.drop j).findIdx? (fun y => y.id == x.id) = some 0 ∧ (q.drop j)[0]? = some x := by
  have e : q.drop j = x :: q.drop (j + 1) := by
    obtain ⟨h1, h2⟩ := List.getElem?_eq_some_iff.1 hx
    rw [← h2]; exact List.drop_eq_getElem_cons h1
  rw [e]
  simp [List.findIdx?_cons]

set_option maxRecDepth 10000 in
set_option maxHeartbeats 4000000 in
theorem last_walk (blocks : Int) (p : Option Addr) (n c : Nat) (D : List DoV) (wp : Option Addr) (wn wc : Nat) (bs : List Bool) (w : World) (h : DoI w p n D) (hB : BoI w wp wn bs) :
    Calls Try.prog 6 #[.int .i64 blocks, .slice p n c, .slice wp wn wc] w fun e w' => e = .returned (.bool true) ∧ Below w.heap.size w w' := by
  have hwn := hB.big
  have hbl := hB.len
  go_enter Try.func6, Try.ntmps6
  go_wp2_with fail
  refine (script_ok blocks p n c D w h).mono ?_
  rintro e w1 ⟨a, mb, fb, qv, S, N, rfl, hd, hsc, _, hb1⟩
  go_wp2_with fail
  refine (image_ok hd).mono ?_
  rintro e w2 ⟨gw, gsw, rfl, him, hb2⟩
  have hd2 := hd.later hb2
  go_wp2_with fail
  refine (queue_ok hd2).mono ?_
  rintro e w3 ⟨gq, gsq, rfl, hsq, hb3⟩
  have hd3 := hd2.later hb3
  have hN2 := hd.N2
  have hN1 := hd.N1
  have hq64 := hd.q64
  have hat : At w w1 w3 a mb fb gw gq gsq S.q S.N 0 qv S gsw S.f := ⟨hd3, fun k hk => (hd.in k hk).2, rfl, rfl, him.kept (fun k _ hk => hb3.block k hk), hsq.base hb2.size, hb1.trans ((hb2.mono hb1.size).trans (hb3.mono (Nat.le_trans hb1.size hb2.size))), Nat.le_trans hb2.size hb3.size⟩
  have hqok := hd.qok
  obtain ⟨q, hq⟩ : ∃ q, S.q = q := ⟨_, rfl⟩
  obtain ⟨M, hM⟩ : ∃ M, S.N = M := ⟨_, rfl⟩
  rw [hq, hM] at hat
  rw [hq] at hq64
  rw [hM] at hN1 hN2
  have hqok' : ∀ x ∈ q, x.block < M := by rw [← hq, ← hM]; exact fun x hx => (hqok x hx).1
  rw [hq, hM]
  have hw1 := hb1.size
  clear hd hd2 hd3 hsq him hb2 hb3 hqok hsc
  go_wp2_with fail
  clear hq hM
  go_loopw [22] (fun i wr => ∃ (j : Nat) (qv : Value) (S : St) (gsw : List Nat), j ≤ q.length ∧ i = .int .i64 (j : Int) ∧ At w w1 wr a mb fb gw gq gsq q M j qv S gsw S.f) (fun i _ => q.length - (intOf i).toNat)
  case atStart => exact ⟨0, _, _, _, by omega, rfl, hat⟩
  case round =>
    clear hat
    obtain ⟨j, qv, S, gsw, hj, rfl, hat⟩ := hrel
    by_cases hlt : j < q.length
    · obtain ⟨x, hx⟩ : ∃ x, q[j]? = some x := ⟨q[j], List.getElem?_eq_getElem hlt⟩
      have hxb := hqok' x (List.mem_of_getElem? hx)
      obtain ⟨s0, s1, s2⟩ := hat.sents.at hx
      obtain ⟨fz, fx⟩ := find_zero hx
      rw [← hat.sq] at fz fx
      obtain ⟨g', hg'⟩ : ∃ g', g' = gsq.getD j 0 := ⟨_, rfl⟩
      rw [← hg'] at s2
      have HG := (show Hid (g' = gsq.getD j 0) from hg')
      clear hg'
      have hb6 := (Below.refl wr.heap.size wr).alloc (Nat.le_refl _) (.cells #[.int .i64 x.id, .int .i64 (x.block : Int), sl g'] 52)
      have hat6 := hat.later hb6
      have hT6 : (wr.alloc (.cells #[.int .i64 x.id, .int .i64 (x.block : Int), sl g'] 52)).heap[wr.heap.size]? = some (.cells #[.int .i64 x.id, .int .i64 (x.block : Int), sl g'] 52 (0, 0)) := at_new rfl
      have hTf : ∀ k, foot a mb fb qv k → k ≠ wr.heap.size := fun k hk => by have := (hat.d.in k hk).2; omega
      have hTw : wr.heap.size ≠ gw := by have := (hat.img.row.lt gw rfl).2; omega
      obtain ⟨ok, hok⟩ : ∃ ok : Bool, (ok = true ↔ j < wn ∧ bs[j]? = some true) := ⟨decide (j < wn ∧ bs[j]? = some true), by simp⟩
      have cc := complete_some hat6.d x.id ok 0 x fz fx
      have HC := (show Hid _ from cc)
      clear cc
      unfold sl at s2 hb6 hat6 hT6 HC
      have c60 : (wr.alloc (.cells #[.int .i64 x.id, .int .i64 (x.block : Int), .slice (some ⟨g', 0, none⟩) 128 128] 52)).cell? ⟨wr.heap.size, 0, none⟩ = some (.int .i64 x.id) := by rw [cell_of_row _ _ 0 _ _ _ hT6]; rfl
      generalize hw6 : wr.alloc (.cells #[.int .i64 x.id, .int .i64 (x.block : Int), .slice (some ⟨g', 0, none⟩) 128 128] 52) = w6 at hb6 hat6 hT6 HC c60
      by_cases hjw : j < wn
      · obtain ⟨wb, wo, rfl, hwc⟩ := hB.cells (by omega)
        obtain ⟨y, hy⟩ : ∃ y, bs[j]? = some y := ⟨bs[j], List.getElem?_eq_getElem (by omega)⟩
        have hy0 := hwc j y hy
        have hy6 : w6.cell? ⟨wb, wo + j, none⟩ = some (.bool y) := (hat6.bw.cell (p := ⟨wb, wo + j, none⟩) (lt_of_cell hy0)).trans hy0
        have hyo : y = ok := Bool.eq_iff_iff.2 (by rw [hok, hy]; simp [hjw])
        subst hyo
        clear hwc hy0 hB h hok hy
        go_wp2_with fail
        refine Calls.mono HC.out ?_
        rintro e w7 ⟨qv7, rfl, hd7, hf7, ho7⟩
        have hat7 := hat6.step hw1 hd7 hf7 ho7
        have hT7 : w7.heap[wr.heap.size]? = _ := (hf7.block wr.heap.size (Array.getElem?_eq_some_iff.1 hT6).1 (fun hk => hTf _ hk rfl)).trans hT6
        have c71 := cell_of_row w7 wr.heap.size 1 _ _ _ hT7
        have c72 := cell_of_row w7 wr.heap.size 2 _ _ _ hT7
        simp at c71 c72
        obtain ⟨vw, cw⟩ : ∃ vw, w7.cell? ⟨gw, x.block, none⟩ = some vw := by
          have hl := hat7.img.len
          exact ⟨_, (hat7.img.row.cellAt x.block (by omega)).trans (List.getElem?_eq_getElem (by simp; omega))⟩
        have fw := hat7.img.row.frozenAt x.block
        clear HC hd7 hf7 ho7 hT7 hT6 hat6 hat hb6 s0 s1 s2 c60
        cases y with
        | true =>
          go_wp2
          go_roundw
          case rel =>
            have hfin := hat7.want hw1 hx hxb
            rw [← HG.out] at hfin
            exact ⟨j + 1, qv7, _, _, by omega, by go_num, hfin⟩
          case measure => simp [intOf]; omega
        | false =>
          go_wp2
          go_roundw
          case rel => exact ⟨j + 1, qv7, _, _, by omega, by go_num, hat7⟩
          case measure => simp [intOf]; omega
      · have hyo : ok = false := by
          cases ok
          · rfl
          · exact absurd (hok.1 rfl).1 hjw
        subst hyo
        clear hB h hok
        go_wp2_with fail
        refine Calls.mono HC.out ?_
        rintro e w7 ⟨qv7, rfl, hd7, hf7, ho7⟩
        have hat7 := hat6.step hw1 hd7 hf7 ho7
        have hT7 : w7.heap[wr.heap.size]? = _ := (hf7.block wr.heap.size (Array.getElem?_eq_some_iff.1 hT6).1 (fun hk => hTf _ hk rfl)).trans hT6
        have c71 := cell_of_row w7 wr.heap.size 1 _ _ _ hT7
        have c72 := cell_of_row w7 wr.heap.size 2 _ _ _ hT7
        simp at c71 c72
        obtain ⟨vw, cw⟩ : ∃ vw, w7.cell? ⟨gw, x.block, none⟩ = some vw := by
          have hl := hat7.img.len
          exact ⟨_, (hat7.img.row.cellAt x.block (by omega)).trans (List.getElem?_eq_getElem (by simp; omega))⟩
        have fw := hat7.img.row.frozenAt x.block
        clear HC hd7 hf7 ho7 hT7 hT6 hat6 hat hb6 s0 s1 s2 c60
        go_wp2
        go_roundw
        case rel => exact ⟨j + 1, qv7, _, _, by omega, by go_num, hat7⟩
        case measure => simp [intOf]; omega
    · obtain rfl : j = q.length := by omega
      go_wp2_with fail
      refine (image_ok hat.d).mono ?_
      rintro e w8 ⟨g8, gs8, rfl, him8, hb8⟩
      have hat8 := hat.later hb8
      have hS := fun i => (hat.d.secs.all i).2
      rw [hat.sn] at him8
      have i1 := him8.ib (by omega) (fun i _ => hS i)
      have i2 := hat8.img.ib (by omega) (fun i _ => hS i)
      have hsame := sameImage_ok _ _ _ M _ M _ _ w8 i1 i2
      rw [show (imgL S.f M == imgL S.f M) = true by simp] at hsame
      have hbl8 := blocks_ok hat8.d
      rw [hat8.sn] at hbl8
      have HS := (show Hid _ from hsame)
      have HB8 := (show Hid _ from hbl8)
      have hbw := hat8.bw
      have hsn := hat8.sn
      clear hsame hbl8 i1 i2 hat hat8 him8 hb8 hS
      go_wp2_with fail
      refine same_at HS.out ?_
      go_wp2_with fail
      refine same_at HB8.out ?_
      go_wp2
      go_ret
      exact ⟨by first | rfl | exact ret_bool (by simp), hbw⟩
end Go.Proofs.Ytnbknoibelajaab
